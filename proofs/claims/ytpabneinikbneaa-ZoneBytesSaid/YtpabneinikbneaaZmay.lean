/-
  Contracts: zone.allPossible, slices.IndexFunc and ContainsFunc of a closure, zone.May.
-/
import Derived.Test.YtpabneinikbneaaZpos
import Derived.Test.YtpabneinikbneaaNkey
namespace Go.Proofs.Ytpabneinikbneaa
set_option linter.unusedVariables false
set_option linter.unusedSimpArgs false
open Go.RowKit

set_option maxRecDepth 100000 in
set_option maxHeartbeats 4000000 in
theorem allPossible_any (l : List Pt) (hl : l.length ≤ 1000000) (hth : ∀ t ∈ l, thing t) (ls : Value) (css : List (List Value)) (zv : Value) (zs : List Zv) (cnt : Int) (w : World) (hs : RdS w 8 ls css) (ht : RdTs w l css) (hz : RdZV w zv zs) (hzl : zs.length ≤ 1000000) :
    Calls Try.prog 73 #[ls, zv, .int .i64 cnt] w fun e w' => e = .returned (.bool (l.all fun t => posT t (zs.map Zv.t) cnt)) ∧ Below w.heap.size w w' := by
  obtain ⟨ao, cap, rfl⟩ := rdS_shape hs
  have hcl := rdTs_len ht
  obtain ⟨n, hN⟩ : ∃ n, n = l.length := ⟨_, rfl⟩
  rw [hcl, ← hN] at hs ⊢
  rw [← hN] at hl
  have HN := Lib.hid hN
  have HS := Lib.hid hs
  have HT := Lib.hid ht
  have HZ := Lib.hid hz
  have HTH := Lib.hid hth
  obtain ⟨za, zc, rfl⟩ := rdZV_shape hz
  clear hs ht hcl hN hz hth
  go_enter Try.func73, Try.ntmps73
  go_wp2_with fail
  go_loopw [11] (fun i wr => ∃ q : Nat, q ≤ n ∧ i = .int .i64 (q : Int) ∧ ((l.take q).all fun t => posT t (zs.map Zv.t) cnt) = true ∧ Below w.heap.size w wr) (fun i _ => n - (intOf i).toNat)
  case atStart => exact ⟨0, Nat.zero_le _, rfl, by simp, Below.refl _ _⟩
  case round =>
    obtain ⟨q, hq, rfl, hno, hb⟩ := hrel
    have HNO := Lib.hid hno
    have HB := Lib.hid hb
    clear hno hb
    by_cases hlt : q < n
    · obtain ⟨p, hp⟩ : ∃ p, l[q]? = some p := ⟨_, List.getElem?_eq_getElem (by rw [← HN.out]; exact hlt)⟩
      have HP := Lib.hid hp
      obtain ⟨cs, hcs, hrd⟩ := rdTs_at HT.out hp
      have HCALL := Lib.hid fun o => possible_any p (HTH.out p (List.mem_of_getElem? hp)) cs _ zs cnt (wr.alloc o) (RdT1.kept (below_lay HB.out o) _ hrd) (HZ.out.kept (below_lay HB.out o)) hzl
      obtain ⟨B, hB⟩ : ∃ B, B = posT p (zs.map Zv.t) cnt := ⟨_, rfl⟩
      rw [← hB] at HCALL
      have HBB := Lib.hid hB
      clear hp hB
      obtain ⟨pk, pc, po, pv, pl⟩ := p
      unfold RdT1 at hrd
      obtain ⟨es, els, ecss, rfl, hok, hels, hets⟩ := hrd
      obtain ⟨sa, sc, hes⟩ := rd_shape8 hok.1
      obtain ⟨ea, ec, hel⟩ := rdS_shape hels
      simp only at hes
      subst hes hel
      obtain ⟨b, off, rfl, hcell⟩ := (HS.out.kept HB.out).at hcs
      have k0 := hcell 0 _ rfl
      have k1 := hcell 1 _ rfl
      have k2 := hcell 2 _ rfl
      have k3 := hcell 3 _ rfl
      have k4 := hcell 4 _ rfl
      have k5 := hcell 5 _ rfl
      have k6 := hcell 6 _ rfl
      have k7 := hcell 7 _ rfl
      simp only [Nat.add_zero] at k0
      obtain ⟨pu, pvk, pvn, pb⟩ := pv
      unfold cellsP at HCALL
      simp only at HCALL k0 k1 k2 k3 k4 k5 k6 k7
      clear hok hels hets hcell hcs
      have HBA := Lib.hid fun o => below_lay HB.out o
      cases B with
      | false =>
        have HA := Lib.hid (show (l.all fun t => posT t (zs.map Zv.t) cnt) = false by
          rw [List.all_eq_false]
          exact ⟨_, List.mem_of_getElem? HP.out, by rw [← HBB.out]; simp⟩)
        go_wp2_with fail
        refine (HCALL.out _).mono ?_
        rintro e w2 ⟨rfl, hb2⟩
        have HF := Lib.hid (below_then (HBA.out _) hb2)
        clear hb2
        go_wp2_with fail
        go_ret
        exact ⟨by rw [HA.out] <;> rfl, HF.out⟩
      | true =>
        have HNO2 := Lib.hid (show ((l.take (q + 1)).all fun t => posT t (zs.map Zv.t) cnt) = true by
          rw [List.take_add_one, HP.out, List.all_append, HNO.out]
          simp [← HBB.out])
        go_wp2_with fail
        refine (HCALL.out _).mono ?_
        rintro e w2 ⟨rfl, hb2⟩
        have HF := Lib.hid (below_then (HBA.out _) hb2)
        clear hb2
        go_wp2_with fail
        go_roundw
        case rel => exact ⟨q + 1, by omega, by go_num, HNO2.out, HF.out⟩
        case measure => simp [intOf]; omega
    · have hqn : q = n := by omega
      have htk : l.take q = l := List.take_of_length_le (by rw [← HN.out, hqn]; exact Nat.le_refl _)
      have HA := Lib.hid (show (l.all fun t => posT t (zs.map Zv.t) cnt) = true by have h := HNO.out; rw [htk] at h; exact h)
      clear hqn htk
      go_wp2_with fail
      go_ret
      exact ⟨by rw [HA.out] <;> rfl, HB.out⟩

set_option maxRecDepth 100000 in
set_option maxHeartbeats 4000000 in
theorem indexFn_any (f : Pt → Bool) (cp1 cp2 : Value) (l : List Pt) (hl : l.length ≤ 1000000) (ls : Value) (css : List (List Value)) (w : World) (hs : RdS w 8 ls css) (ht : RdTs w l css)
    (hf : ∀ (q : Pt) (cs : List Value) (w' : World), q ∈ l → Below w.heap.size w w' → RdT1 w' q cs → Calls Try.prog 72 #[.agg cs.toArray, cp1, cp2] w' fun e w2 => e = .returned (.bool (f q)) ∧ Below w'.heap.size w' w2) :
    Calls Try.prog 63 #[ls, .func (.func 72) #[] #[cp1, cp2]] w fun e w' => e = .returned (.int .i64 (idxT f l)) ∧ Below w.heap.size w w' := by
  obtain ⟨ao, cap, rfl⟩ := rdS_shape hs
  have hcl := rdTs_len ht
  obtain ⟨n, hN⟩ : ∃ n, n = l.length := ⟨_, rfl⟩
  rw [hcl, ← hN] at hs ⊢
  rw [← hN] at hl
  have HN := Lib.hid hN
  have HS := Lib.hid hs
  have HT := Lib.hid ht
  have HF0 := Lib.hid hf
  clear hs ht hcl hN hf
  go_enter Try.func63, Try.ntmps63
  go_wp2_with fail
  go_loopw [8] (fun i wr => ∃ q : Nat, q ≤ n ∧ i = .int .i64 (q : Int) ∧ (∀ y ∈ l.take q, f y = false) ∧ Below w.heap.size w wr) (fun i _ => n - (intOf i).toNat)
  case atStart => exact ⟨0, Nat.zero_le _, rfl, by simp, Below.refl _ _⟩
  case round =>
    obtain ⟨q, hq, rfl, hno, hb⟩ := hrel
    have HNO := Lib.hid hno
    have HB := Lib.hid hb
    clear hno hb
    by_cases hlt : q < n
    · obtain ⟨p, hp⟩ : ∃ p, l[q]? = some p := ⟨_, List.getElem?_eq_getElem (by rw [← HN.out]; exact hlt)⟩
      have HP := Lib.hid hp
      obtain ⟨cs, hcs, hrd⟩ := rdTs_at HT.out hp
      have HCALL := Lib.hid (HF0.out p cs wr (List.mem_of_getElem? hp) HB.out (RdT1.kept HB.out _ hrd))
      obtain ⟨B, hB⟩ : ∃ B, B = f p := ⟨_, rfl⟩
      rw [← hB] at HCALL
      have HBB := Lib.hid hB
      clear hp hB
      obtain ⟨pk, pc, po, pv, pl⟩ := p
      unfold RdT1 at hrd
      obtain ⟨es, els, ecss, rfl, hok, hels, hets⟩ := hrd
      obtain ⟨sa, sc, hes⟩ := rd_shape8 hok.1
      obtain ⟨ea, ec, hel⟩ := rdS_shape hels
      simp only at hes
      subst hes hel
      obtain ⟨b, off, rfl, hcell⟩ := (HS.out.kept HB.out).at hcs
      have k0 := hcell 0 _ rfl
      have k1 := hcell 1 _ rfl
      have k2 := hcell 2 _ rfl
      have k3 := hcell 3 _ rfl
      have k4 := hcell 4 _ rfl
      have k5 := hcell 5 _ rfl
      have k6 := hcell 6 _ rfl
      have k7 := hcell 7 _ rfl
      simp only [Nat.add_zero] at k0
      obtain ⟨pu, pvk, pvn, pb⟩ := pv
      unfold cellsP at HCALL
      simp only at HCALL k0 k1 k2 k3 k4 k5 k6 k7
      clear hok hels hets hcell hcs
      cases B with
      | true =>
        have HA := Lib.hid (idxT_found HP.out HBB.out.symm HNO.out)
        go_wp2_with fail
        refine HCALL.out.mono ?_
        rintro e w2 ⟨rfl, hb2⟩
        have HF := Lib.hid (HB.out.trans (hb2.mono HB.out.size))
        clear hb2
        go_wp2_with fail
        go_ret
        exact ⟨by rw [HA.out] <;> rfl, HF.out⟩
      | false =>
        have HNO2 := Lib.hid (show ∀ y ∈ l.take (q + 1), f y = false from fun y hy => by
          rw [List.take_add_one, HP.out] at hy
          rcases List.mem_append.1 hy with h | h
          · exact HNO.out y h
          · simp at h; rw [h, ← HBB.out])
        go_wp2_with fail
        refine HCALL.out.mono ?_
        rintro e w2 ⟨rfl, hb2⟩
        have HF := Lib.hid (HB.out.trans (hb2.mono HB.out.size))
        clear hb2
        go_wp2_with fail
        go_roundw
        case rel => exact ⟨q + 1, by omega, by go_num, HNO2.out, HF.out⟩
        case measure => simp [intOf]; omega
    · have hqn : q = n := by omega
      have htk : l.take q = l := List.take_of_length_le (by rw [← HN.out, hqn]; exact Nat.le_refl _)
      have HA := Lib.hid (show idxT f l = -1 from idxT_none (by have h := HNO.out; rw [htk] at h; exact h))
      clear hqn htk
      go_wp2_with fail
      go_ret
      exact ⟨by rw [HA.out] <;> rfl, HB.out⟩


theorem idxT_any {α : Type} (f : α → Bool) (l : List α) : decide (0 ≤ idxT f l) = l.any f ∧ (-1 ≤ idxT f l) := by
  unfold idxT
  cases h : l.findIdx? f with
  | none =>
    rw [List.findIdx?_eq_none_iff] at h
    refine ⟨?_, by simp⟩
    rw [show l.any f = false by rw [List.any_eq_false]; intro x hx; rw [h x hx]; simp]
    rfl
  | some i =>
    rw [List.findIdx?_eq_some_iff_getElem] at h
    obtain ⟨h1, h2, _⟩ := h
    refine ⟨?_, by show (-1 : Int) ≤ (i : Int); omega⟩
    rw [show l.any f = true by rw [List.any_eq_true]; exact ⟨_, List.getElem_mem h1, h2⟩]
    simp

set_option maxRecDepth 100000 in
theorem containsFn_any (f : Pt → Bool) (cp1 cp2 : Value) (l : List Pt) (hl : l.length ≤ 1000000) (ls : Value) (css : List (List Value)) (w : World) (hs : RdS w 8 ls css) (ht : RdTs w l css)
    (hf : ∀ (q : Pt) (cs : List Value) (w' : World), q ∈ l → Below w.heap.size w w' → RdT1 w' q cs → Calls Try.prog 72 #[.agg cs.toArray, cp1, cp2] w' fun e w2 => e = .returned (.bool (f q)) ∧ Below w'.heap.size w' w2) :
    Calls Try.prog 71 #[ls, .func (.func 72) #[] #[cp1, cp2]] w fun e w' => e = .returned (.bool (l.any f)) ∧ Below w.heap.size w w' := by
  have HC := Lib.hid (indexFn_any f cp1 cp2 l hl ls css w hs ht hf)
  have hi := idxT_any f l
  obtain ⟨x, hx⟩ : ∃ x, x = idxT f l := ⟨_, rfl⟩
  rw [← hx] at HC hi
  obtain ⟨ao, cap, rfl⟩ := rdS_shape hs
  have HA := Lib.hid hi.1
  have h1 := hi.2
  obtain ⟨B, hB⟩ : ∃ B, B = l.any f := ⟨_, rfl⟩
  rw [← hB] at HA ⊢
  clear hs ht hf hx hi hB
  go_enter Try.func71, Try.ntmps71
  go_wp2_with fail
  refine HC.out.mono ?_
  rintro e w2 ⟨rfl, hb2⟩
  have HF := Lib.hid hb2
  clear hb2
  go_wp2_with fail
  go_ret
  exact ⟨by rw [← HA.out] <;> rfl, HF.out⟩

def mayR (r : Option (List (List Pt))) (zs : List Zt) (cnt : Int) : Bool := match r with
  | none => true
  | some a => a.any fun x => x.all fun t => posT t zs cnt
def mayT (p : Pt) (zs : List Zt) (cnt : Int) : Bool := if cnt < 1 then false else mayR (nrm p false) zs cnt
theorem things_of {p : Pt} {nt : Bool} {a : List (List Pt)} (h : nrm p nt = some a) : ∀ x ∈ a, ∀ t ∈ x, thing t :=
  nrm_all (R := fun _ => True) (Q := thing) ⟨fun c o v l _ o' _ h => by omega, fun c o v l _ => ⟨fun h => by omega, fun _ h => by cases h⟩⟩ (fun _ _ _ _ _ _ _ _ _ => trivial) p nt trivial h
theorem any_map4 (a : List (List Pt)) (f : List Pt → Bool) (g : Pt → Bool) (h : ∀ x, g (.mk 4 0 0 zeroV x) = f x) : (a.map fun x => Pt.mk 4 0 0 zeroV x).any g = a.any f := by
  rw [List.any_map]
  congr 1
  funext x
  exact h x
/-- What the closure asks of an and. -/
def andP (zs : List Zt) (cnt : Int) (t : Pt) : Bool := match t with | .mk _ _ _ _ l => l.all fun t => posT t zs cnt

set_option maxRecDepth 100000 in
set_option maxHeartbeats 4000000 in
theorem may1_any (t : Pt) (hl : ∀ k c o v l, t = .mk k c o v l → l.length ≤ 1000000 ∧ ∀ q ∈ l, thing q) (cs : List Value) (zv : Value) (zs : List Zv) (cnt : Int) (b1 b2 : Nat) (w : World) (hr : RdT1 w t cs) (hz : RdZV w zv zs) (hzl : zs.length ≤ 1000000)
    (h1 : w.cell? ⟨b1, 0, none⟩ = some zv) (h2 : w.cell? ⟨b2, 0, none⟩ = some (.int .i64 cnt)) :
    Calls Try.prog 72 #[.agg cs.toArray, .pointer (some ⟨b1, 0, none⟩), .pointer (some ⟨b2, 0, none⟩)] w fun e w' => e = .returned (.bool (andP (zs.map Zv.t) cnt t)) ∧ Below w.heap.size w w' := by
  obtain ⟨k, c, o, v, l⟩ := t
  obtain ⟨hl1, hl2⟩ := hl k c o v l rfl
  unfold RdT1 at hr
  obtain ⟨s, ls, css, rfl, hov, hls, hts⟩ := hr
  obtain ⟨sa, sc, hes⟩ := rd_shape8 hov.1
  obtain ⟨ea, ec, hel⟩ := rdS_shape hls
  simp only at hes
  subst hes hel
  obtain ⟨za, zc, rfl⟩ := rdZV_shape hz
  obtain ⟨vu, vk, vn, vb⟩ := v
  have hb := fun o => below_alloc w o
  have HC := Lib.hid fun o => allPossible_any l hl1 hl2 _ css _ zs cnt (w.alloc o) (hls.kept (hb o)) (RdTs.kept (hb o) _ hts) (hz.kept (hb o)) hzl
  have HB := Lib.hid hb
  obtain ⟨B, hB⟩ : ∃ B, B = (l.all fun t => posT t (zs.map Zv.t) cnt) := ⟨_, rfl⟩
  rw [← hB] at HC
  have HBB := Lib.hid (show andP (zs.map Zv.t) cnt (.mk k c o ⟨vu, vk, vn, vb⟩ l) = B by rw [hB]; rfl)
  have k1 := fun o => Lib.cell?_alloc_some (W := w) o h1
  have k2 := fun o => Lib.cell?_alloc_some (W := w) o h2
  clear hov hls hts hz hl hl2 hb hB h1 h2
  unfold cellsP
  simp only
  go_enter Try.func72, Try.ntmps72
  go_wp2_with fail
  refine (HC.out _).mono ?_
  rintro e w2 ⟨rfl, hb2⟩
  have HF := Lib.hid (below_then (HB.out _) hb2)
  clear hb2
  go_wp2_with fail
  go_ret
  exact ⟨by rw [HBB.out] <;> rfl, HF.out⟩

set_option maxRecDepth 100000 in
set_option maxHeartbeats 4000000 in
theorem may_any (p : Pt) (hd : depT p ≤ 900) (hc : cntT p ≤ 60000) (hn : nodesT p ≤ 4096) (cs : List Value) (zv : Value) (zs : List Zv) (cnt : Int) (w : World) (hr : RdT1 w p cs) (hz : RdZV w zv zs) (hzl : zs.length ≤ 1000000) :
    Calls Try.prog 37 #[.agg cs.toArray, zv, .int .i64 cnt] w fun e w' => e = .returned (.bool (mayT p (zs.map Zv.t) cnt)) ∧ Below w.heap.size w w' := by
  have HNM := Lib.hid fun w' (h : RdT1 w' p cs) => norm_any p hd hc hn cs w' h
  obtain ⟨r, hrr⟩ : ∃ r, r = nrm p false := ⟨_, rfl⟩
  have hnt : normT p = r.map fun a => .mk 5 0 0 zeroV (a.map fun x => .mk 4 0 0 zeroV x) := by rw [hrr]; rfl
  have HMT := Lib.hid (show mayT p (zs.map Zv.t) cnt = if cnt < 1 then false else mayR r (zs.map Zv.t) cnt by rw [hrr]; rfl)
  have HSM := Lib.hid (show ∀ a, r = some a → SmallN a ∧ ∀ x ∈ a, ∀ t ∈ x, thing t from fun a ha => ⟨nrm_small p false (hrr ▸ ha), things_of (hrr ▸ ha)⟩)
  have HRD := Lib.hid hr
  have HZ := Lib.hid hz
  obtain ⟨za, zc, rfl⟩ := rdZV_shape hz
  obtain ⟨zn, hzn⟩ : ∃ zn, zn = zs.length := ⟨_, rfl⟩
  rw [← hzn] at HZ ⊢
  obtain ⟨k, c, o, v, l⟩ := p
  unfold RdT1 at hr
  obtain ⟨s, ls, css, rfl, hok, hls, hts⟩ := hr
  obtain ⟨sa, sc, hes⟩ := rd_shape8 hok.1
  obtain ⟨ea, ec, hel⟩ := rdS_shape hls
  simp only at hes
  subst hes hel
  obtain ⟨m, hm⟩ : ∃ m, m = css.length := ⟨_, rfl⟩
  rw [← hm] at HRD HNM ⊢
  obtain ⟨vu, vk, vn, vb⟩ := v
  unfold cellsP at HNM HRD ⊢
  simp only at HNM HRD ⊢
  clear hok hls hts hz hd hc hn hrr hzn hm
  go_enter Try.func37, Try.ntmps37
  go_upto_region 1 with (fail)
  obtain ⟨W, hW⟩ : ∃ W : World, W = (((w.alloc (.cells #[.int .i64 k, .int .i64 c, .int .i64 o, .bool vu, .int .i64 vk, .int .i64 vn, .slice sa vb.length sc, .slice ea m ec] 31)).alloc (.cells #[.slice za zn zc] 54)).alloc (.cells #[.int .i64 cnt] 3)) := ⟨_, rfl⟩
  rw [← hW]
  have h0 : W.heap[w.heap.size]? = some (.cells #[.int .i64 k, .int .i64 c, .int .i64 o, .bool vu, .int .i64 vk, .int .i64 vn, .slice sa vb.length sc, .slice ea m ec] 31 (0, 0)) := by rw [hW]; exact (heap_alloc_old _ _ (by simp; try omega)).trans ((heap_alloc_old _ _ (by simp)).trans (heap_alloc_new w _))
  have h1 : W.heap[w.heap.size + 1]? = some (.cells #[.slice za zn zc] 54 (0, 0)) := by rw [hW]; exact heap3 w _ _ _
  have h2 : W.heap[w.heap.size + 1 + 1]? = some (.cells #[.int .i64 cnt] 3 (0, 0)) := by rw [hW]; exact (heaps3 w _ _ _).2
  have HB := Lib.hid (show Below w.heap.size w W by rw [hW]; exact below3 w _ _ _)
  have HX1 := Lib.hid h1
  have HX2 := Lib.hid h2
  have d0 : W.cell? ⟨w.heap.size, 0, none⟩ = some (.int .i64 k) := by rw [cell_of_row W _ 0 _ _ _ h0]; rfl
  have d1 : W.cell? ⟨w.heap.size, 1, none⟩ = some (.int .i64 c) := by rw [cell_of_row W _ 1 _ _ _ h0]; rfl
  have d2 : W.cell? ⟨w.heap.size, 2, none⟩ = some (.int .i64 o) := by rw [cell_of_row W _ 2 _ _ _ h0]; rfl
  have d3 : W.cell? ⟨w.heap.size, 3, none⟩ = some (.bool vu) := by rw [cell_of_row W _ 3 _ _ _ h0]; rfl
  have d4 : W.cell? ⟨w.heap.size, 4, none⟩ = some (.int .i64 vk) := by rw [cell_of_row W _ 4 _ _ _ h0]; rfl
  have d5 : W.cell? ⟨w.heap.size, 5, none⟩ = some (.int .i64 vn) := by rw [cell_of_row W _ 5 _ _ _ h0]; rfl
  have d6 : W.cell? ⟨w.heap.size, 6, none⟩ = some (.slice sa vb.length sc) := by rw [cell_of_row W _ 6 _ _ _ h0]; rfl
  have d7 : W.cell? ⟨w.heap.size, 7, none⟩ = some (.slice ea m ec) := by rw [cell_of_row W _ 7 _ _ _ h0]; rfl
  have dc : W.cell? ⟨w.heap.size + 1 + 1, 0, none⟩ = some (.int .i64 cnt) := by rw [cell_of_row W _ 0 _ _ _ h2]; rfl
  have HCALL := Lib.hid (HNM.out W (RdT1.kept HB.out _ HRD.out))
  rw [hnt] at HCALL
  clear hW h0 h1 h2 hnt HNM
  by_cases hcn : cnt < 1
  · have hd : decide (cnt < 1) = true := by rw [decide_eq_true_eq]; exact hcn
    have HA := Lib.hid (show mayT (.mk k c o ⟨vu, vk, vn, vb⟩ l) (zs.map Zv.t) cnt = false by rw [HMT.out, if_pos hcn])
    clear hcn
    go_wp2_with fail
    go_ret
    exact ⟨by rw [HA.out] <;> rfl, HB.out⟩
  · have hd : decide (cnt < 1) = false := by rw [decide_eq_false_iff_not]; exact hcn
    have HM2 := Lib.hid (show mayT (.mk k c o ⟨vu, vk, vn, vb⟩ l) (zs.map Zv.t) cnt = mayR r (zs.map Zv.t) cnt by rw [HMT.out, if_neg hcn])
    clear hcn HMT
    go_wp2_with fail
    refine HCALL.out.mono ?_
    rintro e W3 ⟨hret, hb3⟩
    have HB3 := Lib.hid (below_then HB.out hb3)
    have HY1 := Lib.hid ((hb3.block _ (Array.getElem?_eq_some_iff.1 HX1.out).1).trans HX1.out)
    have HY2 := Lib.hid ((hb3.block _ (Array.getElem?_eq_some_iff.1 HX2.out).1).trans HX2.out)
    clear hb3
    cases r with
    | none =>
      obtain rfl : e = .returned (.tuple #[.agg #[.int .i64 0, .int .i64 0, .int .i64 0, .bool false, .int .i64 0, .int .i64 0, .slice none 0 0, .slice none 0 0], .bool false]) := hret
      have HF := Lib.hid fun o => below_lay HB3.out o
      go_wp2_with fail
      go_ret
      exact ⟨by rw [HM2.out] <;> rfl, HF.out _⟩
    | some a =>
      obtain ⟨cs', rfl, ha⟩ : ∃ cs' : List Value, e = .returned (.tuple #[.agg cs'.toArray, .bool true]) ∧ RdA1 W.heap.size W3 (.mk 5 0 0 zeroV (a.map fun x => .mk 4 0 0 zeroV x)) cs' := hret
      obtain ⟨sa1, sc1, ea1, css1, ec1, rfl, hs1, hr1⟩ := rdA1_cells ha
      rw [List.length_map] at hs1 ⊢
      unfold cellsP
      obtain ⟨hsm, hth⟩ := HSM.out a rfl
      have hbl := fun o => below_alloc W3 o
      have HCF := Lib.hid fun o => containsFn_any (andP (zs.map Zv.t) cnt) (.pointer (some ⟨w.heap.size + 1, 0, none⟩)) (.pointer (some ⟨w.heap.size + 1 + 1, 0, none⟩)) (a.map fun x => .mk 4 0 0 zeroV x) (by rw [List.length_map]; have := hsm.1; omega) _ css1 (W3.alloc o) (hs1.rd.kept (hbl o)) (RdTs.kept (hbl o) _ (RdAs.rd _ hr1)) fun q cs w' hq hb hrq => by
        obtain ⟨x, hx, rfl⟩ := List.mem_map.1 hq
        have hbb := below_then (hbl o) hb
        refine may1_any (.mk 4 0 0 zeroV x) (fun k c o v l e => by cases e; exact ⟨by have := hsm.2 x hx; omega, hth x hx⟩) cs (.slice za zn zc) zs cnt (w.heap.size + 1) (w.heap.size + 1 + 1) w' hrq (HZ.out.kept (below_then HB3.out hbb)) hzl ?_ ?_
        · rw [cell_of_row w' _ 0 _ _ _ ((hbb.block _ (Array.getElem?_eq_some_iff.1 HY1.out).1).trans HY1.out)]; rfl
        · rw [cell_of_row w' _ 0 _ _ _ ((hbb.block _ (Array.getElem?_eq_some_iff.1 HY2.out).1).trans HY2.out)]; rfl
      have HF := Lib.hid fun o => below_lay HB3.out o
      obtain ⟨B, hB⟩ : ∃ B, B = (a.map fun x => Pt.mk 4 0 0 zeroV x).any (andP (zs.map Zv.t) cnt) := ⟨_, rfl⟩
      rw [← hB] at HCF
      have HA := Lib.hid (show mayT (.mk k c o ⟨vu, vk, vn, vb⟩ l) (zs.map Zv.t) cnt = B by
        rw [HM2.out, hB]
        exact (any_map4 a (fun x => x.all fun t => posT t (zs.map Zv.t) cnt) _ (fun x => rfl)).symm)
      obtain ⟨na, hna⟩ : ∃ na, na = a.length := ⟨_, rfl⟩
      rw [← hna] at HCF ⊢
      clear ha hs1 hr1 hsm hth hbl hB hna
      go_wp2_with fail
      refine (HCF.out _).mono ?_
      rintro e W5 ⟨rfl, hb5⟩
      have HG := Lib.hid (below_then (HF.out _) hb5)
      clear hb5
      go_wp2_with fail
      go_ret
      exact ⟨by rw [HA.out] <;> rfl, HG.out⟩

end Go.Proofs.Ytpabneinikbneaa
