import Derived.Test.YtmpgnjhgegbdkaaGreatZpos
import Derived.Test.YtmpgnjhgegbdkaaGreatNkey
set_option linter.unusedVariables false
set_option linter.unusedSimpArgs false
set_option maxRecDepth 100000
set_option maxHeartbeats 4000000
open Go.Lib (hid)
namespace Go.Proofs.YtmpgnjhgegbdkaaGreat
open Go.RowKit
open _root_.List renaming mem_of_getElem? -> Qa, getElem?_eq_getElem -> Qd, take_add_one -> Qf, take_of_length_le -> Qg
open _root_.Nat renaming zero_le -> Qb, add_zero -> Qe, le_refl -> Qh
open Go.RowKit.Below renaming refl -> Qc
theorem zK7 (l : List Pt) (hl : l.length <= 1000000) (hth : ∀ t ∈ l, thing t) (ls : Value) (css : List (List Value)) (zv : Value) (zs : List Zv) (cnt : Int) (w : World) (hs : RdS w 8 ls css) (ht : RdTs w l css) (hz : RdZV w zv zs) (hzl : zs.length <= 1000000) :
  Calls Tryz.prog 88 #[ls, zv, .int .i64 cnt] w fun e w' => e = .returned (.bool (l.all fun t => posT t (zs.map Zv.t) cnt)) ∧ Below w.heap.size w w' := by
 obtain ⟨ao, cap, rfl⟩ := zAk hs
 have hcl := zBy ht
 obtain ⟨n, hN⟩ : ∃ n, n = l.length := ⟨_, rfl⟩
 rw [hcl, <- hN] at hs ⊢
 rw [<- hN] at hl
 have HN := hid hN
 have HS := hid hs
 have HT := hid ht
 have HZ := hid hz
 have HTH := hid hth
 obtain ⟨za, zc, rfl⟩ := zCs hz
 clear hs ht hcl hN hz hth
 go_enter Tryz.func88, Tryz.ntmps88
 go_wp2_with fail
 go_loopw [11] (fun i wr => ∃ q : Nat, q <= n ∧ i = .int .i64 (q : Int) ∧ ((l.take q).all fun t => posT t (zs.map Zv.t) cnt) = true ∧ Below w.heap.size w wr) (fun i _ => n - (intOf i).toNat)
 case atStart => exact ⟨0, Qb _, rfl, by simp, Qc _ _⟩
 case round =>
  obtain ⟨q, hq, rfl, hno, hb⟩ := hrel
  have HNO := hid hno
  have HB := hid hb
  clear hno hb
  by_cases hlt : q < n
  ·obtain ⟨p, hp⟩ : ∃ p, l[q]? = some p := ⟨_, Qd (by rw [<- HN.out]; exact hlt)⟩
   have HP := hid hp
   obtain ⟨cs, hcs, hrd⟩ := zFq HT.out hp
   have HCALL := hid fun o => zOe p (HTH.out p (Qa hp)) cs _ zs cnt (wr.alloc o) (RdT1.kept (zAn HB.out o) _ hrd) (HZ.out.kept (zAn HB.out o)) hzl
   obtain ⟨B, hB⟩ : ∃ B, B = posT p (zs.map Zv.t) cnt := ⟨_, rfl⟩
   rw [<- hB] at HCALL
   have HBB := hid hB
   clear hp hB
   obtain ⟨pk, pc, po, pv, pl⟩ := p
   unfold RdT1 at hrd
   obtain ⟨es, els, ecss, rfl, hok, hels, hets⟩ := hrd
   obtain ⟨sa, sc, hes⟩ := zAf hok.1
   obtain ⟨ea, ec, hel⟩ := zAk hels
   simp only at hes
   subst hes hel
   obtain ⟨b, off, rfl, hcell⟩ := (HS.out.kept HB.out).at hcs
   have k0 := hcell 0 _ rfl
   have k1 := hcell 1 _ rfl
   have k2 := hcell 2 _ rfl
   have k3 := hcell 3 _ rfl
   have k4 := hcell 4 _ rfl
   have k5 := hcell 5 _ rfl
   have k6 := hcell 6 _ rfl
   have k7 := hcell 7 _ rfl
   simp only [Qe] at k0
   obtain ⟨pu, pvk, pvn, pb⟩ := pv
   unfold cellsP at HCALL
   simp only at HCALL k0 k1 k2 k3 k4 k5 k6 k7
   clear hok hels hets hcell hcs
   have HBA := hid fun o => zAn HB.out o
   cases B with
   | false =>
    have HA := hid (show (l.all fun t => posT t (zs.map Zv.t) cnt) = false by
     rw [List.all_eq_false]
     exact ⟨_, Qa HP.out, by rw [<- HBB.out]; simp⟩)
    go_wp2_with fail
    refine (HCALL.out _).mono ?_
    rintro e w2 ⟨rfl, hb2⟩
    have HF := hid (zAa (HBA.out _) hb2)
    clear hb2
    go_wp2_with fail
    go_ret
    exact ⟨by rw [HA.out] <;> rfl, HF.out⟩
   | true =>
    have HNO2 := hid (show ((l.take (q + 1)).all fun t => posT t (zs.map Zv.t) cnt) = true by
     rw [Qf, HP.out, List.all_append, HNO.out]
     simp [<- HBB.out])
    go_wp2_with fail
    refine (HCALL.out _).mono ?_
    rintro e w2 ⟨rfl, hb2⟩
    have HF := hid (zAa (HBA.out _) hb2)
    clear hb2
    go_wp2_with fail
    go_roundw
    case rel => exact ⟨q + 1, by omega, by go_num, HNO2.out, HF.out⟩
    case measure => simp [intOf]; omega
  ·have hqn : q = n := by omega
   have htk : l.take q = l := Qg (by rw [<- HN.out, hqn]; exact Qh _)
   have HA := hid (show (l.all fun t => posT t (zs.map Zv.t) cnt) = true by have h := HNO.out; rw [htk] at h; exact h)
   clear hqn htk
   go_wp2_with fail
   go_ret
   exact ⟨by rw [HA.out] <;> rfl, HB.out⟩
theorem zPa (f : Pt -> Bool) (cp1 cp2 : Value) (l : List Pt) (hl : l.length <= 1000000) (ls : Value) (css : List (List Value)) (w : World) (hs : RdS w 8 ls css) (ht : RdTs w l css)
  (hf : ∀ (q : Pt) (cs : List Value) (w' : World), q ∈ l -> Below w.heap.size w w' -> RdT1 w' q cs -> Calls Tryz.prog 87 #[.agg cs.toArray, cp1, cp2] w' fun e w2 => e = .returned (.bool (f q)) ∧ Below w'.heap.size w' w2) :
  Calls Tryz.prog 115 #[ls, .func (.func 87) #[] #[cp1, cp2]] w fun e w' => e = .returned (.int .i64 (idxT f l)) ∧ Below w.heap.size w w' := by
 obtain ⟨ao, cap, rfl⟩ := zAk hs
 have hcl := zBy ht
 obtain ⟨n, hN⟩ : ∃ n, n = l.length := ⟨_, rfl⟩
 rw [hcl, <- hN] at hs ⊢
 rw [<- hN] at hl
 have HN := hid hN
 have HS := hid hs
 have HT := hid ht
 have HF0 := hid hf
 clear hs ht hcl hN hf
 go_enter Tryz.func115, Tryz.ntmps115
 go_wp2_with fail
 go_loopw [8] (fun i wr => ∃ q : Nat, q <= n ∧ i = .int .i64 (q : Int) ∧ (∀ y ∈ l.take q, f y = false) ∧ Below w.heap.size w wr) (fun i _ => n - (intOf i).toNat)
 case atStart => exact ⟨0, Qb _, rfl, by simp, Qc _ _⟩
 case round =>
  obtain ⟨q, hq, rfl, hno, hb⟩ := hrel
  have HNO := hid hno
  have HB := hid hb
  clear hno hb
  by_cases hlt : q < n
  ·obtain ⟨p, hp⟩ : ∃ p, l[q]? = some p := ⟨_, Qd (by rw [<- HN.out]; exact hlt)⟩
   have HP := hid hp
   obtain ⟨cs, hcs, hrd⟩ := zFq HT.out hp
   have HCALL := hid (HF0.out p cs wr (Qa hp) HB.out (RdT1.kept HB.out _ hrd))
   obtain ⟨B, hB⟩ : ∃ B, B = f p := ⟨_, rfl⟩
   rw [<- hB] at HCALL
   have HBB := hid hB
   clear hp hB
   obtain ⟨pk, pc, po, pv, pl⟩ := p
   unfold RdT1 at hrd
   obtain ⟨es, els, ecss, rfl, hok, hels, hets⟩ := hrd
   obtain ⟨sa, sc, hes⟩ := zAf hok.1
   obtain ⟨ea, ec, hel⟩ := zAk hels
   simp only at hes
   subst hes hel
   obtain ⟨b, off, rfl, hcell⟩ := (HS.out.kept HB.out).at hcs
   have k0 := hcell 0 _ rfl
   have k1 := hcell 1 _ rfl
   have k2 := hcell 2 _ rfl
   have k3 := hcell 3 _ rfl
   have k4 := hcell 4 _ rfl
   have k5 := hcell 5 _ rfl
   have k6 := hcell 6 _ rfl
   have k7 := hcell 7 _ rfl
   simp only [Qe] at k0
   obtain ⟨pu, pvk, pvn, pb⟩ := pv
   unfold cellsP at HCALL
   simp only at HCALL k0 k1 k2 k3 k4 k5 k6 k7
   clear hok hels hets hcell hcs
   cases B with
   | true =>
    have HA := hid (zQ3 HP.out HBB.out.symm HNO.out)
    go_wp2_with fail
    refine HCALL.out.mono ?_
    rintro e w2 ⟨rfl, hb2⟩
    have HF := hid (HB.out.trans (hb2.mono HB.out.size))
    clear hb2
    go_wp2_with fail
    go_ret
    exact ⟨by rw [HA.out] <;> rfl, HF.out⟩
   | false =>
    have HNO2 := hid (show ∀ y ∈ l.take (q + 1), f y = false from fun y hy => by
     rw [Qf, HP.out] at hy
     rcases List.mem_append.1 hy with h | h
     ·exact HNO.out y h
     ·simp at h; rw [h, <- HBB.out])
    go_wp2_with fail
    refine HCALL.out.mono ?_
    rintro e w2 ⟨rfl, hb2⟩
    have HF := hid (HB.out.trans (hb2.mono HB.out.size))
    clear hb2
    go_wp2_with fail
    go_roundw
    case rel => exact ⟨q + 1, by omega, by go_num, HNO2.out, HF.out⟩
    case measure => simp [intOf]; omega
  ·have hqn : q = n := by omega
   have htk : l.take q = l := Qg (by rw [<- HN.out, hqn]; exact Qh _)
   have HA := hid (show idxT f l = -1 from zSt (by have h := HNO.out; rw [htk] at h; exact h))
   clear hqn htk
   go_wp2_with fail
   go_ret
   exact ⟨by rw [HA.out] <;> rfl, HB.out⟩
theorem zUi {α : Type} (f : α -> Bool) (l : List α) : decide (0 <= idxT f l) = l.any f ∧ (-1 <= idxT f l) := by
 unfold idxT
 cases h : l.findIdx? f with
 | none =>
  rw [List.findIdx?_eq_none_iff] at h
  refine ⟨?_, by simp⟩
  rw [show l.any f = false by rw [List.any_eq_false]; intro x hx; rw [h x hx]; simp]
  rfl
 | some i =>
  rw [List.findIdx?_eq_some_iff_getElem] at h
  obtain ⟨h1, h2, _⟩ := h
  refine ⟨?_, by show (-1 : Int) <= (i : Int); omega⟩
  rw [show l.any f = true by rw [List.any_eq_true]; exact ⟨_, List.getElem_mem h1, h2⟩]
  simp
theorem zLy (f : Pt -> Bool) (cp1 cp2 : Value) (l : List Pt) (hl : l.length <= 1000000) (ls : Value) (css : List (List Value)) (w : World) (hs : RdS w 8 ls css) (ht : RdTs w l css)
  (hf : ∀ (q : Pt) (cs : List Value) (w' : World), q ∈ l -> Below w.heap.size w w' -> RdT1 w' q cs -> Calls Tryz.prog 87 #[.agg cs.toArray, cp1, cp2] w' fun e w2 => e = .returned (.bool (f q)) ∧ Below w'.heap.size w' w2) :
  Calls Tryz.prog 86 #[ls, .func (.func 87) #[] #[cp1, cp2]] w fun e w' => e = .returned (.bool (l.any f)) ∧ Below w.heap.size w w' := by
 have HC := hid (zPa f cp1 cp2 l hl ls css w hs ht hf)
 have hi := zUi f l
 obtain ⟨x, hx⟩ : ∃ x, x = idxT f l := ⟨_, rfl⟩
 rw [<- hx] at HC hi
 obtain ⟨ao, cap, rfl⟩ := zAk hs
 have HA := hid hi.1
 have h1 := hi.2
 obtain ⟨B, hB⟩ : ∃ B, B = l.any f := ⟨_, rfl⟩
 rw [<- hB] at HA ⊢
 clear hs ht hf hx hi hB
 go_enter Tryz.func86, Tryz.ntmps86
 go_wp2_with fail
 refine HC.out.mono ?_
 rintro e w2 ⟨rfl, hb2⟩
 have HF := hid hb2
 clear hb2
 go_wp2_with fail
 go_ret
 exact ⟨by rw [<- HA.out] <;> rfl, HF.out⟩
def mayR (r : Option (List (List Pt))) (zs : List Zt) (cnt : Int) : Bool := match r with
 | none => true
 | some a => a.any fun x => x.all fun t => posT t zs cnt
def mayT (p : Pt) (zs : List Zt) (cnt : Int) : Bool := if cnt < 1 then false else mayR (nrm p false) zs cnt
theorem zSx {p : Pt} {nt : Bool} {a : List (List Pt)} (h : nrm p nt = some a) : ∀ x ∈ a, ∀ t ∈ x, thing t :=
 zJj (R := fun _ => True) (Q := thing) ⟨fun c o v l _ o' _ h => by omega, fun c o v l _ => ⟨fun h => by omega, fun _ h => by cases h⟩⟩ (fun _ _ _ _ _ _ _ _ _ => trivial) p nt trivial h
theorem zUj (a : List (List Pt)) (f : List Pt -> Bool) (g : Pt -> Bool) (h : ∀ x, g (.mk 4 0 0 zeroV x) = f x) : (a.map fun x => Pt.mk 4 0 0 zeroV x).any g = a.any f := by
 rw [List.any_map]
 congr 1
 funext x
 exact h x
def andP (zs : List Zt) (cnt : Int) (t : Pt) : Bool := match t with | .mk _ _ _ _ l => l.all fun t => posT t zs cnt
theorem zUk (t : Pt) (hl : ∀ k c o v l, t = .mk k c o v l -> l.length <= 1000000 ∧ ∀ q ∈ l, thing q) (cs : List Value) (zv : Value) (zs : List Zv) (cnt : Int) (b1 b2 : Nat) (w : World) (hr : RdT1 w t cs) (hz : RdZV w zv zs) (hzl : zs.length <= 1000000)
  (h1 : w.cell? ⟨b1, 0, none⟩ = some zv) (h2 : w.cell? ⟨b2, 0, none⟩ = some (.int .i64 cnt)) :
  Calls Tryz.prog 87 #[.agg cs.toArray, .pointer (some ⟨b1, 0, none⟩), .pointer (some ⟨b2, 0, none⟩)] w fun e w' => e = .returned (.bool (andP (zs.map Zv.t) cnt t)) ∧ Below w.heap.size w w' := by
 obtain ⟨k, c, o, v, l⟩ := t
 obtain ⟨hl1, hl2⟩ := hl k c o v l rfl
 unfold RdT1 at hr
 obtain ⟨s, ls, css, rfl, hov, hls, hts⟩ := hr
 obtain ⟨sa, sc, hes⟩ := zAf hov.1
 obtain ⟨ea, ec, hel⟩ := zAk hls
 simp only at hes
 subst hes hel
 obtain ⟨za, zc, rfl⟩ := zCs hz
 obtain ⟨vu, vk, vn, vb⟩ := v
 have hb := fun o => zAd w o
 have HC := hid fun o => zK7 l hl1 hl2 _ css _ zs cnt (w.alloc o) (hls.kept (hb o)) (RdTs.kept (hb o) _ hts) (hz.kept (hb o)) hzl
 have HB := hid hb
 obtain ⟨B, hB⟩ : ∃ B, B = (l.all fun t => posT t (zs.map Zv.t) cnt) := ⟨_, rfl⟩
 rw [<- hB] at HC
 have HBB := hid (show andP (zs.map Zv.t) cnt (.mk k c o ⟨vu, vk, vn, vb⟩ l) = B by rw [hB]; rfl)
 have k1 := fun o => Lib.cell?_alloc_some (W := w) o h1
 have k2 := fun o => Lib.cell?_alloc_some (W := w) o h2
 clear hov hls hts hz hl hl2 hb hB h1 h2
 unfold cellsP
 simp only
 go_enter Tryz.func87, Tryz.ntmps87
 go_wp2_with fail
 refine (HC.out _).mono ?_
 rintro e w2 ⟨rfl, hb2⟩
 have HF := hid (zAa (HB.out _) hb2)
 clear hb2
 go_wp2_with fail
 go_ret
 exact ⟨by rw [HBB.out] <;> rfl, HF.out⟩
end Go.Proofs.YtmpgnjhgegbdkaaGreat
