/-
  Contracts: norm.isKey, slices.IndexFunc of it, norm.Key.
-/
import Derived.Test.YtfmkalnnpddefaaNorm
namespace Go.Proofs.Ytfmkalnnpddefaa
set_option linter.unusedVariables false
set_option linter.unusedSimpArgs false
open Go.RowKit

set_option maxRecDepth 100000 in
theorem isKey_any (p : Pt) (cs : List Value) (w : World) (hr : RdT1 w p cs) :
    Calls Try.prog 64 #[.agg cs.toArray] w fun e w' => e = .returned (.bool (isKeyT p)) ∧ Below w.heap.size w w' := by
  obtain ⟨k, c, o, v, l⟩ := p
  unfold RdT1 at hr
  obtain ⟨s, ls, css, rfl, hok, hls, hts⟩ := hr
  obtain ⟨sa, sc, hes⟩ := rd_shape8 hok.1
  obtain ⟨ea, ec, hel⟩ := rdS_shape hls
  simp only at hes
  subst hes hel
  clear hok hls hts
  unfold isKeyT cellsP
  simp only
  have HB := fun o => Lib.hid (below_alloc w o)
  by_cases h1 : k = 2
  · subst h1
    by_cases h2 : c = 0
    · subst h2
      by_cases h3 : o = 1
      · subst h3
        go_enter Try.func64, Try.ntmps64
        go_wp2_with fail
        go_ret
        exact ⟨rfl, (HB _).out⟩
      · have q : (o == 1) = false := by rw [beq_eq_false_iff_ne]; exact h3
        rw [q]
        clear h3
        go_enter Try.func64, Try.ntmps64
        go_wp2_with fail
        go_ret
        exact ⟨rfl, (HB _).out⟩
    · have q : (c == 0) = false := by rw [beq_eq_false_iff_ne]; exact h2
      rw [q]
      clear h2
      go_enter Try.func64, Try.ntmps64
      go_wp2_with fail
      go_ret
      exact ⟨rfl, (HB _).out⟩
  · have q : (k == 2) = false := by rw [beq_eq_false_iff_ne]; exact h1
    rw [q]
    clear h1
    go_enter Try.func64, Try.ntmps64
    go_wp2_with fail
    go_ret
    exact ⟨rfl, (HB _).out⟩

/-- The first place at which f holds, or -1. -/
def idxT {α : Type} (f : α → Bool) (l : List α) : Int := match l.findIdx? f with
  | some i => (i : Int)
  | none => -1
theorem idxT_found {α : Type} {f : α → Bool} {l : List α} {q : Nat} {x : α} (h : l[q]? = some x) (hx : f x = true) (hn : ∀ y ∈ l.take q, f y = false) : idxT f l = (q : Int) := by
  have e : l = l.take q ++ x :: l.drop (q + 1) := by
    have hlt := (List.getElem?_eq_some_iff.1 h).1
    rw [← (List.getElem?_eq_some_iff.1 h).2]
    rw [← List.drop_eq_getElem_cons hlt, List.take_append_drop]
  unfold idxT
  have hfi : l.findIdx? f = some q := by
    have hlt := (List.getElem?_eq_some_iff.1 h).1
    rw [List.findIdx?_eq_some_iff_getElem]
    refine ⟨hlt, by rw [(List.getElem?_eq_some_iff.1 h).2]; exact hx, fun j hj => ?_⟩
    have := hn l[j] (List.mem_iff_getElem.2 ⟨j, by rw [List.length_take]; omega, by rw [List.getElem_take]⟩)
    simp [this]
  rw [hfi]
theorem idxT_none {α : Type} {f : α → Bool} {l : List α} (hn : ∀ y ∈ l, f y = false) : idxT f l = -1 := by
  unfold idxT
  have : l.findIdx? f = none := by
    rw [List.findIdx?_eq_none_iff]
    exact hn
  rw [this]

set_option maxRecDepth 100000 in
set_option maxHeartbeats 4000000 in
theorem indexKey_any (l : List Pt) (hl : l.length ≤ 1000000) (ls : Value) (css : List (List Value)) (w : World) (hs : RdS w 8 ls css) (ht : RdTs w l css) :
    Calls Try.prog 63 #[ls, .func (.func 64) #[] #[]] w fun e w' => e = .returned (.int .i64 (idxT isKeyT l)) ∧ Below w.heap.size w w' := by
  obtain ⟨ao, cap, rfl⟩ := rdS_shape hs
  have hcl := rdTs_len ht
  obtain ⟨n, hN⟩ : ∃ n, n = l.length := ⟨_, rfl⟩
  rw [hcl, ← hN] at hs ⊢
  rw [← hN] at hl
  have HN := Lib.hid hN
  have HS := Lib.hid hs
  have HT := Lib.hid ht
  clear hs ht hcl hN
  go_enter Try.func63, Try.ntmps63
  go_wp2_with fail
  go_loopw [8] (fun i wr => ∃ q : Nat, q ≤ n ∧ i = .int .i64 (q : Int) ∧ (∀ y ∈ l.take q, isKeyT y = false) ∧ Below w.heap.size w wr) (fun i _ => n - (intOf i).toNat)
  case atStart => exact ⟨0, Nat.zero_le _, rfl, by simp, Below.refl _ _⟩
  case round =>
    obtain ⟨q, hq, rfl, hno, hb⟩ := hrel
    have HNO := Lib.hid hno
    have HB := Lib.hid hb
    clear hno hb
    by_cases hlt : q < n
    · obtain ⟨p, hp⟩ : ∃ p, l[q]? = some p := ⟨_, List.getElem?_eq_getElem (by rw [← HN.out]; exact hlt)⟩
      have HP := Lib.hid hp
      obtain ⟨cs, hcs, hrd⟩ := rdTs_at HT.out hp
      have HCALL := Lib.hid (isKey_any p cs wr (RdT1.kept HB.out _ hrd))
      obtain ⟨B, hB⟩ : ∃ B, B = isKeyT p := ⟨_, rfl⟩
      rw [← hB] at HCALL
      have HBB := Lib.hid hB
      clear hp hB
      obtain ⟨pk, pc, po, pv, pl⟩ := p
      unfold RdT1 at hrd
      obtain ⟨es, els, ecss, rfl, hok, hels, hets⟩ := hrd
      obtain ⟨sa, sc, hes⟩ := rd_shape8 hok.1
      obtain ⟨ea, ec, hel⟩ := rdS_shape hels
      simp only at hes
      subst hes hel
      obtain ⟨b, off, rfl, hcell⟩ := (HS.out.kept HB.out).at hcs
      have k0 := hcell 0 _ rfl
      have k1 := hcell 1 _ rfl
      have k2 := hcell 2 _ rfl
      have k3 := hcell 3 _ rfl
      have k4 := hcell 4 _ rfl
      have k5 := hcell 5 _ rfl
      have k6 := hcell 6 _ rfl
      have k7 := hcell 7 _ rfl
      simp only [Nat.add_zero] at k0
      obtain ⟨pu, pvk, pvn, pb⟩ := pv
      unfold cellsP at HCALL
      simp only at HCALL k0 k1 k2 k3 k4 k5 k6 k7
      clear hok hels hets hcell hcs
      cases B with
      | true =>
        have HA := Lib.hid (idxT_found HP.out HBB.out.symm HNO.out)
        go_wp2_with fail
        refine HCALL.out.mono ?_
        rintro e w2 ⟨rfl, hb2⟩
        have HF := Lib.hid (HB.out.trans (hb2.mono HB.out.size))
        clear hb2
        go_wp2_with fail
        go_ret
        exact ⟨by rw [HA.out] <;> rfl, HF.out⟩
      | false =>
        have HNO2 := Lib.hid (show ∀ y ∈ l.take (q + 1), isKeyT y = false from fun y hy => by
          rw [List.take_add_one, HP.out] at hy
          rcases List.mem_append.1 hy with h | h
          · exact HNO.out y h
          · simp at h; rw [h, ← HBB.out])
        go_wp2_with fail
        refine HCALL.out.mono ?_
        rintro e w2 ⟨rfl, hb2⟩
        have HF := Lib.hid (HB.out.trans (hb2.mono HB.out.size))
        clear hb2
        go_wp2_with fail
        go_roundw
        case rel => exact ⟨q + 1, by omega, by go_num, HNO2.out, HF.out⟩
        case measure => simp [intOf]; omega
    · have hqn : q = n := by omega
      have htk : l.take q = l := List.take_of_length_le (by rw [← HN.out, hqn]; exact Nat.le_refl _)
      have HA := Lib.hid (show idxT isKeyT l = -1 from idxT_none (by have h := HNO.out; rw [htk] at h; exact h))
      clear hqn htk
      go_wp2_with fail
      go_ret
      exact ⟨by rw [HA.out] <;> rfl, HB.out⟩

def keyNV (p : Pt) : Int := (keyT p).getD 0
def keyNB (p : Pt) : Bool := (keyT p).isSome
theorem idxT_cases (l : List Pt) : (idxT isKeyT l = -1 ∧ l.find? isKeyT = none) ∨ ∃ (i : Nat) (t : Pt), idxT isKeyT l = (i : Int) ∧ l[i]? = some t ∧ l.find? isKeyT = some t := by
  unfold idxT
  cases h : l.findIdx? isKeyT with
  | none => exact .inl ⟨rfl, by rw [List.findIdx?_eq_none_iff] at h; rw [List.find?_eq_none]; intro x hx; rw [h x hx]; simp⟩
  | some i =>
    refine .inr ⟨i, ?_⟩
    rw [List.findIdx?_eq_some_iff_getElem] at h
    obtain ⟨h1, h2, h3⟩ := h
    refine ⟨l[i], rfl, List.getElem?_eq_getElem h1, ?_⟩
    rw [List.find?_eq_some_iff_getElem]
    exact ⟨h2, i, h1, rfl, fun j hj => by simpa using h3 j hj⟩
theorem rdA1_cells {K : Nat} {w : World} {k c o : Int} {v : Vc} {l : List Pt} {cs : List Value} (h : RdA1 K w (.mk k c o v l) cs) : ∃ sa sc ea css ec, cs = cellsP k c o v (.slice sa v.b.length sc) (.slice ea l.length ec) ∧ RdSK K w 8 (.slice ea l.length ec) css ∧ RdAs K w l css := by
  unfold RdA1 at h
  obtain ⟨s, ls, css, rfl, h1, h2, h3⟩ := h
  obtain ⟨sa, sc, rfl⟩ := rdB_shape h1.1
  obtain ⟨ea, ec, rfl⟩ := rdS_shape h2.rd
  have hl := rdAs_len h3
  rw [hl] at h2
  exact ⟨sa, sc, ea, css, ec, by rw [hl], h2, h3⟩

set_option maxRecDepth 100000 in
set_option maxHeartbeats 4000000 in
theorem key_any (p : Pt) (hd : depT p ≤ 900) (hc : cntT p ≤ 60000) (hn : nodesT p ≤ 4096) (cs : List Value) (w : World) (hr : RdT1 w p cs) :
    Calls Try.prog 23 #[.agg cs.toArray] w fun e w' => e = .returned (.tuple #[.int .i64 (keyNV p), .bool (keyNB p)]) ∧ Below w.heap.size w w' := by
  have HNM := Lib.hid fun w' (h : RdT1 w' p cs) => norm_any p hd hc hn cs w' h
  obtain ⟨r, hrr⟩ : ∃ r, r = nrm p false := ⟨_, rfl⟩
  have hnt : normT p = r.map fun a => .mk 5 0 0 zeroV (a.map fun x => .mk 4 0 0 zeroV x) := by rw [hrr]; rfl
  have hkt : keyT p = match r with | some [x] => (x.find? isKeyT).map valN | _ => none := by rw [hrr]; rfl
  have HSM := Lib.hid (show ∀ a, r = some a → SmallN a from fun a ha => nrm_small p false (hrr ▸ ha))
  have HKV := Lib.hid (show keyNV p = (match r with | some [x] => (x.find? isKeyT).map valN | _ => none).getD 0 by unfold keyNV; rw [hkt])
  have HKB := Lib.hid (show keyNB p = (match r with | some [x] => (x.find? isKeyT).map valN | _ => none).isSome by unfold keyNB; rw [hkt])
  have HRD := Lib.hid hr
  obtain ⟨k, c, o, v, l⟩ := p
  unfold RdT1 at hr
  obtain ⟨s, ls, css, rfl, hok, hls, hts⟩ := hr
  obtain ⟨sa, sc, hes⟩ := rd_shape8 hok.1
  obtain ⟨ea, ec, hel⟩ := rdS_shape hls
  simp only at hes
  subst hes hel
  obtain ⟨vu, vk, vn, vb⟩ := v
  unfold cellsP at HNM HRD ⊢
  simp only at HNM HRD ⊢
  have HCALL := Lib.hid (HNM.out (w.alloc (.cells #[.int .i64 k, .int .i64 c, .int .i64 o, .bool vu, .int .i64 vk, .int .i64 vn, .slice sa vb.length sc, .slice ea css.length ec] 31)) (RdT1.kept (below_alloc w _) _ HRD.out))
  have HB0 := Lib.hid (below_alloc w (.cells #[.int .i64 k, .int .i64 c, .int .i64 o, .bool vu, .int .i64 vk, .int .i64 vn, .slice sa vb.length sc, .slice ea css.length ec] 31))
  rw [hnt] at HCALL
  clear hok hls hts hn hd hc hnt hkt hrr HNM
  go_enter Try.func23, Try.ntmps23
  go_wp2_with fail
  refine HCALL.out.mono ?_
  rintro e w3 ⟨hret, hb3⟩
  have HB3 := Lib.hid (below_then HB0.out hb3)
  clear hb3
  cases r with
  | none =>
    have hk1 := HKV.out
    have hk2 := HKB.out
    simp only [Option.getD_none, Option.isSome_none] at hk1 hk2
    have HK1 := Lib.hid hk1
    have HK2 := Lib.hid hk2
    obtain rfl : e = .returned (.tuple #[.agg #[.int .i64 0, .int .i64 0, .int .i64 0, .bool false, .int .i64 0, .int .i64 0, .slice none 0 0, .slice none 0 0], .bool false]) := hret
    have HF := fun o => Lib.hid (below_lay HB3.out o)
    clear hk1 hk2
    go_wp2_with fail
    go_ret2
    exact ⟨by rw [HK1.out, HK2.out] <;> rfl, (HF _).out⟩
  | some a =>
    obtain ⟨cs', rfl, ha⟩ : ∃ cs' : List Value, e = .returned (.tuple #[.agg cs'.toArray, .bool true]) ∧ RdA1 (w.alloc (.cells #[.int .i64 k, .int .i64 c, .int .i64 o, .bool vu, .int .i64 vk, .int .i64 vn, .slice sa vb.length sc, .slice ea css.length ec] 31)).heap.size w3 (.mk 5 0 0 zeroV (a.map fun x => .mk 4 0 0 zeroV x)) cs' := hret
    obtain ⟨sa1, sc1, ea1, css1, ec1, rfl, hs1, hr1⟩ := rdA1_cells ha
    rw [List.length_map] at hs1 ⊢
    have HF := fun o => Lib.hid (below_lay HB3.out o)
    by_cases h1 : a.length = 1
    · obtain ⟨x, rfl⟩ : ∃ x, a = [x] := by
        match a, h1 with
        | [x], _ => exact ⟨x, rfl⟩
      have hk1 := HKV.out
      have hk2 := HKB.out
      simp only at hk1 hk2
      obtain ⟨cs0, hc0, hrx⟩ := rdTs_at (RdAs.rd _ hr1) (k := 0) (q := .mk 4 0 0 zeroV x) rfl
      have hat := hs1.rd.at hc0
      have hlen1 : ([x] : List (List Pt)).length = 1 := rfl
      rw [hlen1]
      unfold cellsP
      unfold RdT1 at hrx
      obtain ⟨s0, ls0, css0, rfl, hok0, hls0, hts0⟩ := hrx
      obtain ⟨sa0, sc0, hes0⟩ := rd_shape8 hok0.1
      obtain ⟨ea0, ec0, hel0⟩ := rdS_shape hls0
      simp only at hes0
      subst hes0 hel0
      have hx32 : x.length ≤ 32 := (HSM.out [x] rfl).2 x List.mem_cons_self
      have hcl0 := rdTs_len hts0
      obtain ⟨n0, hn0⟩ : ∃ n0, n0 = css0.length := ⟨_, rfl⟩
      rw [← hn0] at hls0 hat
      obtain ⟨b, off, rfl, hcell⟩ := hat
      have k7 : w3.cell? ⟨b, off + 0 * 8 + 7, none⟩ = some (.slice ea0 n0 ec0) := hcell 7 _ rfl
      simp only [Nat.zero_mul, Nat.add_zero] at k7
      have k7a := fun o => Lib.cell?_alloc_some (W := w3) o k7
      have HCI := fun o => Lib.hid (indexKey_any x (by omega) _ css0 (w3.alloc o) (hls0.kept (below_alloc w3 o)) (RdTs.kept (below_alloc w3 o) _ hts0))
      have HLS0 := Lib.hid hls0
      have HTS0 := Lib.hid hts0
      have HN0 := Lib.hid hn0
      have HCL0 := Lib.hid hcl0
      clear hcell hc0 hok0 hls0 hts0 hr1 hs1 ha h1 hlen1 hx32 hn0 hcl0 k7
      rcases idxT_cases x with ⟨hi, hf⟩ | ⟨i, t, hi, hit, hf⟩
      · rw [hf] at hk1 hk2
        simp only [Option.map_none, Option.getD_none, Option.isSome_none] at hk1 hk2
        have HK1 := Lib.hid hk1
        have HK2 := Lib.hid hk2
        rw [hi] at HCI
        clear hk1 hk2 hi hf
        go_wp2_with fail
        refine (HCI _).out.mono ?_
        rintro e w4 ⟨rfl, hb4⟩
        have HF4 := Lib.hid (below_then (HF _).out hb4)
        clear hb4
        go_wp2_with fail
        go_ret2
        exact ⟨by rw [HK1.out, HK2.out] <;> rfl, HF4.out⟩
      · rw [hf] at hk1 hk2
        simp only [Option.map_some, Option.getD_some, Option.isSome_some] at hk1 hk2
        have HK1 := Lib.hid hk1
        have HK2 := Lib.hid hk2
        rw [hi] at HCI
        obtain ⟨ct, hct, hrt⟩ := rdTs_at HTS0.out hit
        have hin : i < n0 := by rw [HN0.out]; exact (List.getElem?_eq_some_iff.1 hct).1
        have hat2 := HLS0.out.at hct
        obtain ⟨tk, tc, to_, tv, tl⟩ := t
        unfold RdT1 at hrt
        obtain ⟨ts, tls, tcss, rfl, _, _, _⟩ := hrt
        obtain ⟨b2, off2, rfl, hcell2⟩ := hat2
        have k5 : w3.cell? ⟨b2, off2 + i * 8 + 5, none⟩ = some (.int .i64 tv.n) := hcell2 5 _ rfl
        have hvn : valN (.mk tk tc to_ tv tl) = tv.n := rfl
        rw [hvn] at HK1
        obtain ⟨X, hX⟩ : ∃ X, X = tv.n := ⟨_, rfl⟩
        rw [← hX] at k5 HK1
        clear hk1 hk2 hi hf hit hct hcell2 hvn hX
        go_wp2_with fail
        refine (HCI _).out.mono ?_
        rintro e w4 ⟨rfl, hb4⟩
        have k5a : w4.cell? ⟨b2, off2 + i * 8 + 5, none⟩ = some (.int .i64 X) := (hb4.cell (p := ⟨b2, off2 + i * 8 + 5, none⟩) (by have := World.block_lt_of_cell? _ _ k5; simp at this ⊢; omega)).trans (Lib.cell?_alloc_some (W := w3) _ k5)
        have HF4 := Lib.hid (below_then (HF _).out hb4)
        clear hb4
        go_wp2_with fail
        go_ret2
        exact ⟨by rw [HK1.out, HK2.out] <;> rfl, HF4.out⟩
    · have hk1 : keyNV (.mk k c o ⟨vu, vk, vn, vb⟩ l) = 0 := by
        rw [HKV.out]
        match a, h1 with
        | [], _ => rfl
        | [x], h1 => exact absurd rfl h1
        | x :: y :: r, _ => rfl
      have hk2 : keyNB (.mk k c o ⟨vu, vk, vn, vb⟩ l) = false := by
        rw [HKB.out]
        match a, h1 with
        | [], _ => rfl
        | [x], h1 => exact absurd rfl h1
        | x :: y :: r, _ => rfl
      have HK1 := Lib.hid hk1
      have HK2 := Lib.hid hk2
      obtain ⟨n1, hn1⟩ : ∃ n1, n1 = a.length := ⟨_, rfl⟩
      rw [← hn1] at h1 ⊢
      have q : ((n1 : Int) != 1) = true := by rw [bne_iff_ne]; omega
      clear hk1 hk2 hn1 hs1 hr1 ha h1
      unfold cellsP
      go_wp2_with fail
      go_ret2
      exact ⟨by rw [HK1.out, HK2.out] <;> rfl, (HF _).out⟩

end Go.Proofs.Ytfmkalnnpddefaa
