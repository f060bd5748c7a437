/-
  The walk of DeltRoom.
-/
import Derived.Test.YteloepccjoikdaaDltg
import Derived.Test.YteloepccjoikdaaAwake12
namespace Go.Proofs.Yteloepccjoikdaa
set_option linter.unusedVariables false
set_option linter.unusedSimpArgs false
open Go.RowKit

theorem own_some2 {w : World} {K : Nat} {E : TypeId} {sz n cap : Nat} {ao : Option Addr} {xs : List Value} (h : w.ownsRow K E sz (.slice ao n cap) n xs) (hn : 0 < n) : ∃ g, ao = some ⟨g, 0, none⟩ := by
  rcases h.2 with ⟨_, h1⟩ | ⟨g, c, cur, h1, _⟩
  · omega
  · simp only [Value.slice.injEq] at h1; exact ⟨g, h1.1⟩
theorem own_room {w : World} {K : Nat} {E : TypeId} {sz n g cap : Nat} {xs : List Value} (h : w.ownsRow K E sz (.slice (some ⟨g, 0, none⟩) n cap) n xs) : n ≤ cap := by
  obtain ⟨_, _, h, _⟩ := own_block h
  exact h
theorem name_w4 {A : Nat} {w0 w : World} (h : Below A w0 w) : ∃ V : World, V = w := ⟨w, rfl⟩
/-- The IDs are 0, 1, .. -/
def Cnt (vs : List Vr) : Prop := ∀ (j : Nat) (x : Vr), vs[j]? = some x → x.i = (j : Int)
theorem Cnt.rise {vs : List Vr} (h : Cnt vs) : Rise vs := fun i j a b hij h1 h2 => by rw [h i a h1, h j b h2]; omega
theorem Cnt.push {vs : List Vr} (h : Cnt vs) (x : Vr) (hx : x.i = (vs.length : Int)) : Cnt (vs ++ [x]) := fun j y hy => by
  rcases Nat.lt_or_ge j vs.length with hl | hl
  · rw [List.getElem?_append_left hl] at hy
    exact h j y hy
  · rw [List.getElem?_append_right hl] at hy
    have h0 : j - vs.length = 0 := by have := (List.getElem?_eq_some_iff.1 hy).1; simp at this; omega
    rw [h0] at hy
    simp at hy
    rw [← hy, hx]
    omega
/-- One taken out: they rise still, and none is the one that was. -/
theorem Cnt.cut {vs : List Vr} (h : Cnt vs) (p : Nat) (hp : p < vs.length) : Rise (vs.take p ++ vs.drop (p + 1)) ∧ (vs.take p ++ vs.drop (p + 1)).length = vs.length - 1 ∧ ∀ y ∈ vs.take p ++ vs.drop (p + 1), 0 ≤ y.i := by
  have hl : (vs.take p).length = p := by rw [List.length_take]; omega
  have hat : ∀ (j : Nat) (x : Vr), (vs.take p ++ vs.drop (p + 1))[j]? = some x → x.i = if j < p then (j : Int) else (j : Int) + 1 := fun j x hx => by
    by_cases hj : j < p
    · rw [List.getElem?_append_left (by omega), List.getElem?_take, if_pos hj] at hx
      rw [if_pos hj]
      exact h j x hx
    · rw [List.getElem?_append_right (by omega), hl, List.getElem?_drop] at hx
      rw [if_neg hj, h _ x hx]
      omega
  refine ⟨fun i j a b hij h1 h2 => ?_, ?_, fun y hy => ?_⟩
  · rw [hat i a h1, hat j b h2]
    split <;> split <;> omega
  · rw [List.length_append, hl, List.length_drop]; omega
  · obtain ⟨j, hj⟩ := List.getElem?_of_mem hy
    rw [hat j y hj]
    split <;> omega
theorem rise_cons {vs : List Vr} (h : Rise vs) (x : Vr) (hx : ∀ y ∈ vs, x.i < y.i) : Rise (x :: vs) := fun i j a b hij h1 h2 => by
  cases j with
  | zero => omega
  | succ j =>
    rw [List.getElem?_cons_succ] at h2
    cases i with
    | zero => simp at h1; rw [← h1]; exact hx b (List.mem_of_getElem? h2)
    | succ i => rw [List.getElem?_cons_succ] at h1; exact h i j a b (by omega) h1 h2

set_option maxRecDepth 100000 in
set_option maxHeartbeats 8000000 in
theorem walk_DeltRoom (a0 : Int) (w : World) (w0 : (Lit.int .i64 a0).wf = true) :
    Calls Try.prog 4 #[.int .i64 a0] w fun e w' => e = .returned (.bool true) ∧ Below w.heap.size w w' := by
  obtain ⟨K, hK⟩ : ∃ K : Nat, min (max a0 1) 1000 = (K : Int) := ⟨(min (max a0 1) 1000).toNat, by omega⟩
  have hK1 : 1 ≤ K := by omega
  have hK2 : K ≤ 1000 := by omega
  clear w0
  go_enter Try.func4, Try.ntmps4
  go_wp2_with fail
  refine (dnew_any a0 w).mono ?_
  rintro e W1 ⟨rfl, hW1⟩
  rw [hK] at hW1
  have hd1 : W1.heap[w.heap.size]? = some (.cells #[.int .i64 (K : Int), .slice none 0 0] 98 (0, 0)) := by rw [hW1]; exact heap_alloc_new w _
  have hb1 : Below w.heap.size w W1 := by rw [hW1]; exact below_alloc w _
  obtain ⟨D, hD⟩ : ∃ D, D = w.heap.size := ⟨_, rfl⟩
  rw [← hD] at hd1 hb1 ⊢
  have HD1 := Lib.hid hd1
  have HB1 := Lib.hid hb1
  have HDD := Lib.hid hD
  have HK := Lib.hid hK
  clear hd1 hb1 hD hW1 hK
  go_upto_region 5 with (fail)
  rw [HK.out]
  go_wp2_with fail
  go_loopw [5] (fun i wr => ∃ (q : Nat) (vs : List Vr) (va : Option Addr) (vc : Nat), q ≤ K ∧ i = .int .i64 (q : Int) ∧ vs.length = q ∧ Cnt vs ∧ wr.heap[D]? = some (.cells #[.int .i64 (K : Int), .slice va q vc] 98 (0, 0)) ∧ wr.ownsRow D 36 6 (.slice va q vc) q (vs.map Vr.cells).flatten ∧ (Value.slice va q vc).ownBlock ≠ some D ∧ Below D w wr) (fun i _ => K - (intOf i).toNat)
  case atStart => exact ⟨0, [], none, 0, Nat.zero_le _, rfl, rfl, (fun j x h => by simp at h), HD1.out, World.ownsRow_nil .., (by simp [Value.ownBlock]), HB1.out⟩
  case round =>
    obtain ⟨q, vs, va, vc, hq, rfl, hln, hcnt, hd, hown, hnd, hbel⟩ := hrel
    have HLN := Lib.hid hln
    have HCN := Lib.hid hcnt
    have HDQ := Lib.hid hd
    have HOQ := Lib.hid hown
    have HND := Lib.hid hnd
    have HBL := Lib.hid hbel
    clear hln hcnt hd hown hnd hbel
    by_cases hlt : q < K
    · have hlti : (q : Int) < (K : Int) := by omega
      have hq0 : (0 : Int) ≤ (q : Int) := by omega
      have HA := Lib.hid (dadd_end vs (by rw [HLN.out]; omega) HCN.out.rise va q vc D D (K : Int) (q : Int) 0 0 0 0 none 0 0 [] (by simp) wr HLN.out.symm HOQ.out (Nat.le_refl _) HND.out HDQ.out hlti
        (fun y hy => by obtain ⟨j, hj⟩ := List.getElem?_of_mem hy; rw [HCN.out j y hj]; have := (List.getElem?_eq_some_iff.1 hj).1; have := HLN.out; omega) ⟨RdS.nil wr 4, fun t ht => by cases ht⟩ (fun t ht => by cases ht))
      go_wp2_with fail
      refine HA.out.mono ?_
      rintro e W5 ⟨rfl, ao1, cap1, na1, nn1, nc1, l1, wr1, hd5, hown5, hl1, hr1, hab1, hsz1, hsz1', hng1, hbel5, hfr5⟩
      have HD5 := Lib.hid hd5
      have HO5 := Lib.hid hown5
      have HB5 := Lib.hid (HBL.out.trans hbel5)
      have HN5 := Lib.hid (show (Value.slice ao1 (q + 1) cap1).ownBlock ≠ some D from fun e => by
        rcases hng1 D e with h | h
        · exact HND.out h
        · have := (Array.getElem?_eq_some_iff.1 HDQ.out).1
          omega)
      clear hd5 hown5 hl1 hr1 hab1 hsz1 hsz1' hng1 hbel5 hfr5 HA
      go_wp2_with fail
      go_roundw
      case rel => exact ⟨q + 1, vs ++ [⟨(q : Int), na1, nn1, nc1, 0, 0, 0, 0⟩], ao1, cap1, by omega, by go_num, by rw [List.length_append, HLN.out]; rfl, HCN.out.push _ (by rw [HLN.out]), HD5.out, HO5.out, HN5.out, HB5.out⟩
      case measure => simp [intOf]; omega
    · have hqK : q = K := by omega
      subst hqK
      have hlti : ¬ (q : Int) < (q : Int) := by omega
      have hown := HOQ.out
      obtain ⟨g, rfl⟩ := own_some2 hown (by omega)
      have hgD : g ≠ D := fun e => HND.out (by rw [e]; rfl)
      have HRD := Lib.hid (rdS_own HOQ.out (by rw [List.length_map]; exact HLN.out.symm) (vr_len vs))
      have HA := Lib.hid (dadd_no vs (by rw [HLN.out]; omega) HCN.out.rise (some ⟨g, 0, none⟩) q vc D (q : Int) (-1) 0 0 0 0 none 0 0 wr HLN.out.symm HRD.out HDQ.out (.inl (Int.le_refl _)))
      clear hown
      go_wp2_with fail
      refine HA.out.mono ?_
      rintro e W6 ⟨rfl, hb6⟩
      have hDl : D < wr.heap.size := (Array.getElem?_eq_some_iff.1 HDQ.out).1
      have hd6 := (hb6.block D hDl).trans HDQ.out
      have HD6 := Lib.hid hd6
      have HO6 := Lib.hid (own_kept HOQ.out hb6)
      have HB6 := Lib.hid (HBL.out.trans (hb6.mono (Nat.le_of_lt hDl)))
      obtain ⟨P, hP⟩ : ∃ P, P = q / 2 := ⟨_, rfl⟩
      have hpq : P < q := by omega
      have hqd : ((q : Int)).tdiv 2 = (P : Int) := by rw [Int.tdiv_eq_ediv_of_nonneg (by omega), hP]; omega
      have hqd2 : (q : Int) / 2 = (P : Int) := by rw [hP]; omega
      obtain ⟨x, hx⟩ : ∃ x, vs[P]? = some x := ⟨_, List.getElem?_eq_getElem (by rw [HLN.out]; exact hpq)⟩
      have HDR := Lib.hid (ddrop_at vs (by rw [HLN.out]; omega) HCN.out.rise g q vc D D (q : Int) (P : Int) P x W6 HLN.out.symm HO6.out (Nat.le_refl _) hgD HD6.out hx (HCN.out P x hx))
      clear hb6 hd6 hP hx HA HRD HDQ HOQ HBL
      go_wp2_with fail
      refine HDR.out.mono ?_
      rintro e W7 ⟨rfl, hd7, hown7, hb7, hfr7⟩
      obtain ⟨vs2, hvs2⟩ : ∃ vs2, vs2 = vs.take P ++ vs.drop (P + 1) := ⟨_, rfl⟩
      obtain ⟨hr2, hl2, hm2⟩ := HCN.out.cut P (by rw [HLN.out]; exact hpq)
      rw [← hvs2] at hr2 hl2 hm2 hown7
      rw [HLN.out] at hl2
      have HD7 := Lib.hid hd7
      have HO7 := Lib.hid hown7
      have HB7 := Lib.hid (HB6.out.trans hb7)
      have HR2 := Lib.hid hr2
      have HL2 := Lib.hid hl2
      have HM2 := Lib.hid hm2
      have HVC := Lib.hid (own_room HO6.out)
      clear hd7 hown7 hb7 hfr7 hvs2 hr2 hl2 hm2 HDR HD6 HO6 HB6
      have HADD := Lib.hid (show Calls Try.prog 18 #[.pointer (some ⟨D, 0, none⟩), .agg #[.int .i64 (-1), .slice none 0 0, .int .i64 0, .int .i64 0, .int .i64 0, .int .i64 0]] W7 fun e w' => e = .returned (.bool true) ∧ ∃ (ao : Option Addr) (cap : Nat) (x : Vr), x.i = -1 ∧ w'.heap[D]? = some (.cells #[.int .i64 (q : Int), .slice ao q cap] 98 (0, 0)) ∧ w'.ownsRow D 36 6 (.slice ao q cap) q ((x :: vs2).map Vr.cells).flatten ∧ Below D w w' from by
        by_cases h1 : q = 1
        · subst h1
          have e0 : vs2 = [] := List.length_eq_zero_iff.1 HL2.out
          subst e0
          refine (dadd_end [] (by simp) HR2.out (some ⟨g, 0, none⟩) 0 vc D D 1 (-1) 0 0 0 0 none 0 0 [] (by simp) W7 rfl HO7.out (Nat.le_refl _) (by simp [Value.ownBlock]; exact hgD) HD7.out (by decide) (fun y hy => by cases hy) ⟨RdS.nil W7 4, fun t ht => by cases ht⟩ (fun t ht => by cases ht)).mono ?_
          rintro e W5 ⟨rfl, ao1, cap1, na1, nn1, nc1, l1, wr1, hd5, hown5, hl1, hr1, hab1, hsz1, hsz1', hng1, hbel5, hfr5⟩
          exact ⟨rfl, ao1, cap1, ⟨-1, na1, nn1, nc1, 0, 0, 0, 0⟩, rfl, hd5, hown5, HB7.out.trans hbel5⟩
        · refine (dadd_mid vs2 (by rw [HL2.out]; omega) HR2.out g (q - 1) vc D D 0 (q : Int) (-1) 0 0 0 0 none 0 0 [] (by simp) W7 HL2.out.symm HO7.out (Nat.le_refl _) hgD HD7.out (by omega) (by omega) (by have := HVC.out; omega) (fun k y hk => by omega) (fun k y _ hy => by have := HM2.out y (List.mem_of_getElem? hy); omega) ⟨RdS.nil W7 4, fun t ht => by cases ht⟩ (fun t ht => by cases ht)).mono ?_
          rintro e W5 ⟨rfl, na1, nn1, nc1, l1, wr1, hd5, hown5, hl1, hr1, hab1, hsz1, hsz1', hbel5, hfr5⟩
          rw [show q - 1 + 1 = q by omega] at hd5 hown5
          exact ⟨rfl, some ⟨g, 0, none⟩, vc, ⟨-1, na1, nn1, nc1, 0, 0, 0, 0⟩, rfl, hd5, (by simpa using hown5), HB7.out.trans hbel5⟩)
      go_wp2_with fail
      refine HADD.out.mono ?_
      rintro e W8 ⟨rfl, ao, cap, x, hxi, hd8, hown8, hb8⟩
      have HD8 := Lib.hid hd8
      have HB8 := Lib.hid hb8
      have HXI := Lib.hid hxi
      have hlen8 : (x :: vs2).length = q := by rw [List.length_cons, HL2.out]; omega
      have HL8 := Lib.hid hlen8
      have HRI8 := Lib.hid (rise_cons HR2.out x (fun y hy => by have := HM2.out y hy; rw [hxi]; omega))
      have HRD8 := Lib.hid (rdS_own hown8 (by rw [List.length_map]; exact hlen8.symm) (vr_len (x :: vs2)))
      have HA9 := Lib.hid (dadd_no (x :: vs2) (by rw [hlen8]; omega) HRI8.out ao q cap D (q : Int) (P : Int) 0 0 0 0 none 0 0 W8 hlen8.symm HRD8.out hd8 (.inl (Int.le_refl _)))
      clear hxi hd8 hown8 hb8 hlen8 HADD HD7 HO7 HB7 HR2 HL2 HM2 HVC
      go_wp2_with fail
      refine HA9.out.mono ?_
      rintro e W9 ⟨rfl, hb9⟩
      have hDl8 : D < W8.heap.size := (Array.getElem?_eq_some_iff.1 HD8.out).1
      have HI := Lib.hid (dids_any (x :: vs2) (by rw [HL8.out]; omega) ao q cap D (q : Int) W9 HL8.out.symm (HRD8.out.kept hb9) ((hb9.block D hDl8).trans HD8.out))
      have HB9 := Lib.hid (HB8.out.trans (hb9.mono (Nat.le_of_lt hDl8)))
      have HSZ9 := Lib.hid (show D ≤ W9.heap.size by have := hb9.size; omega)
      clear hb9 HA9
      go_wp2_with fail
      refine HI.out.mono ?_
      rintro e W10 ⟨rfl, hown10, hb10⟩
      have c10 : W10.cell? ⟨W9.heap.size, 0, none⟩ = some (.int .i64 (-1)) := by
        rw [hown10.cellAt 0 (by omega), ← HXI.out]
        rfl
      have HB10 := Lib.hid (HB9.out.trans (hb10.mono HSZ9.out))
      have hqq : ((q : Int) == (q : Int)) = true := by simp
      have hq1 : (0 : Int) < (q : Int) := by omega
      clear hown10 hb10 HI HD8 HB8 HXI HL8 HRI8 HRD8 HB9 HSZ9 HLN HCN HND
      go_wp2_with fail
      refine (awake12_any _).mono ?_
      rintro e W11 ⟨rfl, hb11⟩
      have hsz : D ≤ W10.heap.size := by have := HB10.out.size; have := HDD.out; omega
      have HB11 := Lib.hid (HB10.out.trans (hb11.mono hsz))
      clear hb11 c10
      go_wp2_with fail
      go_ret
      exact ⟨rfl, by rw [← HDD.out]; exact HB11.out⟩

end Go.Proofs.Yteloepccjoikdaa
