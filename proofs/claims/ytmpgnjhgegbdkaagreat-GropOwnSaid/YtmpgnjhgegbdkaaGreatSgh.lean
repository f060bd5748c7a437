import Derived.Test.YtmpgnjhgegbdkaaGreatSgg
import Derived.Test.YtmpgnjhgegbdkaaGreatZsafem
import Derived.Test.YtmpgnjhgegbdkaaGreatIcolu
import Derived.Test.YtmpgnjhgegbdkaaGreatGtbase
set_option linter.unusedVariables false
set_option linter.unusedSimpArgs false
set_option maxRecDepth 100000
set_option maxHeartbeats 8000000
open Go.Lib (hid)
namespace Go.Proofs.YtmpgnjhgegbdkaaGreat
open Go.RowKit
open _root_.Array renaming getElem?_eq_some_iff -> Qa
open _root_.Nat renaming le_refl -> Qb
open _root_.List renaming length_take -> Qc, getElem?_map -> Qd, map_take -> Qe, length_map -> Qg, getElem?_eq_none -> Qh, getElem?_eq_getElem -> Qi, mem_of_getElem? -> Qk, getD_eq_getElem?_getD -> Ql
open Go.IntWalk renaming i64_in -> Qf
open _root_.Int renaming toNat_natCast -> Qj
open Go renaming cell_of_row -> Qm, frozen_of_row -> Qn
theorem zP6 : ∀ {vs : List Vc} {i : Nat} {v : Vc}, vs[i]? = some v -> v.u = false -> (thrT vs)[i - countB (nulT (vs.take i))]? = some v := fun {vs i v} h hu => by
 have hd : vs = vs.take i ++ v :: vs.drop (i + 1) := by
  conv => lhs; rw [<- List.take_append_drop i vs]
  rw [List.drop_eq_getElem?_toList_append, h]
  rfl
 have hl := zDf (vs.take i)
 have hi := (List.getElem?_eq_some_iff.1 h).1
 rw [Qc, Nat.min_eq_left (by omega)] at hl
 have he : thrT vs = thrT (vs.take i) ++ v :: thrT (vs.drop (i + 1)) := by
  conv => lhs; rw [hd]
  unfold thrT
  rw [List.filter_append, List.filter_cons, hu]
  rfl
 rw [he, List.getElem?_append_right (by omega), show i - countB (nulT (vs.take i)) - (thrT (vs.take i)).length = 0 by omega]
 rfl
def valAt (vs : List Vc) (i : Int) : Option Vc := if 0 <= i then vs[i.toNat]? else none
def RetVal (B : Nat) (o : Option Vc) (e : Ending) (w' : World) : Prop := match o with
 | some v => ∃ s, e = .returned (.tuple #[.agg #[.bool v.u, .int .i64 v.k, .int .i64 v.n, s], .bool true]) ∧ OwnB B w' s v.b
 | none => e = .returned (.tuple #[.agg #[.bool false, .int .i64 0, .int .i64 0, .slice none 0 0], .bool false])
theorem zIx (Y : Nat) (w : World) (v0 v1 v2 v3 : Value) : Agree (fun b => b = Y) w ((((w.setCell ⟨Y, 0, none⟩ v0).setCell ⟨Y, 1, none⟩ v1).setCell ⟨Y, 2, none⟩ v2).setCell ⟨Y, 3, none⟩ v3) :=
 ((((Agree.refl (fun b => b = Y) w).set ⟨Y, 0, none⟩ v0 (.inl rfl)).set ⟨Y, 1, none⟩ v1 (.inl rfl)).set ⟨Y, 2, none⟩ v2 (.inl rfl)).set ⟨Y, 3, none⟩ v3 (.inl rfl)
theorem zRm (vs : List Vc) (hcv : ∀ v ∈ vs, ColV 1 v) (hl : vs.length <= 100) (bv : Value) (i : Int) (w : World) (hr : Rd w bv ((scolT 1 vs).map u8v)) :
  Calls Tryz.prog 55 #[.int .i64 1, bv, .int .i64 i] w fun e w' => RetVal w.heap.size (valAt vs i) e w' ∧ Below w.heap.size w w' := by
 have hlt := zIg (k := 1) (by decide) hcv hl
 have HD := hid fun w' (h : Below w.heap.size w w') => zIr bv _ w' (hr.kept h) hlt.1 (by omega)
 rw [zNd _ _ (by omega)] at HD
 obtain ⟨ba, bc, rfl⟩ := zAh hr
 obtain ⟨bn, hbn⟩ : ∃ bn, bn = ((scolT 1 vs).map u8v).length := ⟨_, rfl⟩
 rw [<- hbn] at HD ⊢
 obtain ⟨n, hn⟩ : ∃ n, n = vs.length := ⟨_, rfl⟩
 have HN := hid hn
 have HCV := hid hcv
 have HBL := hid (zF2 (k := 1) (by decide) hcv hl)
 have HBD := hid (show decT (bodyT 1 vs) (((intT vs).length : Nat) : Int) = some (intT vs) from by
  have := zDf vs
  have h := zEy (intT vs) (zJd hcv) (by rw [zF1]; omega)
  unfold bodyT
  rw [if_pos rfl]
  exact h.1)
 rw [<- hn] at hl
 clear hr hlt hbn hn hcv
 go_enter Tryz.func55, Tryz.ntmps55
 go_upto_region 1 with (fail)
 obtain ⟨W1, hW1⟩ : ∃ W1 : World, W1 = w.alloc (.cells #[.bool false, .int .i64 0, .int .i64 0, .slice none 0 0] 31) := ⟨_, rfl⟩
 obtain ⟨Y, hY⟩ : ∃ Y, Y = w.heap.size := ⟨_, rfl⟩
 rw [<- hW1, <- hY]
 have HB1 := hid (show Below w.heap.size w W1 by rw [hW1]; exact zAd w _)
 have HY1 := hid (show W1.heap[Y]? = some (.cells #[.bool false, .int .i64 0, .int .i64 0, .slice none 0 0] 31 (0, 0)) by rw [hW1, hY]; exact heap_alloc_new w _)
 have HYY := hid hY
 clear hW1 hY
 go_wp2_with fail
 refine (HD.out _ HB1.out).mono ?_
 rintro e w2 hd
 rcases hd with ⟨h, _⟩ | ⟨l, r, ao, len, cap, ao2, len2, cap2, h, rfl, hr1, hr2, hb⟩
 ·cases h
 ·obtain ⟨rfl, rfl⟩ : nulT vs = l ∧ bodyT 1 vs = r := by simpa using h
  have hln : len = n := by
   obtain ⟨_, _, hv, _⟩ := hr1
   simp only [Value.slice.injEq, Qg] at hv
   rw [hv.2.1, zBe, HN.out]
  have hcap : len <= cap := zBr hr1
  have HR1 := hid hr1
  have HR2 := hid hr2
  have HB2 := hid (zAa HB1.out hb)
  have hy2 := (hb.block Y (Qa.1 HY1.out).1).trans HY1.out
  have HY2 := hid hy2
  have HYL := hid (show Y < w2.heap.size from (Qa.1 hy2).1)
  subst hln
  have cy0 : w2.cell? ⟨Y, 0, none⟩ = some (.bool false) := by rw [Qm w2 Y 0 _ _ _ hy2]; rfl
  have cyf0 : w2.frozen? ⟨Y, 0, none⟩ = false := Qn w2 Y 0 _ _ hy2
  have cy1 : w2.cell? ⟨Y, 1, none⟩ = some (.int .i64 0) := by rw [Qm w2 Y 1 _ _ _ hy2]; rfl
  have cyf1 : w2.frozen? ⟨Y, 1, none⟩ = false := Qn w2 Y 1 _ _ hy2
  have cy2 : w2.cell? ⟨Y, 2, none⟩ = some (.int .i64 0) := by rw [Qm w2 Y 2 _ _ _ hy2]; rfl
  have cyf2 : w2.frozen? ⟨Y, 2, none⟩ = false := Qn w2 Y 2 _ _ hy2
  have cy3 : w2.cell? ⟨Y, 3, none⟩ = some (.slice none 0 0) := by rw [Qm w2 Y 3 _ _ _ hy2]; rfl
  have cyf3 : w2.frozen? ⟨Y, 3, none⟩ = false := Qn w2 Y 3 _ _ hy2
  clear h hr1 hr2 hb hy2
  by_cases hin : 0 <= i ∧ i < (len : Int)
  case neg =>
   have hq : (decide (i < 0) = true ∧ i < 0) ∨ (decide (i < 0) = false ∧ ¬ i < 0 ∧ decide ((len : Int) <= i) = true ∧ (len : Int) <= i) := by
    by_cases h0 : i < 0
    ·exact .inl ⟨by rw [decide_eq_true_eq]; exact h0, h0⟩
    ·exact .inr ⟨by rw [decide_eq_false_iff_not]; exact h0, h0, by rw [decide_eq_true_eq]; omega, by omega⟩
   have HF := hid (show valAt vs i = none from by
    unfold valAt
    split
    ·rw [Qh]
     rw [<- HN.out]
     omega
    ·rfl)
   have HBF := hid (zBk (i := 0) (j := 1) (k := 2) (l := 3) HB2.out (show w.heap.size <= Y by rw [HYY.out]; exact Qb _) (.bool false) (.int .i64 0) (.int .i64 0) (.slice none 0 0))
   clear hin
   rcases hq with ⟨hq0, hq1⟩ | ⟨hq0, hq1, hq2, hq3⟩
   all_goals
    go_wp2_with fail
    refine bodyPost_ret (results_cell_tmp rfl _ _ Y _ _ (0, 0) _ _ rfl rfl (zBj HY2.out) Tryz.underlying31 rfl zBt) rfl ?_
    exact ⟨by rw [HF.out]; rfl, HBF.out⟩
  case pos =>
   obtain ⟨hi0, hi1⟩ := hin
   obtain ⟨j, rfl⟩ : ∃ j : Nat, i = (j : Int) := ⟨i.toNat, by omega⟩
   have hjl : j < len := by omega
   have hq0 : decide ((j : Int) < 0) = false := by rw [decide_eq_false_iff_not]; omega
   have hq1 : ¬ ((j : Int) < 0) := by omega
   have hq2 : decide ((len : Int) <= (j : Int)) = false := by rw [decide_eq_false_iff_not]; omega
   have hq3 : ¬ ((len : Int) <= (j : Int)) := by omega
   have hq4 : ¬ (len <= j) := by omega
   obtain ⟨v, hv⟩ : ∃ v, vs[j]? = some v := ⟨_, Qi (by rw [<- HN.out]; exact hjl)⟩
   have HVA := hid (show valAt vs (j : Int) = some v from by unfold valAt; rw [if_pos (by omega), Qj, hv])
   have hcv := HCV.out v (Qk hv)
   obtain ⟨nb, noff, rfl, hcells⟩ := (zE6 HR1.out).2 (by omega)
   have hcn := hcells j hjl
   rw [show (nulT vs).getD j false = v.u by unfold nulT; rw [Ql, Qd, hv]; rfl] at hcn
   have HV := hid hv
   have HCVV := hid hcv
   obtain ⟨vu, vk, vn, vb⟩ := v
   simp only at hcn
   clear hv hcells hcv
   cases vu
   ·obtain ⟨c, hcc⟩ : ∃ c, c = countB (nulT vs) := ⟨_, rfl⟩
    obtain ⟨d, hd⟩ : ∃ d, d = (intT vs).length := ⟨_, rfl⟩
    have hcd : d + c = len := by
     have := zDf vs
     rw [hd, hcc, zF1, HN.out]
     exact this
    obtain ⟨c2, hc2⟩ : ∃ c2, c2 = countB (nulT (vs.take j)) := ⟨_, rfl⟩
    have hc2j : c2 <= j := by
     have := countB_le (nulT (vs.take j))
     rw [zBe, Qc] at this
     omega
    obtain ⟨pl, hpl⟩ : ∃ pl, pl = j - c2 := ⟨_, rfl⟩
    have HCA := hid (zDc (.slice (some ⟨nb, noff, none⟩) len cap) (nulT vs) w2 HR1.out (by rw [zBe, <- HN.out]; omega))
    rw [<- hcc] at HCA
    have htk : (nulT vs).take j = nulT (vs.take j) := by unfold nulT; rw [Qe]
    have hr1j := zHk HR1.out (m := j) (by omega)
    rw [<- Qe, htk] at hr1j
    have HCB := hid (zDc (.slice (some ⟨nb, noff, none⟩) j cap) (nulT (vs.take j)) w2 hr1j (by rw [zBe, Qc]; omega))
    rw [<- hc2] at HCB
    have hth := zP6 HV.out rfl
    rw [<- hc2, <- hpl] at hth
    have HAT := hid (zLl (intT vs) (bodyT 1 vs) (.slice ao2 len2 cap2) pl _ w2 HBD.out (show (intT vs)[pl]? = some (vn) by unfold intT; rw [Qd, hth]; rfl) (by rw [zF1]; have := zDf vs; rw [<- HN.out] at this; omega) HR2.out HBL.out.1 (by have := HBL.out.2; omega))
    rw [<- hd] at HAT
    have hs1 : (len : Int) - (c : Int) = (d : Int) := by omega
    have hs2 : IntKind.i64.wrap (d : Int) = (d : Int) := Qf _ (by omega)
    have hs3 : (j : Int) - (c2 : Int) = (pl : Int) := by omega
    have hs4 : IntKind.i64.wrap (pl : Int) = (pl : Int) := Qf _ (by omega)
    have hjc : j <= cap := by omega
    have hjci : (j : Int) <= (cap : Int) := by omega
    have hji : (j : Int) <= (len : Int) := by omega
    clear hcc hd hcd hc2 hc2j hpl htk hr1j hth
    go_wp2_with fail
    refine HCA.out.mono ?_
    rintro e w3 ⟨rfl, rfl⟩
    go_wp2_with fail
    refine HCB.out.mono ?_
    rintro e w3 ⟨rfl, rfl⟩
    go_wp2_with fail
    refine HAT.out.mono ?_
    rintro e w3 ⟨rfl, hb3⟩
    have HB3 := hid (zAa HB2.out hb3)
    have hy3 := (hb3.block Y (Qa.1 HY2.out).1).trans HY2.out
    have HY3 := hid hy3
    have HSZ := hid (show Y < w2.heap.size from (Qa.1 HY2.out).1)
    clear cy0 cyf0 cy1 cyf1 cy2 cyf2 cy3 cyf3 hcn
    have cy0 : w3.cell? ⟨Y, 0, none⟩ = some (.bool false) := by rw [Qm w3 Y 0 _ _ _ hy3]; rfl
    have cyf0 : w3.frozen? ⟨Y, 0, none⟩ = false := Qn w3 Y 0 _ _ hy3
    have cy1 : w3.cell? ⟨Y, 1, none⟩ = some (.int .i64 0) := by rw [Qm w3 Y 1 _ _ _ hy3]; rfl
    have cyf1 : w3.frozen? ⟨Y, 1, none⟩ = false := Qn w3 Y 1 _ _ hy3
    have cy2 : w3.cell? ⟨Y, 2, none⟩ = some (.int .i64 0) := by rw [Qm w3 Y 2 _ _ _ hy3]; rfl
    have cyf2 : w3.frozen? ⟨Y, 2, none⟩ = false := Qn w3 Y 2 _ _ hy3
    have cy3 : w3.cell? ⟨Y, 3, none⟩ = some (.slice none 0 0) := by rw [Qm w3 Y 3 _ _ _ hy3]; rfl
    have cyf3 : w3.frozen? ⟨Y, 3, none⟩ = false := Qn w3 Y 3 _ _ hy3
    clear hb3 hy3
    have HBF := hid fun v3 => zBk (i := 0) (j := 1) (k := 2) (l := 3) HB3.out (show w.heap.size <= Y by rw [HYY.out]; exact Qb _) (.bool false) (.int .i64 1) (.int .i64 vn) v3
    go_wp2_with fail
    refine bodyPost_ret (results_cell_tmp rfl _ _ Y _ _ (0, 0) _ _ rfl rfl (zBj HY3.out) Tryz.underlying31 rfl zBt) rfl ?_
    refine ⟨?_, HBF.out _⟩
    rw [HVA.out]
    have hk := HCVV.out.k
    have hbb := HCVV.out.norm.2.2 (by rw [hk]; decide)
    simp only at hk hbb
    subst hbb
    rw [hk]
    exact ⟨_, rfl, zA6 _ _⟩
   ·have HBF := hid (zBk (i := 0) (j := 1) (k := 2) (l := 3) HB2.out (show w.heap.size <= Y by rw [HYY.out]; exact Qb _) (.bool true) (.int .i64 1) (.int .i64 0) (.slice none 0 0))
    go_wp2_with fail
    refine bodyPost_ret (results_cell_tmp rfl _ _ Y _ _ (0, 0) _ _ rfl rfl (zBj HY2.out) Tryz.underlying31 rfl zBt) rfl ?_
    refine ⟨?_, HBF.out⟩
    rw [HVA.out]
    have hk := HCVV.out.k
    have hnu := HCVV.out.norm.1 rfl
    simp only at hk hnu
    obtain ⟨rfl, rfl⟩ := hnu
    rw [hk]
    exact ⟨_, rfl, zA6 _ _⟩
theorem zRn (vs : List Vc) (hcv : ∀ v ∈ vs, ColV 2 v) (hl : vs.length <= 100) (bv : Value) (i : Int) (w : World) (hr : Rd w bv ((scolT 2 vs).map u8v)) :
  Calls Tryz.prog 55 #[.int .i64 2, bv, .int .i64 i] w fun e w' => RetVal w.heap.size (valAt vs i) e w' ∧ Below w.heap.size w w' := by
 have hlt := zIg (k := 2) (by decide) hcv hl
 have HD := hid fun w' (h : Below w.heap.size w w') => zIr bv _ w' (hr.kept h) hlt.1 (by omega)
 rw [zNd _ _ (by omega)] at HD
 obtain ⟨ba, bc, rfl⟩ := zAh hr
 obtain ⟨bn, hbn⟩ : ∃ bn, bn = ((scolT 2 vs).map u8v).length := ⟨_, rfl⟩
 rw [<- hbn] at HD ⊢
 obtain ⟨n, hn⟩ : ∃ n, n = vs.length := ⟨_, rfl⟩
 have HN := hid hn
 have HCV := hid hcv
 have HBL := hid (zF2 (k := 2) (by decide) hcv hl)
 have HBD := hid (show Bc.decT (bodyT 2 vs) (((txtT vs).length : Nat) : Int) = some (txtT vs) from by
  have := zDf vs
  have h := Bc.zEy (txtT vs) (zJe hcv) (by rw [zHs]; omega)
  unfold bodyT
  rw [if_neg (by decide)]
  exact h.1)
 rw [<- hn] at hl
 clear hr hlt hbn hn hcv
 go_enter Tryz.func55, Tryz.ntmps55
 go_upto_region 1 with (fail)
 obtain ⟨W1, hW1⟩ : ∃ W1 : World, W1 = w.alloc (.cells #[.bool false, .int .i64 0, .int .i64 0, .slice none 0 0] 31) := ⟨_, rfl⟩
 obtain ⟨Y, hY⟩ : ∃ Y, Y = w.heap.size := ⟨_, rfl⟩
 rw [<- hW1, <- hY]
 have HB1 := hid (show Below w.heap.size w W1 by rw [hW1]; exact zAd w _)
 have HY1 := hid (show W1.heap[Y]? = some (.cells #[.bool false, .int .i64 0, .int .i64 0, .slice none 0 0] 31 (0, 0)) by rw [hW1, hY]; exact heap_alloc_new w _)
 have HYY := hid hY
 clear hW1 hY
 go_wp2_with fail
 refine (HD.out _ HB1.out).mono ?_
 rintro e w2 hd
 rcases hd with ⟨h, _⟩ | ⟨l, r, ao, len, cap, ao2, len2, cap2, h, rfl, hr1, hr2, hb⟩
 ·cases h
 ·obtain ⟨rfl, rfl⟩ : nulT vs = l ∧ bodyT 2 vs = r := by simpa using h
  have hln : len = n := by
   obtain ⟨_, _, hv, _⟩ := hr1
   simp only [Value.slice.injEq, Qg] at hv
   rw [hv.2.1, zBe, HN.out]
  have hcap : len <= cap := zBr hr1
  have HR1 := hid hr1
  have HR2 := hid hr2
  have HB2 := hid (zAa HB1.out hb)
  have hy2 := (hb.block Y (Qa.1 HY1.out).1).trans HY1.out
  have HY2 := hid hy2
  have HYL := hid (show Y < w2.heap.size from (Qa.1 hy2).1)
  subst hln
  have cy0 : w2.cell? ⟨Y, 0, none⟩ = some (.bool false) := by rw [Qm w2 Y 0 _ _ _ hy2]; rfl
  have cyf0 : w2.frozen? ⟨Y, 0, none⟩ = false := Qn w2 Y 0 _ _ hy2
  have cy1 : w2.cell? ⟨Y, 1, none⟩ = some (.int .i64 0) := by rw [Qm w2 Y 1 _ _ _ hy2]; rfl
  have cyf1 : w2.frozen? ⟨Y, 1, none⟩ = false := Qn w2 Y 1 _ _ hy2
  have cy2 : w2.cell? ⟨Y, 2, none⟩ = some (.int .i64 0) := by rw [Qm w2 Y 2 _ _ _ hy2]; rfl
  have cyf2 : w2.frozen? ⟨Y, 2, none⟩ = false := Qn w2 Y 2 _ _ hy2
  have cy3 : w2.cell? ⟨Y, 3, none⟩ = some (.slice none 0 0) := by rw [Qm w2 Y 3 _ _ _ hy2]; rfl
  have cyf3 : w2.frozen? ⟨Y, 3, none⟩ = false := Qn w2 Y 3 _ _ hy2
  clear h hr1 hr2 hb hy2
  by_cases hin : 0 <= i ∧ i < (len : Int)
  case neg =>
   have hq : (decide (i < 0) = true ∧ i < 0) ∨ (decide (i < 0) = false ∧ ¬ i < 0 ∧ decide ((len : Int) <= i) = true ∧ (len : Int) <= i) := by
    by_cases h0 : i < 0
    ·exact .inl ⟨by rw [decide_eq_true_eq]; exact h0, h0⟩
    ·exact .inr ⟨by rw [decide_eq_false_iff_not]; exact h0, h0, by rw [decide_eq_true_eq]; omega, by omega⟩
   have HF := hid (show valAt vs i = none from by
    unfold valAt
    split
    ·rw [Qh]
     rw [<- HN.out]
     omega
    ·rfl)
   have HBF := hid (zBk (i := 0) (j := 1) (k := 2) (l := 3) HB2.out (show w.heap.size <= Y by rw [HYY.out]; exact Qb _) (.bool false) (.int .i64 0) (.int .i64 0) (.slice none 0 0))
   clear hin
   rcases hq with ⟨hq0, hq1⟩ | ⟨hq0, hq1, hq2, hq3⟩
   all_goals
    go_wp2_with fail
    refine bodyPost_ret (results_cell_tmp rfl _ _ Y _ _ (0, 0) _ _ rfl rfl (zBj HY2.out) Tryz.underlying31 rfl zBt) rfl ?_
    exact ⟨by rw [HF.out]; rfl, HBF.out⟩
  case pos =>
   obtain ⟨hi0, hi1⟩ := hin
   obtain ⟨j, rfl⟩ : ∃ j : Nat, i = (j : Int) := ⟨i.toNat, by omega⟩
   have hjl : j < len := by omega
   have hq0 : decide ((j : Int) < 0) = false := by rw [decide_eq_false_iff_not]; omega
   have hq1 : ¬ ((j : Int) < 0) := by omega
   have hq2 : decide ((len : Int) <= (j : Int)) = false := by rw [decide_eq_false_iff_not]; omega
   have hq3 : ¬ ((len : Int) <= (j : Int)) := by omega
   have hq4 : ¬ (len <= j) := by omega
   obtain ⟨v, hv⟩ : ∃ v, vs[j]? = some v := ⟨_, Qi (by rw [<- HN.out]; exact hjl)⟩
   have HVA := hid (show valAt vs (j : Int) = some v from by unfold valAt; rw [if_pos (by omega), Qj, hv])
   have hcv := HCV.out v (Qk hv)
   obtain ⟨nb, noff, rfl, hcells⟩ := (zE6 HR1.out).2 (by omega)
   have hcn := hcells j hjl
   rw [show (nulT vs).getD j false = v.u by unfold nulT; rw [Ql, Qd, hv]; rfl] at hcn
   have HV := hid hv
   have HCVV := hid hcv
   obtain ⟨vu, vk, vn, vb⟩ := v
   simp only at hcn
   clear hv hcells hcv
   cases vu
   ·obtain ⟨c, hcc⟩ : ∃ c, c = countB (nulT vs) := ⟨_, rfl⟩
    obtain ⟨d, hd⟩ : ∃ d, d = (txtT vs).length := ⟨_, rfl⟩
    have hcd : d + c = len := by
     have := zDf vs
     rw [hd, hcc, zHs, HN.out]
     exact this
    obtain ⟨c2, hc2⟩ : ∃ c2, c2 = countB (nulT (vs.take j)) := ⟨_, rfl⟩
    have hc2j : c2 <= j := by
     have := countB_le (nulT (vs.take j))
     rw [zBe, Qc] at this
     omega
    obtain ⟨pl, hpl⟩ : ∃ pl, pl = j - c2 := ⟨_, rfl⟩
    have HCA := hid (zDc (.slice (some ⟨nb, noff, none⟩) len cap) (nulT vs) w2 HR1.out (by rw [zBe, <- HN.out]; omega))
    rw [<- hcc] at HCA
    have htk : (nulT vs).take j = nulT (vs.take j) := by unfold nulT; rw [Qe]
    have hr1j := zHk HR1.out (m := j) (by omega)
    rw [<- Qe, htk] at hr1j
    have HCB := hid (zDc (.slice (some ⟨nb, noff, none⟩) j cap) (nulT (vs.take j)) w2 hr1j (by rw [zBe, Qc]; omega))
    rw [<- hc2] at HCB
    have hth := zP6 HV.out rfl
    rw [<- hc2, <- hpl] at hth
    have HAT := hid (Bc.zLl (txtT vs) (bodyT 2 vs) (.slice ao2 len2 cap2) pl _ w2 HBD.out (show (txtT vs)[pl]? = some (vb) by unfold txtT; rw [Qd, hth]; rfl) HR2.out HBL.out.1 (by have := HBL.out.2; omega))
    rw [<- hd] at HAT
    have hs1 : (len : Int) - (c : Int) = (d : Int) := by omega
    have hs2 : IntKind.i64.wrap (d : Int) = (d : Int) := Qf _ (by omega)
    have hs3 : (j : Int) - (c2 : Int) = (pl : Int) := by omega
    have hs4 : IntKind.i64.wrap (pl : Int) = (pl : Int) := Qf _ (by omega)
    have hjc : j <= cap := by omega
    have hjci : (j : Int) <= (cap : Int) := by omega
    have hji : (j : Int) <= (len : Int) := by omega
    have hk1 : ¬ ((2 : Int) = 1) := by decide
    clear hcc hd hcd hc2 hc2j hpl htk hr1j hth
    go_wp2_with fail
    refine HCA.out.mono ?_
    rintro e w3 ⟨rfl, rfl⟩
    go_wp2_with fail
    refine HCB.out.mono ?_
    rintro e w3 ⟨rfl, rfl⟩
    go_wp2_with fail
    refine HAT.out.mono ?_
    rintro e w3 ⟨v3, rfl, ho3, hb3⟩
    obtain ⟨a3, k3, rfl⟩ := ho3.shape
    have HB3 := hid (zAa HB2.out hb3)
    have hy3 := (hb3.block Y (Qa.1 HY2.out).1).trans HY2.out
    have HY3 := hid hy3
    have HSZ := hid (show Y < w2.heap.size from (Qa.1 HY2.out).1)
    clear cy0 cyf0 cy1 cyf1 cy2 cyf2 cy3 cyf3 hcn
    have cy0 : w3.cell? ⟨Y, 0, none⟩ = some (.bool false) := by rw [Qm w3 Y 0 _ _ _ hy3]; rfl
    have cyf0 : w3.frozen? ⟨Y, 0, none⟩ = false := Qn w3 Y 0 _ _ hy3
    have cy1 : w3.cell? ⟨Y, 1, none⟩ = some (.int .i64 0) := by rw [Qm w3 Y 1 _ _ _ hy3]; rfl
    have cyf1 : w3.frozen? ⟨Y, 1, none⟩ = false := Qn w3 Y 1 _ _ hy3
    have cy2 : w3.cell? ⟨Y, 2, none⟩ = some (.int .i64 0) := by rw [Qm w3 Y 2 _ _ _ hy3]; rfl
    have cyf2 : w3.frozen? ⟨Y, 2, none⟩ = false := Qn w3 Y 2 _ _ hy3
    have cy3 : w3.cell? ⟨Y, 3, none⟩ = some (.slice none 0 0) := by rw [Qm w3 Y 3 _ _ _ hy3]; rfl
    have cyf3 : w3.frozen? ⟨Y, 3, none⟩ = false := Qn w3 Y 3 _ _ hy3
    have HO3 := hid ho3
    clear ho3
    clear hb3 hy3
    have HBF := hid fun v3 => zBk (i := 0) (j := 1) (k := 2) (l := 3) HB3.out (show w.heap.size <= Y by rw [HYY.out]; exact Qb _) (.bool false) (.int .i64 2) (.int .i64 0) v3
    go_wp2_with fail
    refine bodyPost_ret (results_cell_tmp rfl _ _ Y _ _ (0, 0) _ _ rfl rfl (zBj HY3.out) Tryz.underlying31 rfl zBt) rfl ?_
    refine ⟨?_, HBF.out _⟩
    rw [HVA.out]
    have hk := HCVV.out.k
    have hnn := HCVV.out.norm.2.1 (by rw [hk])
    simp only at hk hnn
    subst hnn
    rw [hk]
    refine ⟨_, rfl, ?_⟩
    have h := zAe HO3.out (zIx Y w3 (.bool false) (.int .i64 2) (.int .i64 0) (.slice a3 vb.length k3)) (fun b hb e => by have := zAg HO3.out b hb; have := HSZ.out; omega)
    exact Joins.ownsRow_le h HB2.out.size
   ·have HBF := hid (zBk (i := 0) (j := 1) (k := 2) (l := 3) HB2.out (show w.heap.size <= Y by rw [HYY.out]; exact Qb _) (.bool true) (.int .i64 2) (.int .i64 0) (.slice none 0 0))
    go_wp2_with fail
    refine bodyPost_ret (results_cell_tmp rfl _ _ Y _ _ (0, 0) _ _ rfl rfl (zBj HY2.out) Tryz.underlying31 rfl zBt) rfl ?_
    refine ⟨?_, HBF.out⟩
    rw [HVA.out]
    have hk := HCVV.out.k
    have hnu := HCVV.out.norm.1 rfl
    simp only at hk hnu
    obtain ⟨rfl, rfl⟩ := hnu
    rw [hk]
    exact ⟨_, rfl, zA6 _ _⟩
theorem zOk (k : Int) (hk : k = 1 ∨ k = 2) (vs : List Vc) (hcv : ∀ v ∈ vs, ColV k v) (hl : vs.length <= 100) (bv : Value) (i : Int) (w : World) (hr : Rd w bv ((scolT k vs).map u8v)) :
  Calls Tryz.prog 55 #[.int .i64 k, bv, .int .i64 i] w fun e w' => RetVal w.heap.size (valAt vs i) e w' ∧ Below w.heap.size w w' := by
 rcases hk with rfl | rfl
 ·exact zRm vs hcv hl bv i w hr
 ·exact zRn vs hcv hl bv i w hr
end Go.Proofs.YtmpgnjhgegbdkaaGreat
