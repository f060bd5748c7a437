import Derived.Test.YtmpgnjhgegbdkaaGreatSgh
set_option linter.unusedVariables false
set_option linter.unusedSimpArgs false
set_option maxRecDepth 100000
set_option maxHeartbeats 8000000
open Go.Lib (hid)
namespace Go.Proofs.YtmpgnjhgegbdkaaGreat
open Go.RowKit
open _root_.Array renaming getElem?_eq_some_iff -> Qa
open Go.World renaming block_lt_of_cell? -> Qb
open Go renaming cell_of_row -> Qc, frozen_of_row -> Qd
def segV (cols : List Co) (rows : List (List Vc)) (c i : Int) : Option Vc := if 0 <= c ∧ c < (cols.length : Int) then valAt (colVs rows c.toNat) i else none
theorem RetVal.shape {B : Nat} {v : Vc} {e : Ending} {w' : World} (h : RetVal B (some v) e w') : ∃ (a : Option Addr) (k : Nat), e = .returned (.tuple #[.agg #[.bool v.u, .int .i64 v.k, .int .i64 v.n, .slice a v.b.length k], .bool true]) ∧ OwnB B w' (.slice a v.b.length k) v.b := by
 obtain ⟨s, rfl, ho⟩ := h
 obtain ⟨a, k, rfl⟩ := ho.shape
 exact ⟨a, k, rfl, ho⟩
theorem zOl {B : Nat} {o : Option Vc} {e : Ending} {w' : World} (h : RetVal B o e w') : ∃ (u : Bool) (k n : Int) (b : List Nat) (a : Option Addr) (cap : Nat) (ok : Bool), e = .returned (.tuple #[.agg #[.bool u, .int .i64 k, .int .i64 n, .slice a b.length cap], .bool ok]) ∧ OwnB B w' (.slice a b.length cap) b ∧ ((ok = true ∧ o = some ⟨u, k, n, b⟩) ∨ (ok = false ∧ o = none ∧ u = false ∧ k = 0 ∧ n = 0 ∧ b = [] ∧ a = none ∧ cap = 0)) := by
 cases o with
 | none => exact ⟨false, 0, 0, [], none, 0, false, h, zA6 _ _, .inr ⟨rfl, rfl, rfl, rfl, rfl, rfl, rfl, rfl⟩⟩
 | some v =>
  obtain ⟨a, k, rfl, ho⟩ := h.shape
  exact ⟨v.u, v.k, v.n, v.b, a, k, true, rfl, ho, .inl ⟨rfl, rfl⟩⟩
theorem zOm {K0 g : Nat} {cols : List Co} {rows : List (List Vc)} (hrc : RowsC cols rows) (hne : 0 < cols.length) (hm6 : cols.length <= 6) (c i : Int) (w : World) (h : SegAt K0 w g cols rows) :
  Calls Tryz.prog 24 #[.pointer (some ⟨g, 0, none⟩), .int .i64 c, .int .i64 i] w fun e w' => RetVal w.heap.size (segV cols rows c i) e w' ∧ Below w.heap.size w w' := by
 obtain ⟨kb, ko, kc, tb, tf, tc, zv, us, hx, htc, hcol⟩ := h.open hne
 have HRC := hid hrc
 have HCOL := hid hcol
 obtain ⟨m, hm⟩ : ∃ m, m = cols.length := ⟨_, rfl⟩
 rw [<- hm] at hx hne hm6
 have HM := hid hm
 have HX := hid hx
 clear hx htc hcol hm h hrc
 go_enter Tryz.func24, Tryz.ntmps24
 go_upto_region 1 with (fail)
 obtain ⟨W1, hW1⟩ : ∃ W1 : World, W1 = w.alloc (.cells #[.bool false, .int .i64 0, .int .i64 0, .slice none 0 0] 31) := ⟨_, rfl⟩
 obtain ⟨Y, hY⟩ : ∃ Y, Y = w.heap.size := ⟨_, rfl⟩
 rw [<- hW1, <- hY]
 have HB1 := hid (show Below w.heap.size w W1 by rw [hW1]; exact zAd w _)
 have hy1 : W1.heap[Y]? = some (.cells #[.bool false, .int .i64 0, .int .i64 0, .slice none 0 0] 31 (0, 0)) := by rw [hW1, hY]; exact heap_alloc_new w _
 have HY1 := hid hy1
 have HYY := hid hY
 have hx1 := (HB1.out.block g (Qa.1 HX.out).1).trans HX.out
 have c3 : W1.cell? ⟨g, 3, none⟩ = some (.slice (some ⟨tb, tf, none⟩) m tc) := by rw [Qc W1 g 3 _ _ _ hx1]; rfl
 have c2 : W1.cell? ⟨g, 2, none⟩ = some (.slice (some ⟨kb, ko, none⟩) m kc) := by rw [Qc W1 g 2 _ _ _ hx1]; rfl
 have cy0 : W1.cell? ⟨Y, 0, none⟩ = some (.bool false) := (by rw [Qc W1 Y 0 _ _ _ hy1]; rfl)
 have cyf0 : W1.frozen? ⟨Y, 0, none⟩ = false := Qd W1 Y 0 _ _ hy1
 have cy1 : W1.cell? ⟨Y, 1, none⟩ = some (.int .i64 0) := (by rw [Qc W1 Y 1 _ _ _ hy1]; rfl)
 have cyf1 : W1.frozen? ⟨Y, 1, none⟩ = false := Qd W1 Y 1 _ _ hy1
 have cy2 : W1.cell? ⟨Y, 2, none⟩ = some (.int .i64 0) := (by rw [Qc W1 Y 2 _ _ _ hy1]; rfl)
 have cyf2 : W1.frozen? ⟨Y, 2, none⟩ = false := Qd W1 Y 2 _ _ hy1
 have cy3 : W1.cell? ⟨Y, 3, none⟩ = some (.slice none 0 0) := (by rw [Qc W1 Y 3 _ _ _ hy1]; rfl)
 have cyf3 : W1.frozen? ⟨Y, 3, none⟩ = false := Qd W1 Y 3 _ _ hy1
 clear hW1 hY hx1 hy1
 by_cases hin : 0 <= c ∧ c < (m : Int)
 case neg =>
  have hq : (decide (c < 0) = true ∧ c < 0) ∨ (decide (c < 0) = false ∧ ¬ c < 0 ∧ decide ((m : Int) <= c) = true ∧ (m : Int) <= c) := by
   by_cases h0 : c < 0
   ·exact .inl ⟨by rw [decide_eq_true_eq]; exact h0, h0⟩
   ·exact .inr ⟨by rw [decide_eq_false_iff_not]; exact h0, h0, by rw [decide_eq_true_eq]; omega, by omega⟩
  have HF := hid (show segV cols rows c i = none from by unfold segV; rw [<- HM.out, if_neg hin])
  have HBF := hid (zBk (i := 0) (j := 1) (k := 2) (l := 3) HB1.out (show w.heap.size <= Y by rw [HYY.out]; exact Nat.le_refl _) (.bool false) (.int .i64 0) (.int .i64 0) (.slice none 0 0))
  clear hin
  rcases hq with ⟨hq0, hq1⟩ | ⟨hq0, hq1, hq2, hq3⟩
  all_goals
   go_wp2_with fail
   refine bodyPost_ret (results_cell_tmp rfl _ _ Y _ _ (0, 0) _ _ rfl rfl (zBj HY1.out) Tryz.underlying31 rfl zBt) rfl ?_
   exact ⟨by rw [HF.out]; rfl, HBF.out⟩
 case pos =>
  obtain ⟨hi0, hi1⟩ := hin
  obtain ⟨j, rfl⟩ : ∃ j : Nat, c = (j : Int) := ⟨c.toNat, by omega⟩
  have hjl : j < m := by omega
  have hq0 : decide ((j : Int) < 0) = false := by rw [decide_eq_false_iff_not]; omega
  have hq1 : ¬ ((j : Int) < 0) := by omega
  have hq2 : decide ((m : Int) <= (j : Int)) = false := by rw [decide_eq_false_iff_not]; omega
  have hq3 : ¬ ((m : Int) <= (j : Int)) := by omega
  have hq4 : ¬ (m <= j) := by omega
  obtain ⟨co, hco⟩ : ∃ co, cols[j]? = some co := ⟨_, List.getElem?_eq_getElem (by rw [<- HM.out]; exact hjl)⟩
  obtain ⟨ck, u, _, ct, hrbt⟩ := HCOL.out j co hco
  have ck2 := (HB1.out.cell (Qb _ _ ck)).trans ck
  have ct2 := (HB1.out.cell (Qb _ _ ct)).trans ct
  have hrd := hrbt.rd (Above.refl _ _)
  have hkk := HRC.out.ks co (List.mem_of_getElem? hco)
  have hcv := HRC.out.col hco
  have HV := hid fun w' (h : Below w.heap.size w w') => zOk co.k hkk _ hcv (by rw [zD8]; have := HRC.out.le; omega) u i w' (hrd.kept h)
  have HF := hid (show segV cols rows (j : Int) i = valAt (colVs rows j) i from by unfold segV; rw [if_pos ⟨by omega, by rw [<- HM.out]; omega⟩, Int.toNat_natCast])
  obtain ⟨ua, uc, rfl⟩ := zDb hrbt
  obtain ⟨tn, htn⟩ : ∃ tn, tn = (scolT co.k (colVs rows j)).length := ⟨_, rfl⟩
  rw [<- htn] at ct2 HV
  obtain ⟨cn, cck, cu⟩ := co
  simp only at ck2 HV
  clear hco ck ct hrbt hrd hkk hcv htn
  go_upto_region 3 with (fail)
  go_region_law (go_simp; go_at_call 55; refine (HV.out _ ?_).mono ?_; (exact HB1.out.trans (zAm _ _)); rintro e w3 ⟨hret, hb3⟩; obtain ⟨vu, vk, vn, vb, va, vc, vok, rfl, ho3, hcase⟩ := zOl hret; have HO3 := hid ho3; have HCASE := hid hcase; have HB3 := hid (show Below W1.heap.size W1 w3 from (zAm _ _).trans hb3); have hy3 := (HB3.out.block Y (Qa.1 HY1.out).1).trans HY1.out; have HY3 := hid hy3; have cy0 : w3.cell? ⟨Y, 0, none⟩ = some (.bool false) := (by rw [Qc w3 Y 0 _ _ _ hy3]; rfl); have cyf0 : w3.frozen? ⟨Y, 0, none⟩ = false := Qd w3 Y 0 _ _ hy3; have cy1 : w3.cell? ⟨Y, 1, none⟩ = some (.int .i64 0) := (by rw [Qc w3 Y 1 _ _ _ hy3]; rfl); have cyf1 : w3.frozen? ⟨Y, 1, none⟩ = false := Qd w3 Y 1 _ _ hy3; have cy2 : w3.cell? ⟨Y, 2, none⟩ = some (.int .i64 0) := (by rw [Qc w3 Y 2 _ _ _ hy3]; rfl); have cyf2 : w3.frozen? ⟨Y, 2, none⟩ = false := Qd w3 Y 2 _ _ hy3; have cy3 : w3.cell? ⟨Y, 3, none⟩ = some (.slice none 0 0) := (by rw [Qc w3 Y 3 _ _ _ hy3]; rfl); have cyf3 : w3.frozen? ⟨Y, 3, none⟩ = false := Qd w3 Y 3 _ _ hy3;  clear ho3 hcase hret hb3 hy3)
  all_goals
   go_wp2_with fail
   refine bodyPost_ret (results_cell_tmp rfl _ _ Y _ _ (0, 0) _ _ rfl rfl (zBj HY3.out) Tryz.underlying31 rfl zBt) rfl ?_
   have hyl : Y < W1.heap.size := (Qa.1 HY1.out).1
   have hy9 := HYY.out
   refine ⟨?_, zBk (i := 0) (j := 1) (k := 2) (l := 3) (zAa HB1.out HB3.out) (by omega) _ _ _ _⟩
   rw [HF.out]
   rcases HCASE.out with ⟨rfl, hs⟩ | ⟨rfl, hs, rfl, rfl, rfl, rfl, rfl, rfl⟩
   ·rw [hs]
    have h := zAe HO3.out (zIx Y w3 (.bool vu) (.int .i64 vk) (.int .i64 vn) (.slice va vb.length vc)) (fun b hb e => by have := zAg HO3.out b hb; have hz : W1.drew.heap.size = W1.heap.size := rfl; omega)
    have hz : w.heap.size <= W1.drew.heap.size := HB1.out.size
    exact ⟨_, rfl, Joins.ownsRow_le h hz⟩
   ·rw [hs]
    rfl
end Go.Proofs.YtmpgnjhgegbdkaaGreat
