import Derived.Test.YtmpgnjhgegbdkaaGreatSgh
set_option linter.unusedVariables false
set_option linter.unusedSimpArgs false
set_option maxRecDepth 100000
set_option maxHeartbeats 8000000
open Go.Lib (hid)
namespace Go.Proofs.YtmpgnjhgegbdkaaGreat
open Go.RowKit
open _root_.Nat renaming le_refl -> Qa
open _root_.List renaming getElem?_eq_getElem -> Qb, mem_of_getElem? -> Qc, map_append -> Qf, getElem?_eq_none -> Qh, take_of_length_le -> Qj
open _root_.Int renaming toNat_natCast -> Qd
open _root_.Array renaming getElem?_eq_some_iff -> Qe
open Go.World renaming block_lt_of_cell? -> Qg, setCell -> Qi
open Go renaming cell_of_row -> Qk, frozen_of_row -> Ql
def segV (cols : List Co) (rows : List (List Vc)) (c i : Int) : Option Vc := if 0 <= c ∧ c < (cols.length : Int) then valAt (colVs rows c.toNat) i else none
theorem RetVal.shape {B : Nat} {v : Vc} {e : Ending} {w' : World} (h : RetVal B (some v) e w') : ∃ (a : Option Addr) (k : Nat), e = .returned (.tuple #[.agg #[.bool v.u, .int .i64 v.k, .int .i64 v.n, .slice a v.b.length k], .bool true]) ∧ OwnB B w' (.slice a v.b.length k) v.b := by
 obtain ⟨s, rfl, ho⟩ := h
 obtain ⟨a, k, rfl⟩ := ho.shape
 exact ⟨a, k, rfl, ho⟩
theorem zQ9 {B : Nat} {o : Option Vc} {e : Ending} {w' : World} (h : RetVal B o e w') : ∃ (u : Bool) (k n : Int) (b : List Nat) (a : Option Addr) (cap : Nat) (ok : Bool), e = .returned (.tuple #[.agg #[.bool u, .int .i64 k, .int .i64 n, .slice a b.length cap], .bool ok]) ∧ OwnB B w' (.slice a b.length cap) b ∧ ((ok = true ∧ o = some ⟨u, k, n, b⟩) ∨ (ok = false ∧ o = none ∧ u = false ∧ k = 0 ∧ n = 0 ∧ b = [] ∧ a = none ∧ cap = 0)) := by
 cases o with
 | none => exact ⟨false, 0, 0, [], none, 0, false, h, zA5 _ _, .inr ⟨rfl, rfl, rfl, rfl, rfl, rfl, rfl, rfl⟩⟩
 | some v =>
  obtain ⟨a, k, rfl, ho⟩ := h.shape
  exact ⟨v.u, v.k, v.n, v.b, a, k, true, rfl, ho, .inl ⟨rfl, rfl⟩⟩
theorem zLa {K0 g : Nat} {cols : List Co} {rows : List (List Vc)} (hrc : RowsC cols rows) (hne : 0 < cols.length) (hm6 : cols.length <= 6) (c i : Int) (w : World) (h : SegAt K0 w g cols rows) :
  Calls Tryz.prog 24 #[.pointer (some ⟨g, 0, none⟩), .int .i64 c, .int .i64 i] w fun e w' => RetVal w.heap.size (segV cols rows c i) e w' ∧ Below w.heap.size w w' := by
 obtain ⟨kb, ko, kc, tb, tf, tc, zv, us, hx, htc, hcol⟩ := h.open hne
 have HRC := hid hrc
 have HCOL := hid hcol
 obtain ⟨m, hm⟩ : ∃ m, m = cols.length := ⟨_, rfl⟩
 rw [<- hm] at hx hne hm6
 have HM := hid hm
 have HX := hid hx
 clear hx htc hcol hm h hrc
 go_enter Tryz.func24, Tryz.ntmps24
 go_upto_region 1 with (fail)
 obtain ⟨W1, hW1⟩ : ∃ W1 : World, W1 = w.alloc (.cells #[.bool false, .int .i64 0, .int .i64 0, .slice none 0 0] 31) := ⟨_, rfl⟩
 obtain ⟨Y, hY⟩ : ∃ Y, Y = w.heap.size := ⟨_, rfl⟩
 rw [<- hW1, <- hY]
 have HB1 := hid (show Below w.heap.size w W1 by rw [hW1]; exact zAc w _)
 have hy1 : W1.heap[Y]? = some (.cells #[.bool false, .int .i64 0, .int .i64 0, .slice none 0 0] 31 (0, 0)) := by rw [hW1, hY]; exact heap_alloc_new w _
 have HY1 := hid hy1
 have HYY := hid hY
 have hx1 := (HB1.out.block g (Qe.1 HX.out).1).trans HX.out
 have c3 : W1.cell? ⟨g, 3, none⟩ = some (.slice (some ⟨tb, tf, none⟩) m tc) := by rw [Qk W1 g 3 _ _ _ hx1]; rfl
 have c2 : W1.cell? ⟨g, 2, none⟩ = some (.slice (some ⟨kb, ko, none⟩) m kc) := by rw [Qk W1 g 2 _ _ _ hx1]; rfl
 have cy0 : W1.cell? ⟨Y, 0, none⟩ = some (.bool false) := (by rw [Qk W1 Y 0 _ _ _ hy1]; rfl)
 have cyf0 : W1.frozen? ⟨Y, 0, none⟩ = false := Ql W1 Y 0 _ _ hy1
 have cy1 : W1.cell? ⟨Y, 1, none⟩ = some (.int .i64 0) := (by rw [Qk W1 Y 1 _ _ _ hy1]; rfl)
 have cyf1 : W1.frozen? ⟨Y, 1, none⟩ = false := Ql W1 Y 1 _ _ hy1
 have cy2 : W1.cell? ⟨Y, 2, none⟩ = some (.int .i64 0) := (by rw [Qk W1 Y 2 _ _ _ hy1]; rfl)
 have cyf2 : W1.frozen? ⟨Y, 2, none⟩ = false := Ql W1 Y 2 _ _ hy1
 have cy3 : W1.cell? ⟨Y, 3, none⟩ = some (.slice none 0 0) := (by rw [Qk W1 Y 3 _ _ _ hy1]; rfl)
 have cyf3 : W1.frozen? ⟨Y, 3, none⟩ = false := Ql W1 Y 3 _ _ hy1
 clear hW1 hY hx1 hy1
 by_cases hin : 0 <= c ∧ c < (m : Int)
 case neg =>
  have hq : (decide (c < 0) = true ∧ c < 0) ∨ (decide (c < 0) = false ∧ ¬ c < 0 ∧ decide ((m : Int) <= c) = true ∧ (m : Int) <= c) := by
   by_cases h0 : c < 0
   ·exact .inl ⟨by rw [decide_eq_true_eq]; exact h0, h0⟩
   ·exact .inr ⟨by rw [decide_eq_false_iff_not]; exact h0, h0, by rw [decide_eq_true_eq]; omega, by omega⟩
  have HF := hid (show segV cols rows c i = none from by unfold segV; rw [<- HM.out, if_neg hin])
  have HBF := hid (zBj (i := 0) (j := 1) (k := 2) (l := 3) HB1.out (show w.heap.size <= Y by rw [HYY.out]; exact Qa _) (.bool false) (.int .i64 0) (.int .i64 0) (.slice none 0 0))
  clear hin
  rcases hq with ⟨hq0, hq1⟩ | ⟨hq0, hq1, hq2, hq3⟩
  all_goals
   go_wp2_with fail
   refine bodyPost_ret (results_cell_tmp rfl _ _ Y _ _ (0, 0) _ _ rfl rfl (zBr HY1.out) Tryz.underlying31 rfl zB6) rfl ?_
   exact ⟨by rw [HF.out]; rfl, HBF.out⟩
 case pos =>
  obtain ⟨hi0, hi1⟩ := hin
  obtain ⟨j, rfl⟩ : ∃ j : Nat, c = (j : Int) := ⟨c.toNat, by omega⟩
  have hjl : j < m := by omega
  have hq0 : decide ((j : Int) < 0) = false := by rw [decide_eq_false_iff_not]; omega
  have hq1 : ¬ ((j : Int) < 0) := by omega
  have hq2 : decide ((m : Int) <= (j : Int)) = false := by rw [decide_eq_false_iff_not]; omega
  have hq3 : ¬ ((m : Int) <= (j : Int)) := by omega
  have hq4 : ¬ (m <= j) := by omega
  obtain ⟨co, hco⟩ : ∃ co, cols[j]? = some co := ⟨_, Qb (by rw [<- HM.out]; exact hjl)⟩
  obtain ⟨ck, u, _, ct, hrbt⟩ := HCOL.out j co hco
  have ck2 := (HB1.out.cell (Qg _ _ ck)).trans ck
  have ct2 := (HB1.out.cell (Qg _ _ ct)).trans ct
  have hrd := hrbt.rd (Above.refl _ _)
  have hkk := HRC.out.ks co (Qc hco)
  have hcv := HRC.out.col hco
  have HV := hid fun w' (h : Below w.heap.size w w') => zQ8 co.k hkk _ hcv (by rw [zA2]; have := HRC.out.le; omega) u i w' (hrd.kept h)
  have HF := hid (show segV cols rows (j : Int) i = valAt (colVs rows j) i from by unfold segV; rw [if_pos ⟨by omega, by rw [<- HM.out]; omega⟩, Qd])
  obtain ⟨ua, uc, rfl⟩ := zA7 hrbt
  obtain ⟨tn, htn⟩ : ∃ tn, tn = (scolT co.k (colVs rows j)).length := ⟨_, rfl⟩
  rw [<- htn] at ct2 HV
  obtain ⟨cn, cck, cu⟩ := co
  simp only at ck2 HV
  clear hco ck ct hrbt hrd hkk hcv htn
  go_upto_region 3 with (fail)
  go_region_law (go_simp; go_at_call 55; refine (HV.out _ ?_).mono ?_; (exact HB1.out.trans (zAe _ _)); rintro e w3 ⟨hret, hb3⟩; obtain ⟨vu, vk, vn, vb, va, vc, vok, rfl, ho3, hcase⟩ := zQ9 hret; have HO3 := hid ho3; have HCASE := hid hcase; have HB3 := hid (show Below W1.heap.size W1 w3 from (zAe _ _).trans hb3); have hy3 := (HB3.out.block Y (Qe.1 HY1.out).1).trans HY1.out; have HY3 := hid hy3; have cy0 : w3.cell? ⟨Y, 0, none⟩ = some (.bool false) := (by rw [Qk w3 Y 0 _ _ _ hy3]; rfl); have cyf0 : w3.frozen? ⟨Y, 0, none⟩ = false := Ql w3 Y 0 _ _ hy3; have cy1 : w3.cell? ⟨Y, 1, none⟩ = some (.int .i64 0) := (by rw [Qk w3 Y 1 _ _ _ hy3]; rfl); have cyf1 : w3.frozen? ⟨Y, 1, none⟩ = false := Ql w3 Y 1 _ _ hy3; have cy2 : w3.cell? ⟨Y, 2, none⟩ = some (.int .i64 0) := (by rw [Qk w3 Y 2 _ _ _ hy3]; rfl); have cyf2 : w3.frozen? ⟨Y, 2, none⟩ = false := Ql w3 Y 2 _ _ hy3; have cy3 : w3.cell? ⟨Y, 3, none⟩ = some (.slice none 0 0) := (by rw [Qk w3 Y 3 _ _ _ hy3]; rfl); have cyf3 : w3.frozen? ⟨Y, 3, none⟩ = false := Ql w3 Y 3 _ _ hy3;  clear ho3 hcase hret hb3 hy3)
  all_goals
   go_wp2_with fail
   refine bodyPost_ret (results_cell_tmp rfl _ _ Y _ _ (0, 0) _ _ rfl rfl (zBr HY3.out) Tryz.underlying31 rfl zB6) rfl ?_
   have hyl : Y < W1.heap.size := (Qe.1 HY1.out).1
   have hy9 := HYY.out
   refine ⟨?_, zBj (i := 0) (j := 1) (k := 2) (l := 3) (zAa HB1.out HB3.out) (by omega) _ _ _ _⟩
   rw [HF.out]
   rcases HCASE.out with ⟨rfl, hs⟩ | ⟨rfl, hs, rfl, rfl, rfl, rfl, rfl, rfl⟩
   ·rw [hs]
    have h := zAm HO3.out (zK9 Y w3 (.bool vu) (.int .i64 vk) (.int .i64 vn) (.slice va vb.length vc)) (fun b hb e => by have := zAh HO3.out b hb; have hz : W1.drew.heap.size = W1.heap.size := rfl; omega)
    have hz : w.heap.size <= W1.drew.heap.size := HB1.out.size
    exact ⟨_, rfl, Joins.ownsRow_le h hz⟩
   ·rw [hs]
    rfl
open Go.Lib (hid)
structure OwnW (B : Nat) (w : World) (v : Value) (l : List (Vc × Value)) : Prop where
 row : w.ownsRow B 31 4 v l.length (l.map cellsV).flatten
 els : ∀ t ∈ l, OwnB B w t.2 t.1.b ∧ ∀ x ∈ t.1.b, x < 256
 apart : Bc.Apart (v :: l.map Prod.snd)
theorem OwnW.ownV {B : Nat} {w : World} {v : Value} {l : List (Vc × Value)} (h : OwnW B w v l) : OwnV B w v l := ⟨h.row, fun t ht => ⟨zG6 (h.els t ht).1, (h.els t ht).2⟩⟩
theorem zWc {cols : List Co} {rows : List (List Vc)} (hrc : RowsC cols rows) {q j : Nat} {r : List Vc} (hq : q < cols.length) (hr : rows[j]? = some r) : ∃ v, r[q]? = some v ∧ segV cols rows (q : Int) (j : Int) = some v := by
 have hl := hrc.len r (Qc hr)
 refine ⟨r[q]'(by omega), Qb _, ?_⟩
 unfold segV valAt
 rw [if_pos ⟨by omega, by omega⟩, if_pos (by omega), Qd, Qd]
 unfold colVs
 rw [List.getElem?_map, hr, Option.map_some, List.getD_eq_getElem?_getD, Qb (by omega)]
 rfl
theorem zS8 {cols : List Co} {rows : List (List Vc)} {c i : Int} (h : ¬ (0 <= i ∧ i < (rows.length : Int))) : segV cols rows c i = none := by
 unfold segV
 split
 ·unfold valAt
  split
  ·rw [Qh]
   rw [zA2]
   omega
  ·rfl
 ·rfl
def rowAt (rows : List (List Vc)) (i : Int) : Option (List Vc) := if 0 <= i then rows[i.toNat]? else none
def RetRw (B : Nat) (o : Option (List Vc)) (e : Ending) (w' : World) : Prop := match o with
 | some r => ∃ v l, e = .returned (.tuple #[v, .bool true]) ∧ l.map Prod.fst = r ∧ OwnW B w' v l
 | none => e = .returned (.tuple #[.slice none 0 0, .bool false])
theorem zOi {K0 g : Nat} {cols : List Co} {rows : List (List Vc)} (hrc : RowsC cols rows) (hne : 0 < cols.length) (hm6 : cols.length <= 6) (i : Int) (w : World) (h : SegAt K0 w g cols rows) :
  Calls Tryz.prog 22 #[.pointer (some ⟨g, 0, none⟩), .int .i64 i] w fun e w' => RetRw w.heap.size (rowAt rows i) e w' ∧ Below w.heap.size w w' := by
 have HVAL := hid fun (c : Nat) w' (hb : Below w.heap.size w w') => zLa hrc hne hm6 (c : Int) i w' (h.kept hb)
 have HRC := hid hrc
 obtain ⟨kb, ko, kc, tb, tf, tc, zv, us, hx, htc, hcol⟩ := h.open hne
 obtain ⟨m, hm⟩ : ∃ m, m = cols.length := ⟨_, rfl⟩
 rw [<- hm] at hx hne hm6
 have HM := hid hm
 have HX := hid hx
 have c3 : w.cell? ⟨g, 3, none⟩ = some (.slice (some ⟨tb, tf, none⟩) m tc) := by rw [Qk w g 3 _ _ _ hx]; rfl
 obtain ⟨i0, hi, hz0, hz1, hz2⟩ := info_parts zJa
 have HCASE := hid (show (∃ (j : Nat) (r : List Vc), i = (j : Int) ∧ rows[j]? = some r ∧ rowAt rows i = some r) ∨ (rowAt rows i = none ∧ ∀ c, segV cols rows c i = none) from by
  by_cases hin : 0 <= i ∧ i < (rows.length : Int)
  ·obtain ⟨j, rfl⟩ : ∃ j : Nat, i = (j : Int) := ⟨i.toNat, by omega⟩
   have hr : rows[j]? = some (rows[j]'(by omega)) := Qb _
   exact .inl ⟨j, _, rfl, hr, by unfold rowAt; rw [if_pos hin.1, Qd]; exact hr⟩
  ·refine .inr ⟨?_, fun c => zS8 hin⟩
   unfold rowAt
   split
   ·rw [Qh]
    omega
   ·rfl)
 clear hx htc hcol hm h hrc
 go_enter Tryz.func22, Tryz.ntmps22
 go_upto_region 2 with (at_make; go_must (refine wpList_make_full _ rfl _ _ 27 rfl w.heap.size 31 i0 _ 4 Tryz.underlying27 hi hz0 hz1 .i64 .i64 _ _ m rfl rfl rfl rfl (by rw [hz2]; omega) (by unfold maxLen; omega) (Qa _) ?_); intro w1 hown1 hgrow1)
 obtain ⟨xs0, hown1b⟩ : ∃ xs0, w1.ownsRow w.heap.size 31 4 (.slice (some ⟨w.heap.size, 0, none⟩) m m) m xs0 := ⟨_, hown1⟩
 have HO1 := hid hown1b
 have HB1 := hid (show Below w.heap.size w w1 from ⟨hgrow1.os, hgrow1.tape, hgrow1.output, hgrow1.size, fun i hi => hgrow1.block i hi (by simp)⟩)
 obtain ⟨G, hG⟩ : ∃ G, G = w.heap.size := ⟨_, rfl⟩
 have HGG := hid hG
 rw [<- hG] at HO1 ⊢
 clear hown1 hown1b hgrow1 hG hi hz0 hz1 hz2 c3
 go_wp2_with fail
 go_loopw [18] (fun iv wr => ∃ (q : Nat) (lv : List (Vc × Value)) (xs : List Value), q <= m ∧ iv = .int .i64 (q : Int) ∧ lv.length = q ∧ (∀ r, rowAt rows i = some r -> lv.map Prod.fst = r.take q) ∧ (rowAt rows i = none -> q = 0) ∧ xs.length = m * 4 ∧ xs.take (q * 4) = (lv.map cellsV).flatten ∧
  wr.ownsRow G 31 4 (.slice (some ⟨G, 0, none⟩) m m) m xs ∧ (∀ t ∈ lv, OwnB (G + 1) wr t.2 t.1.b ∧ ∀ x ∈ t.1.b, x < 256) ∧ Bc.Apart ((Value.slice (some ⟨G, 0, none⟩) m m) :: lv.map Prod.snd) ∧ G < wr.heap.size ∧ Below w.heap.size w wr) (fun iv _ => m - (intOf iv).toNat)
 case atStart => exact ⟨0, [], xs0, Nat.zero_le _, rfl, rfl, fun r _ => rfl, fun _ => rfl, by simpa using HO1.out.1, by simp, HO1.out, fun t ht => (by cases ht), fun a b x y g ha hb _ _ => by
  have : ∀ (k : Nat) (c : Value), [Value.slice (some ⟨G, 0, none⟩) m m][k]? = some c -> k = 0 := fun k c h => by
   cases k with
   | zero => rfl
   | succ k => simp at h
  rw [this a x ha, this b y hb], (HO1.out.lt G rfl).2, HB1.out⟩
 case round =>
  obtain ⟨q, lv, xs, hq, rfl, hlv, hlf, hno, hxl, hxt, hown, hels, hap, hgs, hb⟩ := hrel
  have HLV := hid hlv
  have HLF := hid hlf
  have HXL := hid hxl
  have HXT := hid hxt
  have HO := hid hown
  have HE := hid hels
  have HA := hid hap
  have HGS := hid hgs
  have HB := hid hb
  have HNO := hid hno
  clear hlv hlf hno hxl hxt hown hels hap hgs hb
  by_cases hlt : q < m
  ·have HC := hid (HVAL.out q wr HB.out)
   rcases HCASE.out with ⟨j, r, hij, hrj, hra⟩ | ⟨hra, hsn⟩
   ·obtain ⟨v, hv, hsv⟩ := zWc HRC.out (show q < cols.length by rw [<- HM.out]; exact hlt) hrj
    rw [hij, hsv] at HC
    have HRA := hid hra
    have HV := hid hv
    have HIJ := hid hij
    have hcv := (HRC.out.at_ r (Qc hrj) q (cols[q]'(by rw [<- HM.out]; exact hlt)) v (Qb _) hv).1
    have H8 := hid hcv.fit.1
    clear hij hrj hra hv hsv hcv
    rw [<- HIJ.out] at HC
    go_wp2_with fail
    refine HC.out.mono ?_
    rintro e w4 ⟨hret, hb4⟩
    obtain ⟨va, vc, rfl, ho4⟩ := hret.shape
    have HO4 := hid ho4
    have HB4 := hid hb4
    have HOW4 := hid (show w4.ownsRow G 31 4 (.slice (some ⟨G, 0, none⟩) m m) m xs from zAm (X := fun _ => False) HO.out ⟨hb4.os, hb4.tape, hb4.output, hb4.size, fun i hi _ => hb4.block i hi⟩ (fun _ _ h => h))
    obtain ⟨vu, vk, vn, vb⟩ := v
    simp only at HO4
    have hxx : ∀ j, j < 4 -> ∃ u, w4.cell? ⟨G, q * 4 + j, none⟩ = some u := fun j hj => by
     have hlt2 : q * 4 + j < xs.length := by rw [HXL.out]; omega
     exact ⟨_, (HOW4.out.cellAt (q * 4 + j) (by omega)).trans (Qb hlt2)⟩
    obtain ⟨u0, c0⟩ := hxx 0 (by decide)
    obtain ⟨u1, c1⟩ := hxx 1 (by decide)
    obtain ⟨u2, c2⟩ := hxx 2 (by decide)
    obtain ⟨u3, c3⟩ := hxx 3 (by decide)
    have f0 := HOW4.out.frozenAt (q * 4 + 0)
    have f1 := HOW4.out.frozenAt (q * 4 + 1)
    have f2 := HOW4.out.frozenAt (q * 4 + 2)
    have f3 := HOW4.out.frozenAt (q * 4 + 3)
    simp only [Nat.add_zero] at c0 f0
    have HXTN := hid (show (vset4 xs (q * 4) (.bool vu) (.int .i64 vk) (.int .i64 vn) (.slice va vb.length vc)).take ((q + 1) * 4) = ((lv ++ [((⟨vu, vk, vn, vb⟩ : Vc), Value.slice va vb.length vc)]).map cellsV).flatten from by
     rw [show (q + 1) * 4 = q * 4 + 4 by omega, zH2 xs (q * 4) (by rw [HXL.out]; omega), HXT.out, Qf, List.flatten_append]
     simp [cellsV])
    have HST := hid (zI4 (q := q) HOW4.out (.bool vu) (.int .i64 vk) (.int .i64 vn) (.slice va vb.length vc))
    have HBS := hid (zBj (i := q * 4) (j := q * 4 + 1) (k := q * 4 + 2) (l := q * 4 + 3) (zAa HB.out hb4) (show w.heap.size <= G by rw [HGG.out]; exact Qa _) (.bool vu) (.int .i64 vk) (.int .i64 vn) (.slice va vb.length vc))
    have hgw4 : G < w4.heap.size := Nat.lt_of_lt_of_le HGS.out hb4.size
    clear hxx hret ho4 hb4
    go_wp2_with fail
    go_roundw
    case rel =>
     have hgs := HGS.out
     have hag : ∀ o, Agree (fun b => b = G) w4 (((((w4.setCell ⟨G, q * 4, none⟩ (.bool vu)).setCell ⟨G, q * 4 + 1, none⟩ (.int .i64 vk)).setCell ⟨G, q * 4 + 2, none⟩ (.int .i64 vn)).setCell ⟨G, q * 4 + 3, none⟩ (.slice va vb.length vc)).alloc o) := fun o =>
      (((((Agree.refl (fun b => b = G) w4).set ⟨G, q * 4, none⟩ _ (.inl rfl)).set ⟨G, q * 4 + 1, none⟩ _ (.inl rfl)).set ⟨G, q * 4 + 2, none⟩ _ (.inl rfl)).set ⟨G, q * 4 + 3, none⟩ _ (.inl rfl)).alloc o
     refine ⟨q + 1, lv ++ [(⟨vu, vk, vn, vb⟩, .slice va vb.length vc)], _, by omega, by go_num, by rw [List.length_append, HLV.out]; rfl, fun r' hr' => ?_, fun h => (by rw [HRA.out] at h; cases h), (zGt ..).trans HXL.out, HXTN.out, HST.out.alloc _, fun t ht => ?_, ?_, ?_, ?_⟩
     ·rw [HRA.out] at hr'
      cases hr'
      rw [Qf, HLF.out r HRA.out, List.take_add_one, HV.out]
      rfl
     ·rcases List.mem_append.1 ht with h | h
      ·have h1 := HE.out t h
       exact ⟨zAm (zAm (X := fun _ => False) h1.1 ⟨HB4.out.os, HB4.out.tape, HB4.out.output, HB4.out.size, fun i hi _ => HB4.out.block i hi⟩ (fun _ _ h => h)) (hag _) (fun b hb e => by have := zAh h1.1 b hb; omega), h1.2⟩
      ·rw [List.mem_singleton.1 h]
       exact ⟨Joins.ownsRow_le (zAm HO4.out (hag _) (fun b hb e => by have := zAh HO4.out b hb; omega)) hgs, H8.out⟩
     ·rw [Qf]
      have h1 := HA.out.snoc (u := Value.slice va vb.length vc) fun g hg a ha => by
       have h2 := zAh HO4.out g hg
       intro e
       rcases List.mem_cons.1 ha with rfl | ha
       ·have := (HO.out.lt g e).2; omega
       ·obtain ⟨t, ht, rfl⟩ := List.mem_map.1 ha
        have := ((HE.out t ht).1.lt g e).2
        omega
      exact h1
     ·have := (hag (.cells #[] 0)).size; have := HB4.out.size; simp [Qi]; omega
     ·exact HBS.out.alloc (by have := HB.out.size; have := HB4.out.size; simp [Qi]; omega) _
    case measure => simp [intOf]; omega
   ·rw [hsn] at HC
    have HRA := hid hra
    clear hra hsn
    go_wp2_with fail
    refine HC.out.mono ?_
    rintro e w4 ⟨hret, hb4⟩
    have HB4 := hid (zAa HB.out hb4)
    have hret2 : e = .returned (.tuple #[.agg #[.bool false, .int .i64 0, .int .i64 0, .slice none 0 0], .bool false]) := hret
    subst hret2
    clear hret hb4
    go_wp2_with fail
    go_ret2
    exact ⟨by rw [HRA.out]; rfl, zAf HB4.out _⟩
  ·have hqm : q = m := by omega
   have HF := hid (show RetRw w.heap.size (rowAt rows i) (.returned (.tuple #[.slice (some ⟨G, 0, none⟩) m m, .bool true])) wr from by
    rcases HCASE.out with ⟨j, r, hij, hrj, hra⟩ | ⟨hra, hsn⟩
    ·rw [hra]
     have h := HXT.out
     rw [hqm, Qj (by rw [HXL.out]; exact Qa _)] at h
     have h2 := HO.out
     rw [h] at h2
     have h3 := HLV.out
     rw [hqm] at h3
     refine ⟨_, lv, rfl, ?_, ⟨?_, fun t ht => ⟨?_, (HE.out t ht).2⟩, HA.out⟩⟩
     ·rw [HLF.out r hra, hqm, Qj (by rw [HRC.out.len r (Qc hrj), <- HM.out]; exact Qa _)]
     ·rw [h3]
      exact Joins.ownsRow_le h2 (by rw [HGG.out]; exact Qa _)
     ·exact Joins.ownsRow_le (HE.out t ht).1 (by rw [HGG.out]; omega)
    ·have := HNO.out hra
     omega)
   clear hqm
   go_wp2_with fail
   go_ret2
   exact ⟨HF.out, HB.out⟩
end Go.Proofs.YtmpgnjhgegbdkaaGreat
