import Derived.Test.YtnfjdoeemnhkbaaAgl
set_option linter.unusedVariables false
set_option linter.unusedSimpArgs false
set_option maxRecDepth 100000
set_option maxHeartbeats 8000000
open Go.Lib (hid)
namespace Go.Proofs.Ytnfjdoeemnhkbaa
open Go.RowKit Sy
open _root_.Array renaming getElem?_eq_some_iff -> Qa
open _root_.List renaming length_map -> Qb, mem_of_getElem? -> Qd
open Go.RowKit.Below renaming refl -> Qc
open Go.IntWalk renaming i64_in -> Qe
open Go renaming cell_of_row -> Qf, frozen_of_row -> Qg, heap_setCell_other -> Qh, heap_alloc_new -> Qi
theorem zN1 (a b : Vc) : cmpT a b = -1 ∨ cmpT a b = 0 ∨ cmpT a b = 1 := by
 unfold cmpT
 split
 ·split <;> simp
 ·split
  ·simp
  ·split
   ·exact (zC3 zHw).tri _ _
   ·exact zKj.tri _ _
theorem zBh {w : World} {X Y : Nat} {a b c d : Value} {o : Obj} (h : w.heap[Y]? = some o) (hn : Y ≠ X) : ((((w.setCell ⟨X, 0, none⟩ a).setCell ⟨X, 1, none⟩ b).setCell ⟨X, 2, none⟩ c).setCell ⟨X, 3, none⟩ d).heap[Y]? = some o := by
 rw [Qh _ _ Y _ (fun h => hn (by simpa using h)), Qh _ _ Y _ (fun h => hn (by simpa using h)), Qh _ _ Y _ (fun h => hn (by simpa using h)), Qh _ _ Y _ (fun h => hn (by simpa using h))]
 exact h
theorem zGl (E : List El) (hE : E.length <= 1000000) (v : Value) (c s : Int) (hs : s = 1 ∨ s = -1) (w0 w : World) (hb0 : Below w0.heap.size w0 w) (hv : Rd w v (E.map Prod.fst)) (hr : ∀ x ∈ E, RdP w0 x.1 x.2 ∧ x.2.length <= 1000000) (hbl : ∀ x ∈ E, ∀ t ∈ x.2, t.1.b.length <= 1000000) :
  Calls Try.prog 82 #[v, .int .i64 c, .int .i64 s] w fun e w' => ∃ p : Vc × Value, e = .returned (aggV p) ∧ p.1 = extT (E.map El.row) c s ∧ (∀ w'', Below w0.heap.size w0 w'' -> OkV w'' p) ∧ p.1.b.length <= 1000000 ∧ Below w.heap.size w w' := by
 obtain ⟨ao, cap, hvs⟩ : ∃ ao cap, v = .slice ao (E.map Prod.fst).length cap := by obtain ⟨ao, cap, h, _⟩ := hv; exact ⟨ao, cap, h⟩
 subst hvs
 obtain ⟨n, hN⟩ : ∃ n, n = E.length := ⟨_, rfl⟩
 rw [Qb, <- hN] at hv ⊢
 rw [<- hN] at hE
 have HN := hid hN
 have HV := hid hv
 have HR := hid hr
 have HI := hid hbl
 have HWB := hid (fun w'' (h : Below w.heap.size w w'') => zAa hb0 h)
 clear hN hv hr hbl hb0
 go_enter Try.func82, Try.ntmps82
 go_upto_region 2 with (fail)
 obtain ⟨W, hW⟩ : ∃ W : World, W = (w.alloc (.cells #[.bool false, .int .i64 0, .int .i64 0, .slice none 0 0] 36)).alloc (.cells #[.bool true, .int .i64 0, .int .i64 0, .slice none 0 0] 36) := ⟨_, rfl⟩
 obtain ⟨Y, hY⟩ : ∃ Y, Y = w.heap.size := ⟨_, rfl⟩
 obtain ⟨X, hX⟩ : ∃ X, X = w.heap.size + 1 := ⟨_, rfl⟩
 have HY := hid (show W.heap[Y]? = some (.cells #[.bool false, .int .i64 0, .int .i64 0, .slice none 0 0] 36 (0, 0)) by rw [hW, hY]; exact (heap_alloc_old _ _ (by simp)).trans (Qi w _))
 have HX := hid (show W.heap[X]? = some (.cells #[.bool true, .int .i64 0, .int .i64 0, .slice none 0 0] 36 (0, 0)) by rw [hW, hX]; exact zDd w _ _)
 have HBW := hid (show Below w.heap.size w W by rw [hW]; exact zAw w _ _)
 have HXY := hid (show w.heap.size <= Y ∧ w.heap.size <= X ∧ Y ≠ X from ⟨by omega, by omega, by omega⟩)
 rw [<- hW, <- hX, <- hY]
 clear hW hX hY
 go_wp2_with fail
 go_loopw [14] (fun i wr => ∃ (q : Nat) (p : Vc × Value), q <= n ∧ i = .int .i64 (q : Int) ∧ p.1 = extT ((E.take q).map El.row) c s ∧ (∀ w'', Below w0.heap.size w0 w'' -> OkV w'' p) ∧ p.1.b.length <= 1000000 ∧ wr.heap[X]? = some (.cells #[.bool p.1.u, .int .i64 p.1.k, .int .i64 p.1.n, p.2] 36 (0, 0)) ∧ wr.heap[Y]? = some (.cells #[.bool false, .int .i64 0, .int .i64 0, .slice none 0 0] 36 (0, 0)) ∧ Below w.heap.size w wr) (fun i _ => n - (intOf i).toNat)
 case atStart => exact ⟨0, (⟨true, 0, 0, []⟩, .slice none 0 0), Nat.zero_le _, rfl, rfl, fun w'' _ => ⟨Rd.nil w'', fun x h => by cases h⟩, by simp, HX.out, HY.out, HBW.out⟩
 case round =>
  obtain ⟨q, p, hq, rfl, hp, hok, hpb, hx, hy, hb⟩ := hrel
  obtain ⟨pa, pc, hps⟩ := zAo (hok w0 (Qc _ _)).1
  obtain ⟨⟨pu, pk, pn, pb⟩, pv⟩ := p
  simp only at hp hpb hx hps
  subst hps
  obtain ⟨pm, hpm⟩ : ∃ pm, pm = pb.length := ⟨_, rfl⟩
  rw [<- hpm] at hx hok
  have HPM := hid hpm
  have HP := hid hp
  have HOK := hid hok
  have HPB := hid hpb
  have HB := hid hb
  have HXr := hid hx
  have HYr := hid hy
  clear hp hok hpb hx hy hb hpm
  by_cases hlt : q < n
  ·obtain ⟨t, ht⟩ : ∃ t, E[q]? = some t := ⟨_, List.getElem?_eq_getElem (by rw [<- HN.out]; exact hlt)⟩
   have HTK := hid (show extT ((E.take (q + 1)).map El.row) c s = extStep s (extT ((E.take q).map El.row) c s) (atP t.2 c).1 by rw [List.take_add_one, ht, List.map_append, zBo]; exact zMl _ _ _ _)
   obtain ⟨hok, hl6⟩ := HR.out t (Qd ht)
   have hbt := HI.out t (Qd ht)
   have HCALL := hid (zEv t.2 t.1 c wr (hok.kept (HWB.out _ HB.out)) hl6)
   obtain ⟨b, off, rfl, hcell⟩ := (zA4 (HV.out.kept HB.out)).2 (by omega)
   obtain ⟨sa, sc, hes⟩ := zAl hok.1
   have k0 : wr.cell? ⟨b, off + q, none⟩ = some t.1 := hcell q t.1 hlt (by rw [List.getElem?_map, ht]; rfl)
   rw [hes, Qb] at k0 HCALL
   obtain ⟨tn, htn⟩ : ∃ tn, tn = t.2.length := ⟨_, rfl⟩
   rw [<- htn] at k0 HCALL
   obtain ⟨y, hyd⟩ : ∃ y, y = atP t.2 c := ⟨_, rfl⟩
   rw [<- hyd] at HCALL HTK
   have HYO := hid (show ∀ w'', Below w0.heap.size w0 w'' -> OkV w'' y from fun w'' h => by rw [hyd]; exact (zCw hok c).kept h)
   have HYB := hid (show y.1.b.length <= 1000000 by rw [hyd]; exact (zC5 t.2 c).elim (fun h => by rw [h]; simp [nilQ]) (fun h => hbt _ h))
   obtain ⟨ya, yc, hys⟩ := zAo (HYO.out w0 (Qc _ _)).1
   obtain ⟨⟨yu, yk, yn, yb⟩, yv⟩ := y
   simp only at hys HTK HYB
   subst hys
   obtain ⟨ym, hym⟩ : ∃ ym, ym = yb.length := ⟨_, rfl⟩
   unfold aggV at HCALL
   simp only at HCALL
   rw [<- hym] at HCALL HYO
   have HYM := hid hym
   clear hym
   have hlti : (q : Int) < (n : Int) := by omega
   have hq0 : (0 : Int) <= (q : Int) := by omega
   rw [<- HP.out] at HTK
   clear hok hcell ht hes hl6 htn hyd hbt
   go_wp2_with fail
   refine HCALL.out.mono ?_
   rintro e w2 ⟨rfl, hb2⟩
   go_upto_region 6 with (fail)
   obtain ⟨W3, hW3⟩ : ∃ W3 : World, W3 = w2.alloc (.cells #[.bool yu, .int .i64 yk, .int .i64 yn, .slice ya ym yc] 36) := ⟨_, rfl⟩
   obtain ⟨V, hV⟩ : ∃ V, V = w2.heap.size := ⟨_, rfl⟩
   have hVX : w2.heap[V]? = none := by rw [hV]; simp
   rw [<- hW3, <- hV]
   have hb23 : Below wr.heap.size wr W3 := by rw [hW3]; exact zAe hb2 _
   have HB3 := hid (zAa HB.out hb23)
   have HVr := hid (show W3.heap[V]? = some (.cells #[.bool yu, .int .i64 yk, .int .i64 yn, .slice ya ym yc] 36 (0, 0)) by rw [hW3, hV]; exact Qi w2 _)
   have HX3 := hid ((hb23.block X (Qa.1 HXr.out).1).trans HXr.out)
   have HY3 := hid ((hb23.block Y (Qa.1 HYr.out).1).trans HYr.out)
   clear hW3 hV hb23 hb2 k0 hVX
   have v0 : W3.cell? ⟨V, 0, none⟩ = some (.bool yu) := by rw [Qf W3 V 0 _ _ _ HVr.out]; rfl
   have v1 : W3.cell? ⟨V, 1, none⟩ = some (.int .i64 yk) := by rw [Qf W3 V 1 _ _ _ HVr.out]; rfl
   have v2 : W3.cell? ⟨V, 2, none⟩ = some (.int .i64 yn) := by rw [Qf W3 V 2 _ _ _ HVr.out]; rfl
   have v3 : W3.cell? ⟨V, 3, none⟩ = some (.slice ya ym yc) := by rw [Qf W3 V 3 _ _ _ HVr.out]; rfl
   have x0 : W3.cell? ⟨X, 0, none⟩ = some (.bool pu) := by rw [Qf W3 X 0 _ _ _ HX3.out]; rfl
   have x1 : W3.cell? ⟨X, 1, none⟩ = some (.int .i64 pk) := by rw [Qf W3 X 1 _ _ _ HX3.out]; rfl
   have x2 : W3.cell? ⟨X, 2, none⟩ = some (.int .i64 pn) := by rw [Qf W3 X 2 _ _ _ HX3.out]; rfl
   have x3 : W3.cell? ⟨X, 3, none⟩ = some (.slice pa pm pc) := by rw [Qf W3 X 3 _ _ _ HX3.out]; rfl
   have f0 : W3.frozen? ⟨X, 0, none⟩ = false := Qg W3 X 0 _ _ HX3.out
   have f1 : W3.frozen? ⟨X, 1, none⟩ = false := Qg W3 X 1 _ _ HX3.out
   have f2 : W3.frozen? ⟨X, 2, none⟩ = false := Qg W3 X 2 _ _ HX3.out
   have f3 : W3.frozen? ⟨X, 3, none⟩ = false := Qg W3 X 3 _ _ HX3.out
   have hq1 : IntKind.i64.wrap ((q : Int) + 1) = (q : Int) + 1 := Qe _ (by omega)
   cases yu with
   | true =>
    cases pu with
    | true =>
     go_wp2_with fail
     go_roundw
     case rel =>
      refine ⟨q + 1, (⟨true, yk, pn, pb⟩, .slice pa pm pc), by omega, by go_num, by rw [HTK.out]; rfl, HOK.out, HPB.out, ?_, ?_, HB3.out.setCell (p := ⟨X, 1, none⟩) HXY.out.2.1 _⟩
      ·exact heap_setCell_same W3 X 1 _ _ _ HX3.out
      ·exact (Qh W3 _ Y _ (fun h => HXY.out.2.2 (by simpa using h))).trans HY3.out
     case measure => simp [intOf]; omega
    | false =>
     go_wp2_with fail
     go_roundw
     case rel =>
      exact ⟨q + 1, (⟨false, pk, pn, pb⟩, .slice pa pm pc), by omega, by go_num, by rw [HTK.out]; rfl, HOK.out, HPB.out, HX3.out, HY3.out, HB3.out⟩
     case measure => simp [intOf]; omega
   | false =>
    cases pu with
    | true =>
     go_wp2_with fail
     go_roundw
     case rel =>
      refine ⟨q + 1, (⟨false, yk, yn, yb⟩, .slice ya ym yc), by omega, by go_num, by rw [HTK.out]; rfl, HYO.out, HYB.out, ?_, ?_, (((HB3.out.setCell (p := ⟨X, 0, none⟩) HXY.out.2.1 _).setCell (p := ⟨X, 1, none⟩) HXY.out.2.1 _).setCell (p := ⟨X, 2, none⟩) HXY.out.2.1 _).setCell (p := ⟨X, 3, none⟩) HXY.out.2.1 _⟩
      ·exact zAu HX3.out
      ·exact zBh HY3.out HXY.out.2.2
     case measure => simp [intOf]; omega
    | false =>
     obtain ⟨cc, hcc⟩ : ∃ cc, cc = cmpT ⟨false, yk, yn, yb⟩ ⟨false, pk, pn, pb⟩ := ⟨_, rfl⟩
     have hct : cc = -1 ∨ cc = 0 ∨ cc = 1 := by rw [hcc]; exact zN1 _ _
     have HCC := hid (show Calls Try.prog 79 #[.agg #[.bool false, .int .i64 yk, .int .i64 yn, .slice ya ym yc], .agg #[.bool false, .int .i64 pk, .int .i64 pn, .slice pa pm pc]] W3 fun e w'' => e = .returned (.int .i64 cc) ∧ Below W3.heap.size W3 w'' from by rw [hcc]; exact zEn (⟨false, yk, yn, yb⟩, .slice ya ym yc) (⟨false, pk, pn, pb⟩, .slice pa pm pc) W3 (HYO.out _ (HWB.out _ HB3.out)) (HOK.out _ (HWB.out _ HB3.out)))
     obtain ⟨cs, hcs⟩ : ∃ cs, cs = cc * s := ⟨_, rfl⟩
     have hwc : IntKind.i64.wrap (cc * s) = cs := by rw [<- hcs]; exact Qe _ (by rcases hct with h | h | h <;> rcases hs with h2 | h2 <;> rw [hcs, h, h2] <;> omega)
     have HES := hid (show extStep s ⟨false, pk, pn, pb⟩ ⟨false, yk, yn, yb⟩ = if 0 < cs then ⟨false, yk, yn, yb⟩ else ⟨false, pk, pn, pb⟩ by rw [hcs, hcc]; unfold extStep; simp)
     clear hcc hct hcs
     go_wp2_with fail
     refine HCC.out.mono ?_
     rintro e W4 ⟨rfl, hb4⟩
     have HB4 := hid (zAa HB3.out hb4)
     have HV4 := hid ((hb4.block V (Qa.1 HVr.out).1).trans HVr.out)
     have HX4 := hid ((hb4.block X (Qa.1 HX3.out).1).trans HX3.out)
     have HY4 := hid ((hb4.block Y (Qa.1 HY3.out).1).trans HY3.out)
     clear v0 v1 v2 v3 x0 x1 x2 x3 f0 f1 f2 f3 hb4
     by_cases hgt : 0 < cs
     ·have hgt2 : decide (cs > 0) = true := by rw [decide_eq_true_eq]; exact hgt
      have hgt3 : decide (0 < cs) = true := hgt2
      have v0 : W4.cell? ⟨V, 0, none⟩ = some (.bool false) := by rw [Qf W4 V 0 _ _ _ HV4.out]; rfl
      have v1 : W4.cell? ⟨V, 1, none⟩ = some (.int .i64 yk) := by rw [Qf W4 V 1 _ _ _ HV4.out]; rfl
      have v2 : W4.cell? ⟨V, 2, none⟩ = some (.int .i64 yn) := by rw [Qf W4 V 2 _ _ _ HV4.out]; rfl
      have v3 : W4.cell? ⟨V, 3, none⟩ = some (.slice ya ym yc) := by rw [Qf W4 V 3 _ _ _ HV4.out]; rfl
      have x0 : W4.cell? ⟨X, 0, none⟩ = some (.bool false) := by rw [Qf W4 X 0 _ _ _ HX4.out]; rfl
      have x1 : W4.cell? ⟨X, 1, none⟩ = some (.int .i64 pk) := by rw [Qf W4 X 1 _ _ _ HX4.out]; rfl
      have x2 : W4.cell? ⟨X, 2, none⟩ = some (.int .i64 pn) := by rw [Qf W4 X 2 _ _ _ HX4.out]; rfl
      have x3 : W4.cell? ⟨X, 3, none⟩ = some (.slice pa pm pc) := by rw [Qf W4 X 3 _ _ _ HX4.out]; rfl
      have f0 : W4.frozen? ⟨X, 0, none⟩ = false := Qg W4 X 0 _ _ HX4.out
      have f1 : W4.frozen? ⟨X, 1, none⟩ = false := Qg W4 X 1 _ _ HX4.out
      have f2 : W4.frozen? ⟨X, 2, none⟩ = false := Qg W4 X 2 _ _ HX4.out
      have f3 : W4.frozen? ⟨X, 3, none⟩ = false := Qg W4 X 3 _ _ HX4.out
      go_wp2_with fail
      go_roundw
      case rel =>
       refine ⟨q + 1, (⟨false, yk, yn, yb⟩, .slice ya ym yc), by omega, by go_num, by rw [HTK.out, HES.out, if_pos hgt], HYO.out, HYB.out, ?_, ?_, (((HB4.out.setCell (p := ⟨X, 0, none⟩) HXY.out.2.1 _).setCell (p := ⟨X, 1, none⟩) HXY.out.2.1 _).setCell (p := ⟨X, 2, none⟩) HXY.out.2.1 _).setCell (p := ⟨X, 3, none⟩) HXY.out.2.1 _⟩
       ·exact zAu HX4.out
       ·exact zBh HY4.out HXY.out.2.2
      case measure => simp [intOf]; omega
     ·have hgt2 : decide (cs > 0) = false := by rw [decide_eq_false_iff_not]; exact hgt
      have hgt3 : decide (0 < cs) = false := hgt2
      go_wp2_with fail
      go_roundw
      case rel =>
       exact ⟨q + 1, (⟨false, pk, pn, pb⟩, .slice pa pm pc), by omega, by go_num, by rw [HTK.out, HES.out, if_neg (by omega)], HOK.out, HPB.out, HX4.out, HY4.out, HB4.out⟩
      case measure => simp [intOf]; omega
  ·have hqn : q = n := by omega
   have hlti : ¬ (q : Int) < (n : Int) := by omega
   have x0 : wr.cell? ⟨X, 0, none⟩ = some (.bool pu) := by rw [Qf wr X 0 _ _ _ HXr.out]; rfl
   have x1 : wr.cell? ⟨X, 1, none⟩ = some (.int .i64 pk) := by rw [Qf wr X 1 _ _ _ HXr.out]; rfl
   have x2 : wr.cell? ⟨X, 2, none⟩ = some (.int .i64 pn) := by rw [Qf wr X 2 _ _ _ HXr.out]; rfl
   have x3 : wr.cell? ⟨X, 3, none⟩ = some (.slice pa pm pc) := by rw [Qf wr X 3 _ _ _ HXr.out]; rfl
   have y0 : wr.cell? ⟨Y, 0, none⟩ = some (.bool false) := by rw [Qf wr Y 0 _ _ _ HYr.out]; rfl
   have y1 : wr.cell? ⟨Y, 1, none⟩ = some (.int .i64 0) := by rw [Qf wr Y 1 _ _ _ HYr.out]; rfl
   have y2 : wr.cell? ⟨Y, 2, none⟩ = some (.int .i64 0) := by rw [Qf wr Y 2 _ _ _ HYr.out]; rfl
   have y3 : wr.cell? ⟨Y, 3, none⟩ = some (.slice none 0 0) := by rw [Qf wr Y 3 _ _ _ HYr.out]; rfl
   have f0 : wr.frozen? ⟨Y, 0, none⟩ = false := Qg wr Y 0 _ _ HYr.out
   have f1 : wr.frozen? ⟨Y, 1, none⟩ = false := Qg wr Y 1 _ _ HYr.out
   have f2 : wr.frozen? ⟨Y, 2, none⟩ = false := Qg wr Y 2 _ _ HYr.out
   have f3 : wr.frozen? ⟨Y, 3, none⟩ = false := Qg wr Y 3 _ _ HYr.out
   have HEX := hid (show (⟨pu, pk, pn, pb⟩ : Vc) = extT (E.map El.row) c s by rw [HP.out, hqn, HN.out, List.take_length])
   clear hqn
   go_wp2_with fail
   (try simp only [Exit.inBlock, Exit.then])
   refine bodyPost_ret (results_cell_row rfl _ _ Y _ #[.bool pu, .int .i64 pk, .int .i64 pn, .slice pa pm pc] (0, 0) _ rfl (zAu HYr.out) Try.underlying36 rfl zAz) rfl ?_
   exact ⟨⟨pu, pk, pn, pb⟩, .slice pa pm pc, rfl, HEX.out, HOK.out, HPB.out, (((HB.out.setCell (p := ⟨Y, 0, none⟩) HXY.out.1 _).setCell (p := ⟨Y, 1, none⟩) HXY.out.1 _).setCell (p := ⟨Y, 2, none⟩) HXY.out.1 _).setCell (p := ⟨Y, 3, none⟩) HXY.out.1 _⟩
theorem zMt (c : Int) : TotOK (3, c) := fun E v w0 w hb hl hv hr => by
 obtain ⟨ao, cap, hvs⟩ : ∃ ao cap, v = .slice ao (E.map Prod.fst).length cap := by obtain ⟨ao, cap, h, _⟩ := hv; exact ⟨ao, cap, h⟩
 subst hvs
 obtain ⟨n, hN⟩ : ∃ n, n = E.length := ⟨_, rfl⟩
 obtain ⟨W, hW⟩ : ∃ W : World, W = (w.alloc (.cells #[.int .i64 3, .int .i64 c] 32)).alloc (.cells #[.bool false, .int .i64 0, .int .i64 0, .slice none 0 0] 36) := ⟨_, rfl⟩
 obtain ⟨Y, hY⟩ : ∃ Y, Y = w.heap.size := ⟨_, rfl⟩
 obtain ⟨X, hX⟩ : ∃ X, X = w.heap.size + 1 := ⟨_, rfl⟩
 have HY := hid (show W.heap[Y]? = some (.cells #[.int .i64 3, .int .i64 c] 32 (0, 0)) by rw [hW, hY]; exact (heap_alloc_old _ _ (by simp)).trans (Qi w _))
 have HX := hid (show W.heap[X]? = some (.cells #[.bool false, .int .i64 0, .int .i64 0, .slice none 0 0] 36 (0, 0)) by rw [hW, hX]; exact zDd w _ _)
 have HBW := hid (show Below w.heap.size w W by rw [hW]; exact zAw w _ _)
 have HXE := hid hX
 have d0 : W.cell? ⟨Y, 0, none⟩ = some (.int .i64 3) := by rw [Qf W Y 0 _ _ _ HY.out]; rfl
 have d1 : W.cell? ⟨Y, 1, none⟩ = some (.int .i64 c) := by rw [Qf W Y 1 _ _ _ HY.out]; rfl
 have HS := hid (zGl E hl (.slice ao (E.map Prod.fst).length cap) c (-1) (by decide) w0 W (zAa hb HBW.out) (hv.kept HBW.out) (fun x hx => ⟨(hr x hx).1, (hr x hx).2.1⟩) (fun x hx t ht => ((hr x hx).2.2 t ht).2))
 rw [Qb, <- hN] at HS ⊢
 have HTT := hid (show totT (E.map El.row) 3 c = some (extT (E.map El.row) c (-1)) by unfold totT; simp)
 obtain ⟨ot, hot⟩ : ∃ ot, ot = extT (E.map El.row) c (-1) := ⟨_, rfl⟩
 rw [<- hot] at HS HTT
 rw [HTT.out]
 clear hot HTT hN hv hb hl hr
 go_enter Try.func46, Try.ntmps46
 go_upto_region 1 with (fail)
 rw [<- hW, <- hX, <- hY]
 clear hW hX hY
 go_wp2_with fail
 refine HS.out.mono ?_
 rintro e w2 ⟨p, rfl, hp, hok, hpb, hb2⟩
 have HX2 := hid ((hb2.block X (Qa.1 HX.out).1).trans HX.out)
 have c0 : w2.cell? ⟨X, 0, none⟩ = some (.bool false) := by rw [Qf w2 X 0 _ _ _ HX2.out]; rfl
 have c1 : w2.cell? ⟨X, 1, none⟩ = some (.int .i64 0) := by rw [Qf w2 X 1 _ _ _ HX2.out]; rfl
 have c2 : w2.cell? ⟨X, 2, none⟩ = some (.int .i64 0) := by rw [Qf w2 X 2 _ _ _ HX2.out]; rfl
 have c3 : w2.cell? ⟨X, 3, none⟩ = some (.slice none 0 0) := by rw [Qf w2 X 3 _ _ _ HX2.out]; rfl
 have f0 : w2.frozen? ⟨X, 0, none⟩ = false := Qg w2 X 0 _ _ HX2.out
 have f1 : w2.frozen? ⟨X, 1, none⟩ = false := Qg w2 X 1 _ _ HX2.out
 have f2 : w2.frozen? ⟨X, 2, none⟩ = false := Qg w2 X 2 _ _ HX2.out
 have f3 : w2.frozen? ⟨X, 3, none⟩ = false := Qg w2 X 3 _ _ HX2.out
 have HB2 := hid (zAa HBW.out hb2)
 have HBF := hid (fun a b d e => (((HB2.out.setCell (p := ⟨X, 0, none⟩) (by show _ <= X; have := HXE.out; omega) a).setCell (p := ⟨X, 1, none⟩) (by show _ <= X; have := HXE.out; omega) b).setCell (p := ⟨X, 2, none⟩) (by show _ <= X; have := HXE.out; omega) d).setCell (p := ⟨X, 3, none⟩) (by show _ <= X; have := HXE.out; omega) e)
 obtain ⟨⟨u, k, m, b⟩, sl⟩ := p
 obtain ⟨sa, sc, hs⟩ := zAo (hok w0 (Qc _ _)).1
 simp only at hs hp hpb
 subst hs
 obtain ⟨bm, hbm⟩ : ∃ bm, bm = b.length := ⟨_, rfl⟩
 unfold aggV
 simp only
 rw [<- hbm] at hok ⊢
 have HOKP := hid hok
 have HPE := hid hp
 have HPB := hid hpb
 clear hok hp hpb hbm hb2 d0 d1
 go_wp2_with fail
 (try simp only [Exit.inBlock, Exit.then])
 refine bodyPost_ret (zAp rfl _ _ X _ _ (0, 0) _ _ rfl rfl (zAu HX2.out) Try.underlying36 rfl zAz) rfl ?_
 refine ⟨?_, HBF.out _ _ _ _⟩
 rw [<- HPE.out]
 exact ⟨.slice sa bm sc, rfl, HPB.out, HOKP.out⟩
theorem zMu (c : Int) : TotOK (4, c) := fun E v w0 w hb hl hv hr => by
 obtain ⟨ao, cap, hvs⟩ : ∃ ao cap, v = .slice ao (E.map Prod.fst).length cap := by obtain ⟨ao, cap, h, _⟩ := hv; exact ⟨ao, cap, h⟩
 subst hvs
 obtain ⟨n, hN⟩ : ∃ n, n = E.length := ⟨_, rfl⟩
 obtain ⟨W, hW⟩ : ∃ W : World, W = (w.alloc (.cells #[.int .i64 4, .int .i64 c] 32)).alloc (.cells #[.bool false, .int .i64 0, .int .i64 0, .slice none 0 0] 36) := ⟨_, rfl⟩
 obtain ⟨Y, hY⟩ : ∃ Y, Y = w.heap.size := ⟨_, rfl⟩
 obtain ⟨X, hX⟩ : ∃ X, X = w.heap.size + 1 := ⟨_, rfl⟩
 have HY := hid (show W.heap[Y]? = some (.cells #[.int .i64 4, .int .i64 c] 32 (0, 0)) by rw [hW, hY]; exact (heap_alloc_old _ _ (by simp)).trans (Qi w _))
 have HX := hid (show W.heap[X]? = some (.cells #[.bool false, .int .i64 0, .int .i64 0, .slice none 0 0] 36 (0, 0)) by rw [hW, hX]; exact zDd w _ _)
 have HBW := hid (show Below w.heap.size w W by rw [hW]; exact zAw w _ _)
 have HXE := hid hX
 have d0 : W.cell? ⟨Y, 0, none⟩ = some (.int .i64 4) := by rw [Qf W Y 0 _ _ _ HY.out]; rfl
 have d1 : W.cell? ⟨Y, 1, none⟩ = some (.int .i64 c) := by rw [Qf W Y 1 _ _ _ HY.out]; rfl
 have HS := hid (zGl E hl (.slice ao (E.map Prod.fst).length cap) c (1) (by decide) w0 W (zAa hb HBW.out) (hv.kept HBW.out) (fun x hx => ⟨(hr x hx).1, (hr x hx).2.1⟩) (fun x hx t ht => ((hr x hx).2.2 t ht).2))
 rw [Qb, <- hN] at HS ⊢
 have HTT := hid (show totT (E.map El.row) 4 c = some (extT (E.map El.row) c (1)) by unfold totT; simp)
 obtain ⟨ot, hot⟩ : ∃ ot, ot = extT (E.map El.row) c (1) := ⟨_, rfl⟩
 rw [<- hot] at HS HTT
 rw [HTT.out]
 clear hot HTT hN hv hb hl hr
 go_enter Try.func46, Try.ntmps46
 go_upto_region 1 with (fail)
 rw [<- hW, <- hX, <- hY]
 clear hW hX hY
 go_wp2_with fail
 refine HS.out.mono ?_
 rintro e w2 ⟨p, rfl, hp, hok, hpb, hb2⟩
 have HX2 := hid ((hb2.block X (Qa.1 HX.out).1).trans HX.out)
 have c0 : w2.cell? ⟨X, 0, none⟩ = some (.bool false) := by rw [Qf w2 X 0 _ _ _ HX2.out]; rfl
 have c1 : w2.cell? ⟨X, 1, none⟩ = some (.int .i64 0) := by rw [Qf w2 X 1 _ _ _ HX2.out]; rfl
 have c2 : w2.cell? ⟨X, 2, none⟩ = some (.int .i64 0) := by rw [Qf w2 X 2 _ _ _ HX2.out]; rfl
 have c3 : w2.cell? ⟨X, 3, none⟩ = some (.slice none 0 0) := by rw [Qf w2 X 3 _ _ _ HX2.out]; rfl
 have f0 : w2.frozen? ⟨X, 0, none⟩ = false := Qg w2 X 0 _ _ HX2.out
 have f1 : w2.frozen? ⟨X, 1, none⟩ = false := Qg w2 X 1 _ _ HX2.out
 have f2 : w2.frozen? ⟨X, 2, none⟩ = false := Qg w2 X 2 _ _ HX2.out
 have f3 : w2.frozen? ⟨X, 3, none⟩ = false := Qg w2 X 3 _ _ HX2.out
 have HB2 := hid (zAa HBW.out hb2)
 have HBF := hid (fun a b d e => (((HB2.out.setCell (p := ⟨X, 0, none⟩) (by show _ <= X; have := HXE.out; omega) a).setCell (p := ⟨X, 1, none⟩) (by show _ <= X; have := HXE.out; omega) b).setCell (p := ⟨X, 2, none⟩) (by show _ <= X; have := HXE.out; omega) d).setCell (p := ⟨X, 3, none⟩) (by show _ <= X; have := HXE.out; omega) e)
 obtain ⟨⟨u, k, m, b⟩, sl⟩ := p
 obtain ⟨sa, sc, hs⟩ := zAo (hok w0 (Qc _ _)).1
 simp only at hs hp hpb
 subst hs
 obtain ⟨bm, hbm⟩ : ∃ bm, bm = b.length := ⟨_, rfl⟩
 unfold aggV
 simp only
 rw [<- hbm] at hok ⊢
 have HOKP := hid hok
 have HPE := hid hp
 have HPB := hid hpb
 clear hok hp hpb hbm hb2 d0 d1
 go_wp2_with fail
 (try simp only [Exit.inBlock, Exit.then])
 refine bodyPost_ret (zAp rfl _ _ X _ _ (0, 0) _ _ rfl rfl (zAu HX2.out) Try.underlying36 rfl zAz) rfl ?_
 refine ⟨?_, HBF.out _ _ _ _⟩
 rw [<- HPE.out]
 exact ⟨.slice sa bm sc, rfl, HPB.out, HOKP.out⟩
end Go.Proofs.Ytnfjdoeemnhkbaa
