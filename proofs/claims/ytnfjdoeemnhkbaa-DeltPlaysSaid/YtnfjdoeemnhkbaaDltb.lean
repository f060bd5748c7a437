/-
  Contracts of fresh.Version; of layer 12's Get, IDs.
-/
import Derived.Test.YtnfjdoeemnhkbaaDlta
import Derived.Test.YtnfjdoeemnhkbaaNorm
namespace Go.Proofs.Ytnfjdoeemnhkbaa
set_option linter.unusedVariables false
set_option linter.unusedSimpArgs false
open Go.RowKit

theorem six_heap {w : World} {X : Nat} {a0 a1 a2 a3 a4 a5 v0 v1 v2 v3 v4 v5 : Value} {T : TypeId} (h : w.heap[X]? = some (.cells #[a0, a1, a2, a3, a4, a5] T (0, 0))) : ((((((w.setCell ⟨X, 0, none⟩ v0).setCell ⟨X, 1, none⟩ v1).setCell ⟨X, 2, none⟩ v2).setCell ⟨X, 3, none⟩ v3).setCell ⟨X, 4, none⟩ v4).setCell ⟨X, 5, none⟩ v5).heap[X]? = some (.cells #[v0, v1, v2, v3, v4, v5] T (0, 0)) := by
  have h0 := heap_setCell_same w X 0 _ _ v0 h
  have h1 := heap_setCell_same (w.setCell ⟨X, 0, none⟩ v0) X 1 _ _ v1 h0
  have h2 := heap_setCell_same ((w.setCell ⟨X, 0, none⟩ v0).setCell ⟨X, 1, none⟩ v1) X 2 _ _ v2 h1
  have h3 := heap_setCell_same (((w.setCell ⟨X, 0, none⟩ v0).setCell ⟨X, 1, none⟩ v1).setCell ⟨X, 2, none⟩ v2) X 3 _ _ v3 h2
  have h4 := heap_setCell_same ((((w.setCell ⟨X, 0, none⟩ v0).setCell ⟨X, 1, none⟩ v1).setCell ⟨X, 2, none⟩ v2).setCell ⟨X, 3, none⟩ v3) X 4 _ _ v4 h3
  have h5 := heap_setCell_same (((((w.setCell ⟨X, 0, none⟩ v0).setCell ⟨X, 1, none⟩ v1).setCell ⟨X, 2, none⟩ v2).setCell ⟨X, 3, none⟩ v3).setCell ⟨X, 4, none⟩ v4) X 5 _ _ v5 h4
  simpa only [List.setIfInBounds_toArray, List.set_cons_zero, List.set_cons_succ] using h5
theorem infoVersion : (Try.prog.info? 84).map (·.size) = some 6 := by kernel_rfl
theorem infoVersion3 : (Try.prog.info? 84).map (fun i => (i.zero, i.size, i.bytes)) = some (some (.agg #[.int .i64 0, .slice none 0 0, .int .i64 0, .int .i64 0, .int .i64 0, .int .i64 0]), 6, 64) := by kernel_rfl

set_option maxRecDepth 100000 in
set_option maxHeartbeats 8000000 in
theorem fver_any (xi x1 x2 x3 x4 : Int) (xra : Option Addr) (xrn xrc : Nat) (l : List (Vc × Value)) (hl : l.length ≤ 1000000) (w : World) (hr : RdP w (.slice xra xrn xrc) l) (hbig : ∀ t ∈ l, t.1.b.length ≤ 1000000) :
    Calls Try.prog 76 #[.agg #[.int .i64 xi, .slice xra xrn xrc, .int .i64 x1, .int .i64 x2, .int .i64 x3, .int .i64 x4]] w fun e w' => ∃ (na : Option Addr) (nn nc : Nat) (l' : List (Vc × Value)), e = .returned (.agg #[.int .i64 xi, .slice na nn nc, .int .i64 x1, .int .i64 x2, .int .i64 x3, .int .i64 x4]) ∧ l'.map Prod.fst = l.map Prod.fst ∧ RdRA w.heap.size w' (.slice na nn nc) l' ∧ Below w.heap.size w w' := by
  have HR := Lib.hid hr
  have HC := fun w' (h : Below w.heap.size w w') => Lib.hid (frow_any l hl (.slice xra xrn xrc) w' (hr.kept h) hbig)
  clear hr hbig
  go_enter Try.func76, Try.ntmps76
  go_upto_region 1 with (fail)
  have HB0 := Lib.hid (below2 w (.cells #[.int .i64 xi, .slice xra xrn xrc, .int .i64 x1, .int .i64 x2, .int .i64 x3, .int .i64 x4] 84) (.cells #[.int .i64 0, .slice none 0 0, .int .i64 0, .int .i64 0, .int .i64 0, .int .i64 0] 84))
  have HX0 := Lib.hid ((heap_alloc_old (w.alloc (.cells #[.int .i64 xi, .slice xra xrn xrc, .int .i64 x1, .int .i64 x2, .int .i64 x3, .int .i64 x4] 84)) (.cells #[.int .i64 0, .slice none 0 0, .int .i64 0, .int .i64 0, .int .i64 0, .int .i64 0] 84) (r := w.heap.size) (by simp)).trans (heap_alloc_new w _))
  have HY0 := Lib.hid (heap2 w (.cells #[.int .i64 xi, .slice xra xrn xrc, .int .i64 x1, .int .i64 x2, .int .i64 x3, .int .i64 x4] 84) (.cells #[.int .i64 0, .slice none 0 0, .int .i64 0, .int .i64 0, .int .i64 0, .int .i64 0] 84))
  have HS0 := Lib.hid (show ((w.alloc (.cells #[.int .i64 xi, .slice xra xrn xrc, .int .i64 x1, .int .i64 x2, .int .i64 x3, .int .i64 x4] 84)).alloc (.cells #[.int .i64 0, .slice none 0 0, .int .i64 0, .int .i64 0, .int .i64 0, .int .i64 0] 84)).heap.size = w.heap.size + 2 by simp)
  obtain ⟨W, hW⟩ : ∃ W : World, W = (w.alloc (.cells #[.int .i64 xi, .slice xra xrn xrc, .int .i64 x1, .int .i64 x2, .int .i64 x3, .int .i64 x4] 84)).alloc (.cells #[.int .i64 0, .slice none 0 0, .int .i64 0, .int .i64 0, .int .i64 0, .int .i64 0] 84) := ⟨_, rfl⟩
  rw [← hW] at HB0 HX0 HY0 HS0 ⊢
  obtain ⟨X, hX⟩ : ∃ X, X = w.heap.size := ⟨_, rfl⟩
  have HXX := Lib.hid hX
  rw [← hX] at HX0 HY0 ⊢
  obtain ⟨Y, hY⟩ : ∃ Y, Y = X + 1 := ⟨_, rfl⟩
  have HYY := Lib.hid hY
  rw [← hY] at HY0 ⊢
  clear hW hX hY
  have c1 : W.cell? ⟨X, 1, none⟩ = some (.slice xra xrn xrc) := by rw [cell_of_row W X 1 _ _ _ HX0.out]; rfl
  have HCALL := HC W HB0.out
  clear HC
  go_wp2_with fail
  refine HCALL.out.mono ?_
  rintro e w2 ⟨v', l', rfl, h1, h2, hb2⟩
  obtain ⟨na, nc, hs'⟩ := rdS_shape h2.1.rd
  rw [List.length_map] at hs'
  subst hs'
  obtain ⟨nn, hnn⟩ : ∃ nn, nn = l'.length := ⟨_, rfl⟩
  rw [← hnn] at h2 ⊢
  have H1 := Lib.hid h1
  have H2 := Lib.hid h2
  have HB2 := Lib.hid (below_then HB0.out hb2)
  have hx := (hb2.block X (Array.getElem?_eq_some_iff.1 HX0.out).1).trans HX0.out
  have hy := (hb2.block Y (Array.getElem?_eq_some_iff.1 HY0.out).1).trans HY0.out
  have HY2 := Lib.hid hy
  clear h1 h2 hb2 c1 hnn HCALL
  have cx0 : w2.cell? ⟨X, 0, none⟩ = some (.int .i64 xi) := by rw [cell_of_row w2 X 0 _ _ _ hx]; rfl
  have cxf0 : w2.frozen? ⟨X, 0, none⟩ = false := frozen_of_row w2 X 0 _ _ hx
  have cx1 : w2.cell? ⟨X, 1, none⟩ = some (.slice xra xrn xrc) := by rw [cell_of_row w2 X 1 _ _ _ hx]; rfl
  have cxf1 : w2.frozen? ⟨X, 1, none⟩ = false := frozen_of_row w2 X 1 _ _ hx
  have cx2 : w2.cell? ⟨X, 2, none⟩ = some (.int .i64 x1) := by rw [cell_of_row w2 X 2 _ _ _ hx]; rfl
  have cxf2 : w2.frozen? ⟨X, 2, none⟩ = false := frozen_of_row w2 X 2 _ _ hx
  have cx3 : w2.cell? ⟨X, 3, none⟩ = some (.int .i64 x2) := by rw [cell_of_row w2 X 3 _ _ _ hx]; rfl
  have cxf3 : w2.frozen? ⟨X, 3, none⟩ = false := frozen_of_row w2 X 3 _ _ hx
  have cx4 : w2.cell? ⟨X, 4, none⟩ = some (.int .i64 x3) := by rw [cell_of_row w2 X 4 _ _ _ hx]; rfl
  have cxf4 : w2.frozen? ⟨X, 4, none⟩ = false := frozen_of_row w2 X 4 _ _ hx
  have cx5 : w2.cell? ⟨X, 5, none⟩ = some (.int .i64 x4) := by rw [cell_of_row w2 X 5 _ _ _ hx]; rfl
  have cxf5 : w2.frozen? ⟨X, 5, none⟩ = false := frozen_of_row w2 X 5 _ _ hx
  have cy0 : w2.cell? ⟨Y, 0, none⟩ = some (.int .i64 0) := by rw [cell_of_row w2 Y 0 _ _ _ hy]; rfl
  have cyf0 : w2.frozen? ⟨Y, 0, none⟩ = false := frozen_of_row w2 Y 0 _ _ hy
  have cy1 : w2.cell? ⟨Y, 1, none⟩ = some (.slice none 0 0) := by rw [cell_of_row w2 Y 1 _ _ _ hy]; rfl
  have cyf1 : w2.frozen? ⟨Y, 1, none⟩ = false := frozen_of_row w2 Y 1 _ _ hy
  have cy2 : w2.cell? ⟨Y, 2, none⟩ = some (.int .i64 0) := by rw [cell_of_row w2 Y 2 _ _ _ hy]; rfl
  have cyf2 : w2.frozen? ⟨Y, 2, none⟩ = false := frozen_of_row w2 Y 2 _ _ hy
  have cy3 : w2.cell? ⟨Y, 3, none⟩ = some (.int .i64 0) := by rw [cell_of_row w2 Y 3 _ _ _ hy]; rfl
  have cyf3 : w2.frozen? ⟨Y, 3, none⟩ = false := frozen_of_row w2 Y 3 _ _ hy
  have cy4 : w2.cell? ⟨Y, 4, none⟩ = some (.int .i64 0) := by rw [cell_of_row w2 Y 4 _ _ _ hy]; rfl
  have cyf4 : w2.frozen? ⟨Y, 4, none⟩ = false := frozen_of_row w2 Y 4 _ _ hy
  have cy5 : w2.cell? ⟨Y, 5, none⟩ = some (.int .i64 0) := by rw [cell_of_row w2 Y 5 _ _ _ hy]; rfl
  have cyf5 : w2.frozen? ⟨Y, 5, none⟩ = false := frozen_of_row w2 Y 5 _ _ hy
  have hne : X ≠ Y := by have := HYY.out; omega
  have hne2 : Y ≠ X := by omega
  clear hx hy
  go_wp2_with fail
  refine bodyPost_ret (results_cell_row rfl _ _ Y _ _ (0, 0) _ rfl (six_heap (show (w2.setCell ⟨X, 1, none⟩ (.slice na nn nc)).heap[Y]? = _ from (heap_setCell_other w2 ⟨X, 1, none⟩ Y _ hne2).trans HY2.out)) Try.underlying84 rfl infoVersion) rfl ?_
  have hX := HXX.out
  have hY := HYY.out
  refine ⟨na, nn, nc, l', rfl, H1.out, H2.out.above ?_ (by rw [HS0.out]; omega), ?_⟩
  · rw [HS0.out]
    exact above_set (above_set (above_set (above_set (above_set (above_set (above_set (Above.refl _ _) _ _ (by show X < _; omega)) _ _ (by show Y < _; omega)) _ _ (by show Y < _; omega)) _ _ (by show Y < _; omega)) _ _ (by show Y < _; omega)) _ _ (by show Y < _; omega)) _ _ (by show Y < _; omega)
  · exact ((((((HB2.out.setCell (p := ⟨X, 1, none⟩) (by show _ ≤ X; omega) _).setCell (p := ⟨Y, 0, none⟩) (by show _ ≤ Y; omega) _).setCell (p := ⟨Y, 1, none⟩) (by show _ ≤ Y; omega) _).setCell (p := ⟨Y, 2, none⟩) (by show _ ≤ Y; omega) _).setCell (p := ⟨Y, 3, none⟩) (by show _ ≤ Y; omega) _).setCell (p := ⟨Y, 4, none⟩) (by show _ ≤ Y; omega) _).setCell (p := ⟨Y, 5, none⟩) (by show _ ≤ Y; omega) _

set_option maxRecDepth 100000 in
set_option maxHeartbeats 8000000 in
theorem dget_any (vs : List Vr) (hl : vs.length ≤ 100000) (hs : Rise vs) (va : Option Addr) (n vc d : Nat) (most t : Int) (p : Nat) (x : Vr) (l : List (Vc × Value)) (hll : l.length ≤ 1000000) (w : World) (hn : n = vs.length) (hr : RdS w 6 (.slice va n vc) (vs.map Vr.cells)) (hd : w.heap[d]? = some (.cells #[.int .i64 most, .slice va n vc] 121 (0, 0)))
    (hp : vs[p]? = some x) (hxt : x.i = t) (hx : RdP w (.slice x.ra x.rn x.rc) l) (hbig : ∀ t ∈ l, t.1.b.length ≤ 1000000) :
    Calls Try.prog 40 #[.pointer (some ⟨d, 0, none⟩), .int .i64 t] w fun e w' => ∃ (na : Option Addr) (nn nc : Nat) (l' : List (Vc × Value)), e = .returned (.tuple #[.agg #[.int .i64 x.i, .slice na nn nc, .int .i64 x.s1, .int .i64 x.s2, .int .i64 x.s3, .int .i64 x.s4], .bool true]) ∧ l'.map Prod.fst = l.map Prod.fst ∧ RdRA w.heap.size w' (.slice na nn nc) l' ∧ Below w.heap.size w w' := by
  have HF := Lib.hid fun w' (h : Below w.heap.size w w') => find_any vs hl hs va n vc d most t w' hn (hr.kept h) ((h.block d (Array.getElem?_eq_some_iff.1 hd).1).trans hd)
  have HV := Lib.hid fun w' (h : Below w.heap.size w w') => fver_any x.i x.s1 x.s2 x.s3 x.s4 x.ra x.rn x.rc l hll w' (hx.kept h) hbig
  have HD := Lib.hid hd
  have HR := Lib.hid hr
  have HN := Lib.hid hn
  have HP := Lib.hid hp
  have HRI := Lib.hid hs
  have HXT := Lib.hid hxt
  obtain ⟨xi, xra, xrn, xrc, x1, x2, x3, x4⟩ := x
  simp only at HV ⊢
  have hpn : p < n := by rw [hn]; exact (List.getElem?_eq_some_iff.1 hp).1
  clear hd hr hx hbig hn hp hs hxt
  go_enter Try.func40, Try.ntmps40
  go_upto_region 1 with (fail)
  have hz := heap_alloc_new w (.cells #[.int .i64 0, .slice none 0 0, .int .i64 0, .int .i64 0, .int .i64 0, .int .i64 0] 84)
  have HB0 := Lib.hid (below_alloc w (.cells #[.int .i64 0, .slice none 0 0, .int .i64 0, .int .i64 0, .int .i64 0, .int .i64 0] 84))
  have HS0 := Lib.hid (show (w.alloc (.cells #[.int .i64 0, .slice none 0 0, .int .i64 0, .int .i64 0, .int .i64 0, .int .i64 0] 84)).heap.size = w.heap.size + 1 by simp)
  obtain ⟨W, hW⟩ : ∃ W : World, W = w.alloc (.cells #[.int .i64 0, .slice none 0 0, .int .i64 0, .int .i64 0, .int .i64 0, .int .i64 0] 84) := ⟨_, rfl⟩
  rw [← hW] at hz HB0 HS0 ⊢
  obtain ⟨Y, hY⟩ : ∃ Y, Y = w.heap.size := ⟨_, rfl⟩
  have HYY := Lib.hid hY
  rw [← hY] at hz ⊢
  have HZ := Lib.hid hz
  clear hW hY hz
  go_wp2_with fail
  refine (HF.out W HB0.out).mono ?_
  rintro e w2 ⟨i, b, rfl, ⟨hi, hlo, hhi, hbb⟩, hb2⟩
  have hip : i = p := by
    have h1 := HXT.out
    try simp only at h1
    rcases Nat.lt_trichotomy i p with h | h | h
    · exfalso
      obtain ⟨y, hy⟩ : ∃ y, vs[i]? = some y := ⟨_, List.getElem?_eq_getElem (by have := HN.out; omega)⟩
      have h2 := HRI.out i p y _ h hy HP.out
      have h3 := hhi i y (Nat.le_refl _) hy
      try simp only at h2
      omega
    · exact h
    · exfalso
      have h2 := hlo p _ h HP.out
      try simp only at h2
      omega
  subst hip
  have hbt : b = true := by
    rw [hbb, HP.out, ← HXT.out]
    simp
  subst hbt
  have HB2 := Lib.hid (below_then HB0.out hb2)
  have hy := (hb2.block Y (Array.getElem?_eq_some_iff.1 HZ.out).1).trans HZ.out
  have hd2 := (HB2.out.block d (Array.getElem?_eq_some_iff.1 HD.out).1).trans HD.out
  have hini : (i : Int) < (n : Int) := by omega
  have hi0 : (0 : Int) ≤ (i : Int) := by omega
  obtain ⟨bb, off, rfl, hcell⟩ := (HR.out.kept HB2.out).at (k := i) (t := Vr.cells _) (by rw [List.getElem?_map, HP.out]; rfl)
  unfold Vr.cells at hcell
  simp only at hcell
  have k0 : w2.cell? ⟨bb, off + i * 6, none⟩ = some (.int .i64 xi) := by have h := hcell 0 _ rfl; simpa using h
  have k1 : w2.cell? ⟨bb, off + i * 6 + 1, none⟩ = some (.slice xra xrn xrc) := by have h := hcell 1 _ rfl; simpa using h
  have k2 : w2.cell? ⟨bb, off + i * 6 + 2, none⟩ = some (.int .i64 x1) := by have h := hcell 2 _ rfl; simpa using h
  have k3 : w2.cell? ⟨bb, off + i * 6 + 3, none⟩ = some (.int .i64 x2) := by have h := hcell 3 _ rfl; simpa using h
  have k4 : w2.cell? ⟨bb, off + i * 6 + 4, none⟩ = some (.int .i64 x3) := by have h := hcell 4 _ rfl; simpa using h
  have k5 : w2.cell? ⟨bb, off + i * 6 + 5, none⟩ = some (.int .i64 x4) := by have h := hcell 5 _ rfl; simpa using h
  have c1 : w2.cell? ⟨d, 1, none⟩ = some (.slice (some ⟨bb, off, none⟩) n vc) := by rw [cell_of_row w2 d 1 _ _ _ hd2]; rfl
  clear hcell hi hlo hhi hbb hb2 hd2
  have HY2 := Lib.hid hy
  clear hy
  go_wp2_with fail
  refine (HV.out w2 HB2.out).mono ?_
  rintro e w3 ⟨na, nn, nc, l', rfl, h1, h2, hb3⟩
  have hy3 := (hb3.block Y (Array.getElem?_eq_some_iff.1 HY2.out).1).trans HY2.out
  have HY3 := Lib.hid hy3
  have H1 := Lib.hid h1
  have H2 := Lib.hid h2
  have HB3 := Lib.hid (below_then HB2.out hb3)
  have HSZ := Lib.hid (show Y < w2.heap.size from (Array.getElem?_eq_some_iff.1 HY2.out).1)
  have cy0 : w3.cell? ⟨Y, 0, none⟩ = some (.int .i64 0) := by rw [cell_of_row w3 Y 0 _ _ _ hy3]; rfl
  have cyf0 : w3.frozen? ⟨Y, 0, none⟩ = false := frozen_of_row w3 Y 0 _ _ hy3
  have cy1 : w3.cell? ⟨Y, 1, none⟩ = some (.slice none 0 0) := by rw [cell_of_row w3 Y 1 _ _ _ hy3]; rfl
  have cyf1 : w3.frozen? ⟨Y, 1, none⟩ = false := frozen_of_row w3 Y 1 _ _ hy3
  have cy2 : w3.cell? ⟨Y, 2, none⟩ = some (.int .i64 0) := by rw [cell_of_row w3 Y 2 _ _ _ hy3]; rfl
  have cyf2 : w3.frozen? ⟨Y, 2, none⟩ = false := frozen_of_row w3 Y 2 _ _ hy3
  have cy3 : w3.cell? ⟨Y, 3, none⟩ = some (.int .i64 0) := by rw [cell_of_row w3 Y 3 _ _ _ hy3]; rfl
  have cyf3 : w3.frozen? ⟨Y, 3, none⟩ = false := frozen_of_row w3 Y 3 _ _ hy3
  have cy4 : w3.cell? ⟨Y, 4, none⟩ = some (.int .i64 0) := by rw [cell_of_row w3 Y 4 _ _ _ hy3]; rfl
  have cyf4 : w3.frozen? ⟨Y, 4, none⟩ = false := frozen_of_row w3 Y 4 _ _ hy3
  have cy5 : w3.cell? ⟨Y, 5, none⟩ = some (.int .i64 0) := by rw [cell_of_row w3 Y 5 _ _ _ hy3]; rfl
  have cyf5 : w3.frozen? ⟨Y, 5, none⟩ = false := frozen_of_row w3 Y 5 _ _ hy3
  clear h1 h2 hb3 hy3 c1 k0 k1 k2 k3 k4 k5
  go_wp2_with fail
  refine bodyPost_ret (results_cell_tmp rfl _ _ Y _ _ (0, 0) _ _ rfl rfl (six_heap HY3.out) Try.underlying84 rfl infoVersion) rfl ?_
  have hY := HYY.out
  have hsz := HSZ.out
  refine ⟨na, nn, nc, l', rfl, H1.out, H2.out.above ?_ HB2.out.size, ?_⟩
  · exact above_set (above_set (above_set (above_set (above_set (above_set (Above.refl _ _) _ _ (by show Y < _; omega)) _ _ (by show Y < _; omega)) _ _ (by show Y < _; omega)) _ _ (by show Y < _; omega)) _ _ (by show Y < _; omega)) _ _ (by show Y < _; omega)
  · exact (((((HB3.out.setCell (p := ⟨Y, 0, none⟩) (by show _ ≤ Y; omega) _).setCell (p := ⟨Y, 1, none⟩) (by show _ ≤ Y; omega) _).setCell (p := ⟨Y, 2, none⟩) (by show _ ≤ Y; omega) _).setCell (p := ⟨Y, 3, none⟩) (by show _ ≤ Y; omega) _).setCell (p := ⟨Y, 4, none⟩) (by show _ ≤ Y; omega) _).setCell (p := ⟨Y, 5, none⟩) (by show _ ≤ Y; omega) _

theorem infoInt : (Try.prog.info? 3).map (fun i => (i.zero, i.size, i.bytes)) = some (some (.int .i64 0), 1, 8) := by kernel_rfl
set_option maxRecDepth 100000 in
set_option maxHeartbeats 8000000 in
theorem dids_any (vs : List Vr) (hl : vs.length ≤ 100000) (va : Option Addr) (n vc d : Nat) (most : Int) (w : World) (hn : n = vs.length) (hr : RdS w 6 (.slice va n vc) (vs.map Vr.cells)) (hd : w.heap[d]? = some (.cells #[.int .i64 most, .slice va n vc] 121 (0, 0))) :
    Calls Try.prog 42 #[.pointer (some ⟨d, 0, none⟩)] w fun e w' => e = .returned (.slice (some ⟨w.heap.size, 0, none⟩) n n) ∧ w'.ownsRow w.heap.size 3 1 (.slice (some ⟨w.heap.size, 0, none⟩) n n) n (vs.map fun x => .int .i64 x.i) ∧ Below w.heap.size w w' := by
  have HD := Lib.hid hd
  have HR := Lib.hid hr
  have HN := Lib.hid hn
  have c1 : w.cell? ⟨d, 1, none⟩ = some (.slice va n vc) := by rw [cell_of_row w d 1 _ _ _ hd]; rfl
  have hnl : n ≤ 100000 := by omega
  clear hd hr hn hl
  obtain ⟨i0, hi, hz0, hz1, hz2⟩ := info_parts infoInt
  go_enter Try.func42, Try.ntmps42
  go_upto_region 2 with (at_make; go_must (refine wpList_make_full _ rfl _ _ 22 rfl w.heap.size 3 i0 _ 1 Try.underlying22 hi hz0 hz1 .i64 .i64 _ _ n rfl rfl rfl rfl (by rw [hz2]; omega) (by unfold maxLen; omega) (Nat.le_refl _) ?_); intro w1 hown1 hgrow1)
  have HO1 := Lib.hid hown1
  have HB1 := Lib.hid (show Below w.heap.size w w1 from ⟨hgrow1.os, hgrow1.tape, hgrow1.output, hgrow1.size, fun i hi => hgrow1.block i hi (by simp)⟩)
  obtain ⟨xs0, hxs0⟩ : ∃ xs0, xs0 = (madeCells (Value.int .i64 0).cells (n * 1)).toList := ⟨_, rfl⟩
  rw [← hxs0] at HO1
  obtain ⟨G, hG⟩ : ∃ G, G = w.heap.size := ⟨_, rfl⟩
  have HGG := Lib.hid hG
  rw [← hG] at HO1 ⊢
  have hd1 := (HB1.out.block d (Array.getElem?_eq_some_iff.1 HD.out).1).trans HD.out
  clear hown1 hgrow1 hxs0 hG hi hz0 hz1 hz2 c1
  have c1 : w1.cell? ⟨d, 1, none⟩ = some (.slice va n vc) := by rw [cell_of_row w1 d 1 _ _ _ hd1]; rfl
  clear hd1
  go_wp2_with fail
  clear c1
  go_loopw [17] (fun i wr => ∃ q : Nat, ∃ xs : List Value, q ≤ n ∧ i = .int .i64 (q : Int) ∧ xs.length = n ∧ xs.take q = (vs.take q).map (fun x => Value.int .i64 x.i) ∧ wr.ownsRow G 3 1 (.slice (some ⟨G, 0, none⟩) n n) n xs ∧ Below w.heap.size w wr) (fun i _ => n - (intOf i).toNat)
  case atStart => exact ⟨0, xs0, Nat.zero_le _, rfl, by have := HO1.out.1; omega, by simp, HO1.out, HB1.out⟩
  case round =>
    obtain ⟨q, xs, hq, rfl, hxl, hxt, hown, hb⟩ := hrel
    have HXL := Lib.hid hxl
    have HXT := Lib.hid hxt
    have HO := Lib.hid hown
    have HB := Lib.hid hb
    clear hxl hxt hown hb
    by_cases hlt : q < n
    · obtain ⟨x, hx⟩ : ∃ x, vs[q]? = some x := ⟨_, List.getElem?_eq_getElem (by rw [← HN.out]; exact hlt)⟩
      have HTK := Lib.hid (show vs.take (q + 1) = vs.take q ++ [x] by rw [List.take_add_one, hx]; rfl)
      obtain ⟨bb, off, rfl, hcell⟩ := (HR.out.kept HB.out).at (k := q) (t := x.cells) (by rw [List.getElem?_map, hx]; rfl)
      obtain ⟨xi, xra, xrn, xrc, x1, x2, x3, x4⟩ := x
      unfold Vr.cells at hcell
      simp only at hcell
      have k0 : wr.cell? ⟨bb, off + q * 6, none⟩ = some (.int .i64 xi) := by have h := hcell 0 _ rfl; simpa using h
      have k1 : wr.cell? ⟨bb, off + q * 6 + 1, none⟩ = some (.slice xra xrn xrc) := by have h := hcell 1 _ rfl; simpa using h
      have k2 : wr.cell? ⟨bb, off + q * 6 + 2, none⟩ = some (.int .i64 x1) := by have h := hcell 2 _ rfl; simpa using h
      have k3 : wr.cell? ⟨bb, off + q * 6 + 3, none⟩ = some (.int .i64 x2) := by have h := hcell 3 _ rfl; simpa using h
      have k4 : wr.cell? ⟨bb, off + q * 6 + 4, none⟩ = some (.int .i64 x3) := by have h := hcell 4 _ rfl; simpa using h
      have k5 : wr.cell? ⟨bb, off + q * 6 + 5, none⟩ = some (.int .i64 x4) := by have h := hcell 5 _ rfl; simpa using h
      have HO2 := Lib.hid (fun o => HO.out.alloc o)
      have hx : ∃ u, wr.cell? ⟨G, q, none⟩ = some u := by
        have hlt2 : q < xs.length := by rw [HXL.out]; omega
        exact ⟨_, (HO.out.cellAt q (by omega)).trans (List.getElem?_eq_getElem hlt2)⟩
      obtain ⟨u0, c0⟩ := hx
      have f0 := HO.out.frozenAt q
      have cc0 := fun o => Lib.cell?_alloc_some (W := wr) o c0
      have hgl : G < wr.heap.size := own_lt' HO.out
      have hgne : G ≠ wr.heap.size := by omega
      have hgne2 : wr.heap.size ≠ G := by omega
      clear hcell hx
      go_wp2_with fail
      go_roundw
      case rel =>
        have hst := ((HO.out.stored q (.int .i64 xi)).1).alloc (.cells #[.int .i64 xi, .slice xra xrn xrc, .int .i64 x1, .int .i64 x2, .int .i64 x3, .int .i64 x4] 84)
        refine ⟨q + 1, _, by omega, by go_num, ?_, ?_, hst, ?_⟩
        · rw [List.length_set]; exact HXL.out
        · rw [HTK.out, List.map_append, List.take_add_one, List.getElem?_set_self (by rw [HXL.out]; exact hlt), List.take_set_of_le (Nat.le_refl _), HXT.out]
          rfl
        · exact below_lay (HB.out.setCell (p := ⟨G, q, none⟩) (by show _ ≤ G; rw [HGG.out]; exact Nat.le_refl _) _) _
      case measure => simp [intOf]; omega
    · have hqn : q = n := by omega
      have HF := Lib.hid (show wr.ownsRow G 3 1 (.slice (some ⟨G, 0, none⟩) n n) n (vs.map fun x => .int .i64 x.i) from by
        have h := HO.out
        have h1 := HXT.out
        rw [hqn, List.take_of_length_le (by rw [HXL.out]; exact Nat.le_refl _), List.take_of_length_le (by rw [← HN.out]; exact Nat.le_refl _)] at h1
        rw [h1] at h
        exact h)
      clear hqn
      go_wp2_with fail
      go_ret
      rw [← HGG.out]
      exact ⟨rfl, HF.out, by have h := HB.out; rw [← HGG.out] at h; exact h⟩

end Go.Proofs.Ytnfjdoeemnhkbaa
