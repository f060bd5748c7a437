/-
  Contracts of expr.isEmpty and expr.Op, at a delete of all, and at no op.
-/
import Derived.Test.YtfmkalnnpddefaaSok
import Derived.Test.YtfmkalnnpddefaaPokc
import Derived.Test.YtfmkalnnpddefaaMake7
namespace Go.Proofs.Ytfmkalnnpddefaa
set_option linter.unusedVariables false
set_option linter.unusedSimpArgs false
open Canon Go.RowKit

theorem isEmpty_row : isTrue (callN (envOf Try.prog) 60 115 [.agg #[.int .i64 3, .slice none 0 0, .int .i64 0, .int .i64 0, .int .i64 0, .bool false, .int .i64 0, .int .i64 0, .slice none 0 0, .slice none 0 0, .slice none 0 0, .slice none 0 0, .int .i64 0, .slice none 0 0]] (Canon.start Try.prog)) = true := by kernel_rfl
theorem isEmpty_body : hasBody Try.prog 115 = true := by kernel_rfl
theorem isEmpty_any (w : World) :
    Calls Try.prog 115 #[.agg #[.int .i64 3, .slice none 0 0, .int .i64 0, .int .i64 0, .int .i64 0, .bool false, .int .i64 0, .int .i64 0, .slice none 0 0, .slice none 0 0, .slice none 0 0, .slice none 0 0, .int .i64 0, .slice none 0 0]] w fun e w' => e = .returned (.bool true) ∧ Below w.heap.size w w' :=
  fit.args isEmpty_body (fun c => LR.cons (VR.of_ground rfl) LR.nil) isEmpty_row w
theorem predOk_tr (cols : List Co) : predOkB cols trT = true := by
  unfold trT
  simp [predOkB, allB, allBl, shapeB, isZ, zeroV, depT, depL, belT, belL]
set_option maxRecDepth 100000 in
set_option maxHeartbeats 8000000 in
theorem op_del (n : Int) (sv : Value) (w : World) (hv : RdC w sv (colsN n)) :
    Calls Try.prog 71 #[.agg #[sv], .agg #[.int .i64 3, .slice none 0 0, .int .i64 1, .int .i64 0, .int .i64 0, .bool false, .int .i64 0, .int .i64 0, .slice none 0 0, .slice none 0 0, .slice none 0 0, .slice none 0 0, .int .i64 0, .slice none 0 0]] w fun e w' => e = .returned (.bool true) ∧ Below w.heap.size w w' := by
  obtain ⟨so, sc, rfl⟩ := rdC_shape hv
  obtain ⟨sn, hsn⟩ : ∃ sn, sn = (colsN n).length := ⟨_, rfl⟩
  rw [← hsn] at hv ⊢
  clear hsn
  have HV := Lib.hid hv
  go_enter Try.func71, Try.ntmps71
  go_upto_region 1 with (fail)
  have HB0 := Lib.hid (below2 w (.cells #[.slice so sn sc] 24) (.cells #[.int .i64 3, .slice none 0 0, .int .i64 1, .int .i64 0, .int .i64 0, .bool false, .int .i64 0, .int .i64 0, .slice none 0 0, .slice none 0 0, .slice none 0 0, .slice none 0 0, .int .i64 0, .slice none 0 0] 54))
  have HX0 := Lib.hid ((heap_alloc_old (w.alloc (.cells #[.slice so sn sc] 24)) (.cells #[.int .i64 3, .slice none 0 0, .int .i64 1, .int .i64 0, .int .i64 0, .bool false, .int .i64 0, .int .i64 0, .slice none 0 0, .slice none 0 0, .slice none 0 0, .slice none 0 0, .int .i64 0, .slice none 0 0] 54) (r := w.heap.size) (by simp)).trans (heap_alloc_new w _))
  have HY0 := Lib.hid (heap2 w (.cells #[.slice so sn sc] 24) (.cells #[.int .i64 3, .slice none 0 0, .int .i64 1, .int .i64 0, .int .i64 0, .bool false, .int .i64 0, .int .i64 0, .slice none 0 0, .slice none 0 0, .slice none 0 0, .slice none 0 0, .int .i64 0, .slice none 0 0] 54))
  have HV1 := Lib.hid (RdC.kept hv HB0.out)
  obtain ⟨W, hW⟩ : ∃ W : World, W = (w.alloc (.cells #[.slice so sn sc] 24)).alloc (.cells #[.int .i64 3, .slice none 0 0, .int .i64 1, .int .i64 0, .int .i64 0, .bool false, .int .i64 0, .int .i64 0, .slice none 0 0, .slice none 0 0, .slice none 0 0, .slice none 0 0, .int .i64 0, .slice none 0 0] 54) := ⟨_, rfl⟩
  rw [← hW] at HB0 HX0 HY0 HV1 ⊢
  obtain ⟨SB, hA⟩ : ∃ SB, SB = w.heap.size := ⟨_, rfl⟩
  rw [← hA] at HX0 HY0 ⊢
  obtain ⟨OB, hB⟩ : ∃ OB, OB = SB + 1 := ⟨_, rfl⟩
  rw [← hB] at HY0 ⊢
  have HAB := Lib.hid (show OB ≠ SB by omega)
  clear hW hA hB
  clear hv
  have hsb := HX0.out
  have cs0 : W.cell? ⟨SB, 0, none⟩ = some (.slice so sn sc) := by rw [cell_of_row W SB 0 _ _ _ hsb]; rfl
  go_wp2_with fail
  refine (schmOk_N n _ W HV1.out).mono ?_
  rintro e W3 ⟨rfl, hby⟩
  have hs3 := (hby.block SB (Array.getElem?_eq_some_iff.1 HX0.out).1).trans HX0.out
  have ho3 := (hby.block OB (Array.getElem?_eq_some_iff.1 HY0.out).1).trans HY0.out
  have HB3 := Lib.hid (below_then HB0.out hby)
  have HV3 := Lib.hid (RdC.kept HV1.out hby)
  clear hby cs0 hsb
  have co0 : W3.cell? ⟨OB, 0, none⟩ = some (.int .i64 3) := by rw [cell_of_row W3 OB 0 _ _ _ ho3]; rfl
  have co1 : W3.cell? ⟨OB, 1, none⟩ = some (.slice none 0 0) := by rw [cell_of_row W3 OB 1 _ _ _ ho3]; rfl
  have co2 : W3.cell? ⟨OB, 2, none⟩ = some (.int .i64 1) := by rw [cell_of_row W3 OB 2 _ _ _ ho3]; rfl
  have co3 : W3.cell? ⟨OB, 3, none⟩ = some (.int .i64 0) := by rw [cell_of_row W3 OB 3 _ _ _ ho3]; rfl
  have co4 : W3.cell? ⟨OB, 4, none⟩ = some (.int .i64 0) := by rw [cell_of_row W3 OB 4 _ _ _ ho3]; rfl
  have co5 : W3.cell? ⟨OB, 5, none⟩ = some (.bool false) := by rw [cell_of_row W3 OB 5 _ _ _ ho3]; rfl
  have co6 : W3.cell? ⟨OB, 6, none⟩ = some (.int .i64 0) := by rw [cell_of_row W3 OB 6 _ _ _ ho3]; rfl
  have co7 : W3.cell? ⟨OB, 7, none⟩ = some (.int .i64 0) := by rw [cell_of_row W3 OB 7 _ _ _ ho3]; rfl
  have co8 : W3.cell? ⟨OB, 8, none⟩ = some (.slice none 0 0) := by rw [cell_of_row W3 OB 8 _ _ _ ho3]; rfl
  have co9 : W3.cell? ⟨OB, 9, none⟩ = some (.slice none 0 0) := by rw [cell_of_row W3 OB 9 _ _ _ ho3]; rfl
  have co10 : W3.cell? ⟨OB, 10, none⟩ = some (.slice none 0 0) := by rw [cell_of_row W3 OB 10 _ _ _ ho3]; rfl
  have co11 : W3.cell? ⟨OB, 11, none⟩ = some (.slice none 0 0) := by rw [cell_of_row W3 OB 11 _ _ _ ho3]; rfl
  have co12 : W3.cell? ⟨OB, 12, none⟩ = some (.int .i64 0) := by rw [cell_of_row W3 OB 12 _ _ _ ho3]; rfl
  have co13 : W3.cell? ⟨OB, 13, none⟩ = some (.slice none 0 0) := by rw [cell_of_row W3 OB 13 _ _ _ ho3]; rfl
  have cz0 := Lib.cell?_alloc_some (W := W3) (.cells #[.int .i64 0, .slice none 0 0, .int .i64 0, .int .i64 0, .int .i64 0, .bool false, .int .i64 0, .int .i64 0, .slice none 0 0, .slice none 0 0, .slice none 0 0, .slice none 0 0, .int .i64 0, .slice none 0 0] 54) co0
  have cz1 := Lib.cell?_alloc_some (W := W3) (.cells #[.int .i64 0, .slice none 0 0, .int .i64 0, .int .i64 0, .int .i64 0, .bool false, .int .i64 0, .int .i64 0, .slice none 0 0, .slice none 0 0, .slice none 0 0, .slice none 0 0, .int .i64 0, .slice none 0 0] 54) co1
  have cz2 := Lib.cell?_alloc_some (W := W3) (.cells #[.int .i64 0, .slice none 0 0, .int .i64 0, .int .i64 0, .int .i64 0, .bool false, .int .i64 0, .int .i64 0, .slice none 0 0, .slice none 0 0, .slice none 0 0, .slice none 0 0, .int .i64 0, .slice none 0 0] 54) co2
  have cz3 := Lib.cell?_alloc_some (W := W3) (.cells #[.int .i64 0, .slice none 0 0, .int .i64 0, .int .i64 0, .int .i64 0, .bool false, .int .i64 0, .int .i64 0, .slice none 0 0, .slice none 0 0, .slice none 0 0, .slice none 0 0, .int .i64 0, .slice none 0 0] 54) co3
  have cz4 := Lib.cell?_alloc_some (W := W3) (.cells #[.int .i64 0, .slice none 0 0, .int .i64 0, .int .i64 0, .int .i64 0, .bool false, .int .i64 0, .int .i64 0, .slice none 0 0, .slice none 0 0, .slice none 0 0, .slice none 0 0, .int .i64 0, .slice none 0 0] 54) co4
  have cz5 := Lib.cell?_alloc_some (W := W3) (.cells #[.int .i64 0, .slice none 0 0, .int .i64 0, .int .i64 0, .int .i64 0, .bool false, .int .i64 0, .int .i64 0, .slice none 0 0, .slice none 0 0, .slice none 0 0, .slice none 0 0, .int .i64 0, .slice none 0 0] 54) co5
  have cz6 := Lib.cell?_alloc_some (W := W3) (.cells #[.int .i64 0, .slice none 0 0, .int .i64 0, .int .i64 0, .int .i64 0, .bool false, .int .i64 0, .int .i64 0, .slice none 0 0, .slice none 0 0, .slice none 0 0, .slice none 0 0, .int .i64 0, .slice none 0 0] 54) co6
  have cz7 := Lib.cell?_alloc_some (W := W3) (.cells #[.int .i64 0, .slice none 0 0, .int .i64 0, .int .i64 0, .int .i64 0, .bool false, .int .i64 0, .int .i64 0, .slice none 0 0, .slice none 0 0, .slice none 0 0, .slice none 0 0, .int .i64 0, .slice none 0 0] 54) co7
  have cz8 := Lib.cell?_alloc_some (W := W3) (.cells #[.int .i64 0, .slice none 0 0, .int .i64 0, .int .i64 0, .int .i64 0, .bool false, .int .i64 0, .int .i64 0, .slice none 0 0, .slice none 0 0, .slice none 0 0, .slice none 0 0, .int .i64 0, .slice none 0 0] 54) co8
  have cz9 := Lib.cell?_alloc_some (W := W3) (.cells #[.int .i64 0, .slice none 0 0, .int .i64 0, .int .i64 0, .int .i64 0, .bool false, .int .i64 0, .int .i64 0, .slice none 0 0, .slice none 0 0, .slice none 0 0, .slice none 0 0, .int .i64 0, .slice none 0 0] 54) co9
  have cz10 := Lib.cell?_alloc_some (W := W3) (.cells #[.int .i64 0, .slice none 0 0, .int .i64 0, .int .i64 0, .int .i64 0, .bool false, .int .i64 0, .int .i64 0, .slice none 0 0, .slice none 0 0, .slice none 0 0, .slice none 0 0, .int .i64 0, .slice none 0 0] 54) co10
  have cz11 := Lib.cell?_alloc_some (W := W3) (.cells #[.int .i64 0, .slice none 0 0, .int .i64 0, .int .i64 0, .int .i64 0, .bool false, .int .i64 0, .int .i64 0, .slice none 0 0, .slice none 0 0, .slice none 0 0, .slice none 0 0, .int .i64 0, .slice none 0 0] 54) co11
  have cz12 := Lib.cell?_alloc_some (W := W3) (.cells #[.int .i64 0, .slice none 0 0, .int .i64 0, .int .i64 0, .int .i64 0, .bool false, .int .i64 0, .int .i64 0, .slice none 0 0, .slice none 0 0, .slice none 0 0, .slice none 0 0, .int .i64 0, .slice none 0 0] 54) co12
  have cz13 := Lib.cell?_alloc_some (W := W3) (.cells #[.int .i64 0, .slice none 0 0, .int .i64 0, .int .i64 0, .int .i64 0, .bool false, .int .i64 0, .int .i64 0, .slice none 0 0, .slice none 0 0, .slice none 0 0, .slice none 0 0, .int .i64 0, .slice none 0 0] 54) co13
  go_upto_region 3 with (fail)
  go_region
  obtain ⟨W4, hW4⟩ : ∃ W4 : World, W4 = (W3.alloc (.cells #[.int .i64 3, .slice none 0 0, .int .i64 1, .int .i64 0, .int .i64 0, .bool false, .int .i64 0, .int .i64 0, .slice none 0 0, .slice none 0 0, .slice none 0 0, .slice none 0 0, .int .i64 0, .slice none 0 0] 54)).drew := ⟨_, rfl⟩
  rw [← hW4]
  have hby : Below W3.heap.size W3 W4 := by rw [hW4]; exact Below.trans (below_alloc W3 (.cells #[.int .i64 3, .slice none 0 0, .int .i64 1, .int .i64 0, .int .i64 0, .bool false, .int .i64 0, .int .i64 0, .slice none 0 0, .slice none 0 0, .slice none 0 0, .slice none 0 0, .int .i64 0, .slice none 0 0] 54)) ⟨rfl, rfl, rfl, Nat.le_refl _, fun _ _ => rfl⟩
  have hx4 : W4.heap[W3.heap.size]? = some (.cells #[.int .i64 3, .slice none 0 0, .int .i64 1, .int .i64 0, .int .i64 0, .bool false, .int .i64 0, .int .i64 0, .slice none 0 0, .slice none 0 0, .slice none 0 0, .slice none 0 0, .int .i64 0, .slice none 0 0] 54 (0, 0)) := by rw [hW4]; exact heap_alloc_new W3 _
  obtain ⟨XB, hXB⟩ : ∃ XB, XB = W3.heap.size := ⟨_, rfl⟩
  rw [← hXB] at hx4 ⊢
  have hs4 := (hby.block SB (Array.getElem?_eq_some_iff.1 hs3).1).trans hs3
  have ho4 := (hby.block OB (Array.getElem?_eq_some_iff.1 ho3).1).trans ho3
  have HB4 := Lib.hid (below_then HB3.out hby)
  have HV4 := Lib.hid (RdC.kept HV3.out hby)
  have HXW := Lib.hid (show w.heap.size ≤ XB by rw [hXB]; exact HB3.out.size)
  have HX4 := Lib.hid hx4
  clear hby hW4 hXB hs3 ho3 co0 co1 co2 co3 co4 co5 co6 co7 co8 co9 co10 co11 co12 co13 cz0 cz1 cz2 cz3 cz4 cz5 cz6 cz7 cz8 cz9 cz10 cz11 cz12 cz13
  have cs0 : W4.cell? ⟨SB, 0, none⟩ = some (.slice so sn sc) := by rw [cell_of_row W4 SB 0 _ _ _ hs4]; rfl
  have co0 : W4.cell? ⟨OB, 0, none⟩ = some (.int .i64 3) := by rw [cell_of_row W4 OB 0 _ _ _ ho4]; rfl
  have co1 : W4.cell? ⟨OB, 1, none⟩ = some (.slice none 0 0) := by rw [cell_of_row W4 OB 1 _ _ _ ho4]; rfl
  have co2 : W4.cell? ⟨OB, 2, none⟩ = some (.int .i64 1) := by rw [cell_of_row W4 OB 2 _ _ _ ho4]; rfl
  have co3 : W4.cell? ⟨OB, 3, none⟩ = some (.int .i64 0) := by rw [cell_of_row W4 OB 3 _ _ _ ho4]; rfl
  have co4 : W4.cell? ⟨OB, 4, none⟩ = some (.int .i64 0) := by rw [cell_of_row W4 OB 4 _ _ _ ho4]; rfl
  have co5 : W4.cell? ⟨OB, 5, none⟩ = some (.bool false) := by rw [cell_of_row W4 OB 5 _ _ _ ho4]; rfl
  have co6 : W4.cell? ⟨OB, 6, none⟩ = some (.int .i64 0) := by rw [cell_of_row W4 OB 6 _ _ _ ho4]; rfl
  have co7 : W4.cell? ⟨OB, 7, none⟩ = some (.int .i64 0) := by rw [cell_of_row W4 OB 7 _ _ _ ho4]; rfl
  have co8 : W4.cell? ⟨OB, 8, none⟩ = some (.slice none 0 0) := by rw [cell_of_row W4 OB 8 _ _ _ ho4]; rfl
  have co9 : W4.cell? ⟨OB, 9, none⟩ = some (.slice none 0 0) := by rw [cell_of_row W4 OB 9 _ _ _ ho4]; rfl
  have co10 : W4.cell? ⟨OB, 10, none⟩ = some (.slice none 0 0) := by rw [cell_of_row W4 OB 10 _ _ _ ho4]; rfl
  have co11 : W4.cell? ⟨OB, 11, none⟩ = some (.slice none 0 0) := by rw [cell_of_row W4 OB 11 _ _ _ ho4]; rfl
  have co12 : W4.cell? ⟨OB, 12, none⟩ = some (.int .i64 0) := by rw [cell_of_row W4 OB 12 _ _ _ ho4]; rfl
  have co13 : W4.cell? ⟨OB, 13, none⟩ = some (.slice none 0 0) := by rw [cell_of_row W4 OB 13 _ _ _ ho4]; rfl
  clear hx4 hs4 ho4
  go_wp2_with fail
  refine (predOk_any (colsN n) (.slice so sn sc) [.int .i64 1, .int .i64 0, .int .i64 0, .bool false, .int .i64 0, .int .i64 0, .slice none 0 0, .slice none 0 0] trT W4 HV4.out (by unfold trT RdT1; exact ⟨_, _, [], rfl, ⟨Rd.nil W4, fun x h => by cases h⟩, RdS.nil W4 8, by unfold RdTs; trivial⟩) (by unfold trT; simp [nodesT, nodesL])).mono ?_
  rintro e W5 ⟨rfl, hby⟩
  have hx5 := (hby.block XB (Array.getElem?_eq_some_iff.1 HX4.out).1).trans HX4.out
  have HB5 := Lib.hid (below_then HB4.out hby)
  clear hby cs0 co0 co1 co2 co3 co4 co5 co6 co7 co8 co9 co10 co11 co12 co13
  have cx0 : W5.cell? ⟨XB, 0, none⟩ = some (.int .i64 3) := by rw [cell_of_row W5 XB 0 _ _ _ hx5]; rfl
  have cxf0 : W5.frozen? ⟨XB, 0, none⟩ = false := frozen_of_row W5 XB 0 _ _ hx5
  have cx1 : W5.cell? ⟨XB, 1, none⟩ = some (.slice none 0 0) := by rw [cell_of_row W5 XB 1 _ _ _ hx5]; rfl
  have cxf1 : W5.frozen? ⟨XB, 1, none⟩ = false := frozen_of_row W5 XB 1 _ _ hx5
  have cx2 : W5.cell? ⟨XB, 2, none⟩ = some (.int .i64 1) := by rw [cell_of_row W5 XB 2 _ _ _ hx5]; rfl
  have cxf2 : W5.frozen? ⟨XB, 2, none⟩ = false := frozen_of_row W5 XB 2 _ _ hx5
  have cx3 : W5.cell? ⟨XB, 3, none⟩ = some (.int .i64 0) := by rw [cell_of_row W5 XB 3 _ _ _ hx5]; rfl
  have cxf3 : W5.frozen? ⟨XB, 3, none⟩ = false := frozen_of_row W5 XB 3 _ _ hx5
  have cx4 : W5.cell? ⟨XB, 4, none⟩ = some (.int .i64 0) := by rw [cell_of_row W5 XB 4 _ _ _ hx5]; rfl
  have cxf4 : W5.frozen? ⟨XB, 4, none⟩ = false := frozen_of_row W5 XB 4 _ _ hx5
  have cx5 : W5.cell? ⟨XB, 5, none⟩ = some (.bool false) := by rw [cell_of_row W5 XB 5 _ _ _ hx5]; rfl
  have cxf5 : W5.frozen? ⟨XB, 5, none⟩ = false := frozen_of_row W5 XB 5 _ _ hx5
  have cx6 : W5.cell? ⟨XB, 6, none⟩ = some (.int .i64 0) := by rw [cell_of_row W5 XB 6 _ _ _ hx5]; rfl
  have cxf6 : W5.frozen? ⟨XB, 6, none⟩ = false := frozen_of_row W5 XB 6 _ _ hx5
  have cx7 : W5.cell? ⟨XB, 7, none⟩ = some (.int .i64 0) := by rw [cell_of_row W5 XB 7 _ _ _ hx5]; rfl
  have cxf7 : W5.frozen? ⟨XB, 7, none⟩ = false := frozen_of_row W5 XB 7 _ _ hx5
  have cx8 : W5.cell? ⟨XB, 8, none⟩ = some (.slice none 0 0) := by rw [cell_of_row W5 XB 8 _ _ _ hx5]; rfl
  have cxf8 : W5.frozen? ⟨XB, 8, none⟩ = false := frozen_of_row W5 XB 8 _ _ hx5
  have cx9 : W5.cell? ⟨XB, 9, none⟩ = some (.slice none 0 0) := by rw [cell_of_row W5 XB 9 _ _ _ hx5]; rfl
  have cxf9 : W5.frozen? ⟨XB, 9, none⟩ = false := frozen_of_row W5 XB 9 _ _ hx5
  have cx10 : W5.cell? ⟨XB, 10, none⟩ = some (.slice none 0 0) := by rw [cell_of_row W5 XB 10 _ _ _ hx5]; rfl
  have cxf10 : W5.frozen? ⟨XB, 10, none⟩ = false := frozen_of_row W5 XB 10 _ _ hx5
  have cx11 : W5.cell? ⟨XB, 11, none⟩ = some (.slice none 0 0) := by rw [cell_of_row W5 XB 11 _ _ _ hx5]; rfl
  have cxf11 : W5.frozen? ⟨XB, 11, none⟩ = false := frozen_of_row W5 XB 11 _ _ hx5
  have cx12 : W5.cell? ⟨XB, 12, none⟩ = some (.int .i64 0) := by rw [cell_of_row W5 XB 12 _ _ _ hx5]; rfl
  have cxf12 : W5.frozen? ⟨XB, 12, none⟩ = false := frozen_of_row W5 XB 12 _ _ hx5
  have cx13 : W5.cell? ⟨XB, 13, none⟩ = some (.slice none 0 0) := by rw [cell_of_row W5 XB 13 _ _ _ hx5]; rfl
  have cxf13 : W5.frozen? ⟨XB, 13, none⟩ = false := frozen_of_row W5 XB 13 _ _ hx5
  clear hx5
  rw [predOk_tr]
  go_wp2_with fail
  refine (isEmpty_any _).mono ?_
  rintro e W6 ⟨rfl, hby⟩
  have HF := Lib.hid (below_then (a := w) (by repeat (first | (with_reducible exact HB5.out) | (with_reducible refine Below.setCell ?_ HXW.out _))) hby)
  clear hby
  go_wp2_with fail
  go_ret
  exact ⟨rfl, HF.out⟩
set_option maxRecDepth 100000 in
set_option maxHeartbeats 8000000 in
theorem op_bad (n : Int) (sv : Value) (w : World) (hv : RdC w sv (colsN n)) :
    Calls Try.prog 71 #[.agg #[sv], .agg #[.int .i64 99, .slice none 0 0, .int .i64 1, .int .i64 0, .int .i64 0, .bool false, .int .i64 0, .int .i64 0, .slice none 0 0, .slice none 0 0, .slice none 0 0, .slice none 0 0, .int .i64 0, .slice none 0 0]] w fun e w' => e = .returned (.bool false) ∧ Below w.heap.size w w' := by
  obtain ⟨so, sc, rfl⟩ := rdC_shape hv
  obtain ⟨sn, hsn⟩ : ∃ sn, sn = (colsN n).length := ⟨_, rfl⟩
  rw [← hsn] at hv ⊢
  clear hsn
  have HV := Lib.hid hv
  go_enter Try.func71, Try.ntmps71
  go_upto_region 1 with (fail)
  have HB0 := Lib.hid (below2 w (.cells #[.slice so sn sc] 24) (.cells #[.int .i64 99, .slice none 0 0, .int .i64 1, .int .i64 0, .int .i64 0, .bool false, .int .i64 0, .int .i64 0, .slice none 0 0, .slice none 0 0, .slice none 0 0, .slice none 0 0, .int .i64 0, .slice none 0 0] 54))
  have HX0 := Lib.hid ((heap_alloc_old (w.alloc (.cells #[.slice so sn sc] 24)) (.cells #[.int .i64 99, .slice none 0 0, .int .i64 1, .int .i64 0, .int .i64 0, .bool false, .int .i64 0, .int .i64 0, .slice none 0 0, .slice none 0 0, .slice none 0 0, .slice none 0 0, .int .i64 0, .slice none 0 0] 54) (r := w.heap.size) (by simp)).trans (heap_alloc_new w _))
  have HY0 := Lib.hid (heap2 w (.cells #[.slice so sn sc] 24) (.cells #[.int .i64 99, .slice none 0 0, .int .i64 1, .int .i64 0, .int .i64 0, .bool false, .int .i64 0, .int .i64 0, .slice none 0 0, .slice none 0 0, .slice none 0 0, .slice none 0 0, .int .i64 0, .slice none 0 0] 54))
  have HV1 := Lib.hid (RdC.kept hv HB0.out)
  obtain ⟨W, hW⟩ : ∃ W : World, W = (w.alloc (.cells #[.slice so sn sc] 24)).alloc (.cells #[.int .i64 99, .slice none 0 0, .int .i64 1, .int .i64 0, .int .i64 0, .bool false, .int .i64 0, .int .i64 0, .slice none 0 0, .slice none 0 0, .slice none 0 0, .slice none 0 0, .int .i64 0, .slice none 0 0] 54) := ⟨_, rfl⟩
  rw [← hW] at HB0 HX0 HY0 HV1 ⊢
  obtain ⟨SB, hA⟩ : ∃ SB, SB = w.heap.size := ⟨_, rfl⟩
  rw [← hA] at HX0 HY0 ⊢
  obtain ⟨OB, hB⟩ : ∃ OB, OB = SB + 1 := ⟨_, rfl⟩
  rw [← hB] at HY0 ⊢
  have HAB := Lib.hid (show OB ≠ SB by omega)
  clear hW hA hB
  clear hv
  have hsb := HX0.out
  have cs0 : W.cell? ⟨SB, 0, none⟩ = some (.slice so sn sc) := by rw [cell_of_row W SB 0 _ _ _ hsb]; rfl
  go_wp2_with fail
  refine (schmOk_N n _ W HV1.out).mono ?_
  rintro e W3 ⟨rfl, hby⟩
  have hs3 := (hby.block SB (Array.getElem?_eq_some_iff.1 HX0.out).1).trans HX0.out
  have ho3 := (hby.block OB (Array.getElem?_eq_some_iff.1 HY0.out).1).trans HY0.out
  have HB3 := Lib.hid (below_then HB0.out hby)
  have HV3 := Lib.hid (RdC.kept HV1.out hby)
  clear hby cs0 hsb
  have co0 : W3.cell? ⟨OB, 0, none⟩ = some (.int .i64 99) := by rw [cell_of_row W3 OB 0 _ _ _ ho3]; rfl
  have co1 : W3.cell? ⟨OB, 1, none⟩ = some (.slice none 0 0) := by rw [cell_of_row W3 OB 1 _ _ _ ho3]; rfl
  have co2 : W3.cell? ⟨OB, 2, none⟩ = some (.int .i64 1) := by rw [cell_of_row W3 OB 2 _ _ _ ho3]; rfl
  have co3 : W3.cell? ⟨OB, 3, none⟩ = some (.int .i64 0) := by rw [cell_of_row W3 OB 3 _ _ _ ho3]; rfl
  have co4 : W3.cell? ⟨OB, 4, none⟩ = some (.int .i64 0) := by rw [cell_of_row W3 OB 4 _ _ _ ho3]; rfl
  have co5 : W3.cell? ⟨OB, 5, none⟩ = some (.bool false) := by rw [cell_of_row W3 OB 5 _ _ _ ho3]; rfl
  have co6 : W3.cell? ⟨OB, 6, none⟩ = some (.int .i64 0) := by rw [cell_of_row W3 OB 6 _ _ _ ho3]; rfl
  have co7 : W3.cell? ⟨OB, 7, none⟩ = some (.int .i64 0) := by rw [cell_of_row W3 OB 7 _ _ _ ho3]; rfl
  have co8 : W3.cell? ⟨OB, 8, none⟩ = some (.slice none 0 0) := by rw [cell_of_row W3 OB 8 _ _ _ ho3]; rfl
  have co9 : W3.cell? ⟨OB, 9, none⟩ = some (.slice none 0 0) := by rw [cell_of_row W3 OB 9 _ _ _ ho3]; rfl
  have co10 : W3.cell? ⟨OB, 10, none⟩ = some (.slice none 0 0) := by rw [cell_of_row W3 OB 10 _ _ _ ho3]; rfl
  have co11 : W3.cell? ⟨OB, 11, none⟩ = some (.slice none 0 0) := by rw [cell_of_row W3 OB 11 _ _ _ ho3]; rfl
  have co12 : W3.cell? ⟨OB, 12, none⟩ = some (.int .i64 0) := by rw [cell_of_row W3 OB 12 _ _ _ ho3]; rfl
  have co13 : W3.cell? ⟨OB, 13, none⟩ = some (.slice none 0 0) := by rw [cell_of_row W3 OB 13 _ _ _ ho3]; rfl
  have cz0 := Lib.cell?_alloc_some (W := W3) (.cells #[.int .i64 0, .slice none 0 0, .int .i64 0, .int .i64 0, .int .i64 0, .bool false, .int .i64 0, .int .i64 0, .slice none 0 0, .slice none 0 0, .slice none 0 0, .slice none 0 0, .int .i64 0, .slice none 0 0] 54) co0
  have cz1 := Lib.cell?_alloc_some (W := W3) (.cells #[.int .i64 0, .slice none 0 0, .int .i64 0, .int .i64 0, .int .i64 0, .bool false, .int .i64 0, .int .i64 0, .slice none 0 0, .slice none 0 0, .slice none 0 0, .slice none 0 0, .int .i64 0, .slice none 0 0] 54) co1
  have cz2 := Lib.cell?_alloc_some (W := W3) (.cells #[.int .i64 0, .slice none 0 0, .int .i64 0, .int .i64 0, .int .i64 0, .bool false, .int .i64 0, .int .i64 0, .slice none 0 0, .slice none 0 0, .slice none 0 0, .slice none 0 0, .int .i64 0, .slice none 0 0] 54) co2
  have cz3 := Lib.cell?_alloc_some (W := W3) (.cells #[.int .i64 0, .slice none 0 0, .int .i64 0, .int .i64 0, .int .i64 0, .bool false, .int .i64 0, .int .i64 0, .slice none 0 0, .slice none 0 0, .slice none 0 0, .slice none 0 0, .int .i64 0, .slice none 0 0] 54) co3
  have cz4 := Lib.cell?_alloc_some (W := W3) (.cells #[.int .i64 0, .slice none 0 0, .int .i64 0, .int .i64 0, .int .i64 0, .bool false, .int .i64 0, .int .i64 0, .slice none 0 0, .slice none 0 0, .slice none 0 0, .slice none 0 0, .int .i64 0, .slice none 0 0] 54) co4
  have cz5 := Lib.cell?_alloc_some (W := W3) (.cells #[.int .i64 0, .slice none 0 0, .int .i64 0, .int .i64 0, .int .i64 0, .bool false, .int .i64 0, .int .i64 0, .slice none 0 0, .slice none 0 0, .slice none 0 0, .slice none 0 0, .int .i64 0, .slice none 0 0] 54) co5
  have cz6 := Lib.cell?_alloc_some (W := W3) (.cells #[.int .i64 0, .slice none 0 0, .int .i64 0, .int .i64 0, .int .i64 0, .bool false, .int .i64 0, .int .i64 0, .slice none 0 0, .slice none 0 0, .slice none 0 0, .slice none 0 0, .int .i64 0, .slice none 0 0] 54) co6
  have cz7 := Lib.cell?_alloc_some (W := W3) (.cells #[.int .i64 0, .slice none 0 0, .int .i64 0, .int .i64 0, .int .i64 0, .bool false, .int .i64 0, .int .i64 0, .slice none 0 0, .slice none 0 0, .slice none 0 0, .slice none 0 0, .int .i64 0, .slice none 0 0] 54) co7
  have cz8 := Lib.cell?_alloc_some (W := W3) (.cells #[.int .i64 0, .slice none 0 0, .int .i64 0, .int .i64 0, .int .i64 0, .bool false, .int .i64 0, .int .i64 0, .slice none 0 0, .slice none 0 0, .slice none 0 0, .slice none 0 0, .int .i64 0, .slice none 0 0] 54) co8
  have cz9 := Lib.cell?_alloc_some (W := W3) (.cells #[.int .i64 0, .slice none 0 0, .int .i64 0, .int .i64 0, .int .i64 0, .bool false, .int .i64 0, .int .i64 0, .slice none 0 0, .slice none 0 0, .slice none 0 0, .slice none 0 0, .int .i64 0, .slice none 0 0] 54) co9
  have cz10 := Lib.cell?_alloc_some (W := W3) (.cells #[.int .i64 0, .slice none 0 0, .int .i64 0, .int .i64 0, .int .i64 0, .bool false, .int .i64 0, .int .i64 0, .slice none 0 0, .slice none 0 0, .slice none 0 0, .slice none 0 0, .int .i64 0, .slice none 0 0] 54) co10
  have cz11 := Lib.cell?_alloc_some (W := W3) (.cells #[.int .i64 0, .slice none 0 0, .int .i64 0, .int .i64 0, .int .i64 0, .bool false, .int .i64 0, .int .i64 0, .slice none 0 0, .slice none 0 0, .slice none 0 0, .slice none 0 0, .int .i64 0, .slice none 0 0] 54) co11
  have cz12 := Lib.cell?_alloc_some (W := W3) (.cells #[.int .i64 0, .slice none 0 0, .int .i64 0, .int .i64 0, .int .i64 0, .bool false, .int .i64 0, .int .i64 0, .slice none 0 0, .slice none 0 0, .slice none 0 0, .slice none 0 0, .int .i64 0, .slice none 0 0] 54) co12
  have cz13 := Lib.cell?_alloc_some (W := W3) (.cells #[.int .i64 0, .slice none 0 0, .int .i64 0, .int .i64 0, .int .i64 0, .bool false, .int .i64 0, .int .i64 0, .slice none 0 0, .slice none 0 0, .slice none 0 0, .slice none 0 0, .int .i64 0, .slice none 0 0] 54) co13
  go_upto_region 3 with (fail)
  go_region
  obtain ⟨W4, hW4⟩ : ∃ W4 : World, W4 = (W3.alloc (.cells #[.int .i64 99, .slice none 0 0, .int .i64 1, .int .i64 0, .int .i64 0, .bool false, .int .i64 0, .int .i64 0, .slice none 0 0, .slice none 0 0, .slice none 0 0, .slice none 0 0, .int .i64 0, .slice none 0 0] 54)).drew := ⟨_, rfl⟩
  rw [← hW4]
  have hby : Below W3.heap.size W3 W4 := by rw [hW4]; exact Below.trans (below_alloc W3 (.cells #[.int .i64 99, .slice none 0 0, .int .i64 1, .int .i64 0, .int .i64 0, .bool false, .int .i64 0, .int .i64 0, .slice none 0 0, .slice none 0 0, .slice none 0 0, .slice none 0 0, .int .i64 0, .slice none 0 0] 54)) ⟨rfl, rfl, rfl, Nat.le_refl _, fun _ _ => rfl⟩
  have hx4 : W4.heap[W3.heap.size]? = some (.cells #[.int .i64 99, .slice none 0 0, .int .i64 1, .int .i64 0, .int .i64 0, .bool false, .int .i64 0, .int .i64 0, .slice none 0 0, .slice none 0 0, .slice none 0 0, .slice none 0 0, .int .i64 0, .slice none 0 0] 54 (0, 0)) := by rw [hW4]; exact heap_alloc_new W3 _
  obtain ⟨XB, hXB⟩ : ∃ XB, XB = W3.heap.size := ⟨_, rfl⟩
  rw [← hXB] at hx4 ⊢
  have hs4 := (hby.block SB (Array.getElem?_eq_some_iff.1 hs3).1).trans hs3
  have ho4 := (hby.block OB (Array.getElem?_eq_some_iff.1 ho3).1).trans ho3
  have HB4 := Lib.hid (below_then HB3.out hby)
  have HV4 := Lib.hid (RdC.kept HV3.out hby)
  have HXW := Lib.hid (show w.heap.size ≤ XB by rw [hXB]; exact HB3.out.size)
  have HX4 := Lib.hid hx4
  clear hby hW4 hXB hs3 ho3 co0 co1 co2 co3 co4 co5 co6 co7 co8 co9 co10 co11 co12 co13 cz0 cz1 cz2 cz3 cz4 cz5 cz6 cz7 cz8 cz9 cz10 cz11 cz12 cz13
  have cs0 : W4.cell? ⟨SB, 0, none⟩ = some (.slice so sn sc) := by rw [cell_of_row W4 SB 0 _ _ _ hs4]; rfl
  have co0 : W4.cell? ⟨OB, 0, none⟩ = some (.int .i64 99) := by rw [cell_of_row W4 OB 0 _ _ _ ho4]; rfl
  have co1 : W4.cell? ⟨OB, 1, none⟩ = some (.slice none 0 0) := by rw [cell_of_row W4 OB 1 _ _ _ ho4]; rfl
  have co2 : W4.cell? ⟨OB, 2, none⟩ = some (.int .i64 1) := by rw [cell_of_row W4 OB 2 _ _ _ ho4]; rfl
  have co3 : W4.cell? ⟨OB, 3, none⟩ = some (.int .i64 0) := by rw [cell_of_row W4 OB 3 _ _ _ ho4]; rfl
  have co4 : W4.cell? ⟨OB, 4, none⟩ = some (.int .i64 0) := by rw [cell_of_row W4 OB 4 _ _ _ ho4]; rfl
  have co5 : W4.cell? ⟨OB, 5, none⟩ = some (.bool false) := by rw [cell_of_row W4 OB 5 _ _ _ ho4]; rfl
  have co6 : W4.cell? ⟨OB, 6, none⟩ = some (.int .i64 0) := by rw [cell_of_row W4 OB 6 _ _ _ ho4]; rfl
  have co7 : W4.cell? ⟨OB, 7, none⟩ = some (.int .i64 0) := by rw [cell_of_row W4 OB 7 _ _ _ ho4]; rfl
  have co8 : W4.cell? ⟨OB, 8, none⟩ = some (.slice none 0 0) := by rw [cell_of_row W4 OB 8 _ _ _ ho4]; rfl
  have co9 : W4.cell? ⟨OB, 9, none⟩ = some (.slice none 0 0) := by rw [cell_of_row W4 OB 9 _ _ _ ho4]; rfl
  have co10 : W4.cell? ⟨OB, 10, none⟩ = some (.slice none 0 0) := by rw [cell_of_row W4 OB 10 _ _ _ ho4]; rfl
  have co11 : W4.cell? ⟨OB, 11, none⟩ = some (.slice none 0 0) := by rw [cell_of_row W4 OB 11 _ _ _ ho4]; rfl
  have co12 : W4.cell? ⟨OB, 12, none⟩ = some (.int .i64 0) := by rw [cell_of_row W4 OB 12 _ _ _ ho4]; rfl
  have co13 : W4.cell? ⟨OB, 13, none⟩ = some (.slice none 0 0) := by rw [cell_of_row W4 OB 13 _ _ _ ho4]; rfl
  go_wp2_with fail
  go_ret
  exact ⟨rfl, HB4.out⟩

end Go.Proofs.Ytfmkalnnpddefaa
