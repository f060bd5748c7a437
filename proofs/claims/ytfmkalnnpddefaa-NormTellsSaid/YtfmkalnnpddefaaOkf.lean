/-
  Contract of the reference's right of the law's predicates.
-/
import Derived.Test.YtfmkalnnpddefaaOke
namespace Go.Proofs.Ytfmkalnnpddefaa
set_option linter.unusedVariables false
set_option linter.unusedSimpArgs false
open Go.RowKit

set_option maxRecDepth 100000 in
set_option maxHeartbeats 8000000 in
theorem right_T (cols : List Co) : RightOK cols (.mk 1 0 0 zeroV []) := by
  intro cs sv w hv hr
  obtain ⟨sa, sc, rfl⟩ := rdC_shape hv
  unfold RdT1 at hr
  obtain ⟨s, ls, css, rfl, hok, hls, hts⟩ := hr
  obtain ⟨va, vc, hes⟩ := rd_shape8 hok.1
  obtain ⟨ea, ec, hel⟩ := rdS_shape hls
  simp only at hes
  subst hes hel
  have hcl := rdTs_len hts
  have hcl0 : css.length = 0 := hcl
  obtain ⟨sn, hsn⟩ : ∃ sn, sn = cols.length := ⟨_, rfl⟩
  rw [hcl0, ← hsn]
  clear hcl hcl0 hls hts hok hv hsn
  unfold cellsP
  simp only [zeroV, List.length_nil]
  have HB0 := Lib.hid (below2 w (.cells #[.slice sa sn sc] 24) (.cells #[.int .i64 1, .int .i64 0, .int .i64 0, .bool false, .int .i64 0, .int .i64 0, .slice va 0 vc, .slice ea 0 ec] 31))
  have HX0 := Lib.hid ((heap_alloc_old (w.alloc (.cells #[.slice sa sn sc] 24)) (.cells #[.int .i64 1, .int .i64 0, .int .i64 0, .bool false, .int .i64 0, .int .i64 0, .slice va 0 vc, .slice ea 0 ec] 31) (r := w.heap.size) (by simp)).trans (heap_alloc_new w _))
  have HY0 := Lib.hid (heap2 w (.cells #[.slice sa sn sc] 24) (.cells #[.int .i64 1, .int .i64 0, .int .i64 0, .bool false, .int .i64 0, .int .i64 0, .slice va 0 vc, .slice ea 0 ec] 31))
  go_enter Try.func67, Try.ntmps67
  go_upto_region 1 with (fail)
  obtain ⟨W, hW⟩ : ∃ W : World, W = (w.alloc (.cells #[.slice sa sn sc] 24)).alloc (.cells #[.int .i64 1, .int .i64 0, .int .i64 0, .bool false, .int .i64 0, .int .i64 0, .slice va 0 vc, .slice ea 0 ec] 31) := ⟨_, rfl⟩
  rw [← hW] at HB0 HX0 HY0 ⊢
  obtain ⟨SB, hSB⟩ : ∃ SB, SB = w.heap.size := ⟨_, rfl⟩
  rw [← hSB] at HX0 HY0 ⊢
  obtain ⟨PB, hPB⟩ : ∃ PB, PB = SB + 1 := ⟨_, rfl⟩
  rw [← hPB] at HY0 ⊢
  have HPS := Lib.hid (show PB ≠ SB by omega)
  clear hW hSB hPB
  have cpS := HX0.out
  have cpP := HY0.out
  have cs0 : W.cell? ⟨SB, 0, none⟩ = some (.slice sa sn sc) := by rw [cell_of_row W SB 0 _ _ _ cpS]; rfl
  have cp0 : W.cell? ⟨PB, 0, none⟩ = some (.int .i64 1) := by rw [cell_of_row W PB 0 _ _ _ cpP]; rfl
  have cp1 : W.cell? ⟨PB, 1, none⟩ = some (.int .i64 0) := by rw [cell_of_row W PB 1 _ _ _ cpP]; rfl
  have cp2 : W.cell? ⟨PB, 2, none⟩ = some (.int .i64 0) := by rw [cell_of_row W PB 2 _ _ _ cpP]; rfl
  have cp3 : W.cell? ⟨PB, 3, none⟩ = some (.bool false) := by rw [cell_of_row W PB 3 _ _ _ cpP]; rfl
  have cp4 : W.cell? ⟨PB, 4, none⟩ = some (.int .i64 0) := by rw [cell_of_row W PB 4 _ _ _ cpP]; rfl
  have cp5 : W.cell? ⟨PB, 5, none⟩ = some (.int .i64 0) := by rw [cell_of_row W PB 5 _ _ _ cpP]; rfl
  have cp6 : W.cell? ⟨PB, 6, none⟩ = some (.slice va 0 vc) := by rw [cell_of_row W PB 6 _ _ _ cpP]; rfl
  have cp7 : W.cell? ⟨PB, 7, none⟩ = some (.slice ea 0 ec) := by rw [cell_of_row W PB 7 _ _ _ cpP]; rfl
  clear cpS cpP
  go_wp2_with fail
  refine (zero_zero va vc W).mono ?_
  rintro e W2 ⟨rfl, hb2⟩
  have HX1 := Lib.hid ((hb2.block SB (Array.getElem?_eq_some_iff.1 HX0.out).1).trans HX0.out)
  have HY1 := Lib.hid ((hb2.block PB (Array.getElem?_eq_some_iff.1 HY0.out).1).trans HY0.out)
  have HB1 := Lib.hid (below_then HB0.out hb2)
  clear hb2
  clear cs0 cp0 cp1 cp2 cp3 cp4 cp5 cp6 cp7
  have cpS := HX1.out
  have cpP := HY1.out
  have cs0 : W2.cell? ⟨SB, 0, none⟩ = some (.slice sa sn sc) := by rw [cell_of_row W2 SB 0 _ _ _ cpS]; rfl
  have cp0 : W2.cell? ⟨PB, 0, none⟩ = some (.int .i64 1) := by rw [cell_of_row W2 PB 0 _ _ _ cpP]; rfl
  have cp1 : W2.cell? ⟨PB, 1, none⟩ = some (.int .i64 0) := by rw [cell_of_row W2 PB 1 _ _ _ cpP]; rfl
  have cp2 : W2.cell? ⟨PB, 2, none⟩ = some (.int .i64 0) := by rw [cell_of_row W2 PB 2 _ _ _ cpP]; rfl
  have cp3 : W2.cell? ⟨PB, 3, none⟩ = some (.bool false) := by rw [cell_of_row W2 PB 3 _ _ _ cpP]; rfl
  have cp4 : W2.cell? ⟨PB, 4, none⟩ = some (.int .i64 0) := by rw [cell_of_row W2 PB 4 _ _ _ cpP]; rfl
  have cp5 : W2.cell? ⟨PB, 5, none⟩ = some (.int .i64 0) := by rw [cell_of_row W2 PB 5 _ _ _ cpP]; rfl
  have cp6 : W2.cell? ⟨PB, 6, none⟩ = some (.slice va 0 vc) := by rw [cell_of_row W2 PB 6 _ _ _ cpP]; rfl
  have cp7 : W2.cell? ⟨PB, 7, none⟩ = some (.slice ea 0 ec) := by rw [cell_of_row W2 PB 7 _ _ _ cpP]; rfl
  clear cpS cpP
  go_wp2_with fail
  go_ret
  exact ⟨_, rfl, HB1.out⟩

theorem leafOf_right {cols : List Co} (h : ColsOk cols) (n k : Int) : RightOK cols (leafOf cols n k) := by
  have hl := colOf_lt cols h.ne n
  have hc : cols[colOf cols n]? = some cols[colOf cols n] := List.getElem?_eq_getElem hl
  unfold leafOf
  split
  · exact right_T cols
  · split
    · exact right_B cols (colOf cols n) hl
    · exact right_A cols (colOf cols n) _ hc (h.ks _ (List.mem_of_getElem? hc)) _ (by omega) (by omega) _ (cmpV_nn _ _) (cmpV_k h n hc)
/-- right answers something of every predicate of the law's. -/
theorem predOf_right {cols : List Co} (h : ColsOk cols) (l : List Int) : ∀ (d at_ : Nat), RightOK cols (predOf cols l d at_)
  | 0, at_ => by unfold predOf; exact leafOf_right h _ _
  | d + 1, at_ => by
    unfold predOf
    split
    · rename_i hk
      refine right_list cols _ (by omega) _ (fun q hq => ?_) (by rw [List.length_map, List.length_range]; omega)
      obtain ⟨i, _, rfl⟩ := List.mem_map.1 hq
      exact predOf_right h l d _
    · split
      · exact right_list cols 6 (.inr (.inr rfl)) _ (fun q hq => by rw [List.mem_singleton.1 hq]; exact predOf_right h l d _) (by simp)
      · exact leafOf_right h _ _

end Go.Proofs.Ytfmkalnnpddefaa
