/-
  Contract of pred's shapeOk.
-/
import Derived.Test.YtfmkalnnpddefaaPokb
namespace Go.Proofs.Ytfmkalnnpddefaa
set_option linter.unusedVariables false
set_option linter.unusedSimpArgs false
open Go.RowKit


theorem lenZ (m : Nat) : ((m : Int) == 0) = (m == 0) := by rw [Bool.eq_iff_iff, beq_iff_eq, beq_iff_eq]; omega
theorem lenO (m : Nat) : ((m : Int) == 1) = (m == 1) := by rw [Bool.eq_iff_iff, beq_iff_eq, beq_iff_eq]; omega
theorem lenE (m : Nat) : decide ((m : Int) ≤ 8) = decide (m ≤ 8) := by rw [decide_eq_decide]; omega

set_option maxRecDepth 100000 in
set_option maxHeartbeats 8000000 in
theorem shapeOk_any (cols : List Co) (sv : Value) (k c o : Int) (v : Vc) (s : Value) (ea : Option Addr) (m ec : Nat) (w : World) (hv : RdC w sv cols) (hok : OkV w (v, s)) :
    Calls Try.prog 100 #[.agg #[sv], aggP k c o v s (.slice ea m ec)] w fun e w' => e = .returned (.bool (shapeB cols k c o v m)) ∧ Below w.heap.size w w' := by
  obtain ⟨sa, sc, rfl⟩ := rdC_shape hv
  obtain ⟨va, vc, hes⟩ := rd_shape8 hok.1
  simp only at hes
  subst hes
  have HOK := Lib.hid hok
  obtain ⟨vu, vk, vn, vb⟩ := v
  obtain ⟨sn, hsn⟩ : ∃ sn, sn = cols.length := ⟨_, rfl⟩
  obtain ⟨vl, hvl⟩ : ∃ vl, vl = vb.length := ⟨_, rfl⟩
  unfold aggP
  simp only at HOK ⊢
  rw [← hsn] at hv ⊢
  rw [← hvl] at HOK ⊢
  have HV := Lib.hid hv
  have HSN := Lib.hid hsn
  clear hok hv hsn hvl
  rcases (by omega : k = 1 ∨ k = 2 ∨ k = 3 ∨ k = 4 ∨ k = 5 ∨ k = 6 ∨ (k ≠ 1 ∧ k ≠ 2 ∧ k ≠ 3 ∧ k ≠ 4 ∧ k ≠ 5 ∧ k ≠ 6)) with rfl | rfl | rfl | rfl | rfl | rfl | ⟨h1, h2, h3, h4, h5, h6⟩
  · have HB0 := Lib.hid (below2 w (.cells #[.slice sa sn sc] 24) (.cells #[.int .i64 1, .int .i64 c, .int .i64 o, .bool vu, .int .i64 vk, .int .i64 vn, .slice va vl vc, .slice ea m ec] 31))
    have HX0 := Lib.hid ((heap_alloc_old (w.alloc (.cells #[.slice sa sn sc] 24)) (.cells #[.int .i64 1, .int .i64 c, .int .i64 o, .bool vu, .int .i64 vk, .int .i64 vn, .slice va vl vc, .slice ea m ec] 31) (r := w.heap.size) (by simp)).trans (heap_alloc_new w _))
    have HY0 := Lib.hid (heap2 w (.cells #[.slice sa sn sc] 24) (.cells #[.int .i64 1, .int .i64 c, .int .i64 o, .bool vu, .int .i64 vk, .int .i64 vn, .slice va vl vc, .slice ea m ec] 31))
    go_enter Try.func100, Try.ntmps100
    go_upto_region 1 with (fail)
    obtain ⟨W, hW⟩ : ∃ W : World, W = (w.alloc (.cells #[.slice sa sn sc] 24)).alloc (.cells #[.int .i64 1, .int .i64 c, .int .i64 o, .bool vu, .int .i64 vk, .int .i64 vn, .slice va vl vc, .slice ea m ec] 31) := ⟨_, rfl⟩
    rw [← hW] at HB0 HX0 HY0 ⊢
    obtain ⟨SB, hA⟩ : ∃ SB, SB = w.heap.size := ⟨_, rfl⟩
    rw [← hA] at HX0 HY0 ⊢
    obtain ⟨PB, hB⟩ : ∃ PB, PB = SB + 1 := ⟨_, rfl⟩
    rw [← hB] at HY0 ⊢
    have HAB := Lib.hid (show PB ≠ SB by omega)
    clear hW hA hB
    have HVW := Lib.hid (RdC.kept HV.out HB0.out)
    have HOW := Lib.hid (HOK.out.kept HB0.out)
    have cs0 : W.cell? ⟨SB, 0, none⟩ = some (.slice sa sn sc) := by rw [cell_of_row W SB 0 _ _ _ HX0.out]; rfl
    have p0 : W.cell? ⟨PB, 0, none⟩ = some (.int .i64 1) := by rw [cell_of_row W PB 0 _ _ _ HY0.out]; rfl
    have p1 : W.cell? ⟨PB, 1, none⟩ = some (.int .i64 c) := by rw [cell_of_row W PB 1 _ _ _ HY0.out]; rfl
    have p2 : W.cell? ⟨PB, 2, none⟩ = some (.int .i64 o) := by rw [cell_of_row W PB 2 _ _ _ HY0.out]; rfl
    have p3 : W.cell? ⟨PB, 3, none⟩ = some (.bool vu) := by rw [cell_of_row W PB 3 _ _ _ HY0.out]; rfl
    have p4 : W.cell? ⟨PB, 4, none⟩ = some (.int .i64 vk) := by rw [cell_of_row W PB 4 _ _ _ HY0.out]; rfl
    have p5 : W.cell? ⟨PB, 5, none⟩ = some (.int .i64 vn) := by rw [cell_of_row W PB 5 _ _ _ HY0.out]; rfl
    have p6 : W.cell? ⟨PB, 6, none⟩ = some (.slice va vl vc) := by rw [cell_of_row W PB 6 _ _ _ HY0.out]; rfl
    have p7 : W.cell? ⟨PB, 7, none⟩ = some (.slice ea m ec) := by rw [cell_of_row W PB 7 _ _ _ HY0.out]; rfl
    have HA := Lib.hid (show shapeB cols 1 c o ⟨vu, vk, vn, vb⟩ m = ((c == 0) && (o == 0) && isZ ⟨vu, vk, vn, vb⟩ && (m == 0)) by unfold shapeB; simp)
    have HZ := Lib.hid (isZero_any (⟨vu, vk, vn, vb⟩, _) W HOW.out)
    unfold aggV at HZ
    simp only at HZ
    cases hc : (c == 0)
    · go_wp2_with fail
      go_ret
      exact ⟨by rw [HA.out, hc] <;> simp, HB0.out⟩
    · cases ho : (o == 0)
      · go_wp2_with fail
        go_ret
        exact ⟨by rw [HA.out, hc, ho] <;> simp, HB0.out⟩
      · cases hz : isZ ⟨vu, vk, vn, vb⟩
        · rw [hz] at HZ
          go_wp2_with fail
          refine HZ.out.mono ?_
          rintro e W2 ⟨rfl, hb2⟩
          have HX1 := Lib.hid ((hb2.block SB (Array.getElem?_eq_some_iff.1 HX0.out).1).trans HX0.out)
          have HY1 := Lib.hid ((hb2.block PB (Array.getElem?_eq_some_iff.1 HY0.out).1).trans HY0.out)
          have HB1 := Lib.hid (below_then HB0.out hb2)
          clear hb2 cs0 p0 p1 p2 p3 p4 p5 p6 p7
          have cs0 : W2.cell? ⟨SB, 0, none⟩ = some (.slice sa sn sc) := by rw [cell_of_row W2 SB 0 _ _ _ HX1.out]; rfl
          have p0 : W2.cell? ⟨PB, 0, none⟩ = some (.int .i64 1) := by rw [cell_of_row W2 PB 0 _ _ _ HY1.out]; rfl
          have p1 : W2.cell? ⟨PB, 1, none⟩ = some (.int .i64 c) := by rw [cell_of_row W2 PB 1 _ _ _ HY1.out]; rfl
          have p2 : W2.cell? ⟨PB, 2, none⟩ = some (.int .i64 o) := by rw [cell_of_row W2 PB 2 _ _ _ HY1.out]; rfl
          have p3 : W2.cell? ⟨PB, 3, none⟩ = some (.bool vu) := by rw [cell_of_row W2 PB 3 _ _ _ HY1.out]; rfl
          have p4 : W2.cell? ⟨PB, 4, none⟩ = some (.int .i64 vk) := by rw [cell_of_row W2 PB 4 _ _ _ HY1.out]; rfl
          have p5 : W2.cell? ⟨PB, 5, none⟩ = some (.int .i64 vn) := by rw [cell_of_row W2 PB 5 _ _ _ HY1.out]; rfl
          have p6 : W2.cell? ⟨PB, 6, none⟩ = some (.slice va vl vc) := by rw [cell_of_row W2 PB 6 _ _ _ HY1.out]; rfl
          have p7 : W2.cell? ⟨PB, 7, none⟩ = some (.slice ea m ec) := by rw [cell_of_row W2 PB 7 _ _ _ HY1.out]; rfl
          go_wp2_with fail
          go_ret
          exact ⟨by rw [HA.out, hc, ho, hz] <;> simp, HB1.out⟩
        · rw [hz] at HZ
          cases hm : (m == 0)
          · have hmi : ((m : Int) == 0) = false := by rw [← hm]; exact lenZ m
            go_wp2_with fail
            refine HZ.out.mono ?_
            rintro e W2 ⟨rfl, hb2⟩
            have HX1 := Lib.hid ((hb2.block SB (Array.getElem?_eq_some_iff.1 HX0.out).1).trans HX0.out)
            have HY1 := Lib.hid ((hb2.block PB (Array.getElem?_eq_some_iff.1 HY0.out).1).trans HY0.out)
            have HB1 := Lib.hid (below_then HB0.out hb2)
            clear hb2 cs0 p0 p1 p2 p3 p4 p5 p6 p7
            have cs0 : W2.cell? ⟨SB, 0, none⟩ = some (.slice sa sn sc) := by rw [cell_of_row W2 SB 0 _ _ _ HX1.out]; rfl
            have p0 : W2.cell? ⟨PB, 0, none⟩ = some (.int .i64 1) := by rw [cell_of_row W2 PB 0 _ _ _ HY1.out]; rfl
            have p1 : W2.cell? ⟨PB, 1, none⟩ = some (.int .i64 c) := by rw [cell_of_row W2 PB 1 _ _ _ HY1.out]; rfl
            have p2 : W2.cell? ⟨PB, 2, none⟩ = some (.int .i64 o) := by rw [cell_of_row W2 PB 2 _ _ _ HY1.out]; rfl
            have p3 : W2.cell? ⟨PB, 3, none⟩ = some (.bool vu) := by rw [cell_of_row W2 PB 3 _ _ _ HY1.out]; rfl
            have p4 : W2.cell? ⟨PB, 4, none⟩ = some (.int .i64 vk) := by rw [cell_of_row W2 PB 4 _ _ _ HY1.out]; rfl
            have p5 : W2.cell? ⟨PB, 5, none⟩ = some (.int .i64 vn) := by rw [cell_of_row W2 PB 5 _ _ _ HY1.out]; rfl
            have p6 : W2.cell? ⟨PB, 6, none⟩ = some (.slice va vl vc) := by rw [cell_of_row W2 PB 6 _ _ _ HY1.out]; rfl
            have p7 : W2.cell? ⟨PB, 7, none⟩ = some (.slice ea m ec) := by rw [cell_of_row W2 PB 7 _ _ _ HY1.out]; rfl
            go_wp2_with fail
            go_ret
            exact ⟨by rw [HA.out, hc, ho, hz, hm] <;> simp, HB1.out⟩
          · have hmi : ((m : Int) == 0) = true := by rw [← hm]; exact lenZ m
            go_wp2_with fail
            refine HZ.out.mono ?_
            rintro e W2 ⟨rfl, hb2⟩
            have HX1 := Lib.hid ((hb2.block SB (Array.getElem?_eq_some_iff.1 HX0.out).1).trans HX0.out)
            have HY1 := Lib.hid ((hb2.block PB (Array.getElem?_eq_some_iff.1 HY0.out).1).trans HY0.out)
            have HB1 := Lib.hid (below_then HB0.out hb2)
            clear hb2 cs0 p0 p1 p2 p3 p4 p5 p6 p7
            have cs0 : W2.cell? ⟨SB, 0, none⟩ = some (.slice sa sn sc) := by rw [cell_of_row W2 SB 0 _ _ _ HX1.out]; rfl
            have p0 : W2.cell? ⟨PB, 0, none⟩ = some (.int .i64 1) := by rw [cell_of_row W2 PB 0 _ _ _ HY1.out]; rfl
            have p1 : W2.cell? ⟨PB, 1, none⟩ = some (.int .i64 c) := by rw [cell_of_row W2 PB 1 _ _ _ HY1.out]; rfl
            have p2 : W2.cell? ⟨PB, 2, none⟩ = some (.int .i64 o) := by rw [cell_of_row W2 PB 2 _ _ _ HY1.out]; rfl
            have p3 : W2.cell? ⟨PB, 3, none⟩ = some (.bool vu) := by rw [cell_of_row W2 PB 3 _ _ _ HY1.out]; rfl
            have p4 : W2.cell? ⟨PB, 4, none⟩ = some (.int .i64 vk) := by rw [cell_of_row W2 PB 4 _ _ _ HY1.out]; rfl
            have p5 : W2.cell? ⟨PB, 5, none⟩ = some (.int .i64 vn) := by rw [cell_of_row W2 PB 5 _ _ _ HY1.out]; rfl
            have p6 : W2.cell? ⟨PB, 6, none⟩ = some (.slice va vl vc) := by rw [cell_of_row W2 PB 6 _ _ _ HY1.out]; rfl
            have p7 : W2.cell? ⟨PB, 7, none⟩ = some (.slice ea m ec) := by rw [cell_of_row W2 PB 7 _ _ _ HY1.out]; rfl
            go_wp2_with fail
            go_ret
            exact ⟨by rw [HA.out, hc, ho, hz, hm] <;> simp, HB1.out⟩
  · have HB0 := Lib.hid (below2 w (.cells #[.slice sa sn sc] 24) (.cells #[.int .i64 2, .int .i64 c, .int .i64 o, .bool vu, .int .i64 vk, .int .i64 vn, .slice va vl vc, .slice ea m ec] 31))
    have HX0 := Lib.hid ((heap_alloc_old (w.alloc (.cells #[.slice sa sn sc] 24)) (.cells #[.int .i64 2, .int .i64 c, .int .i64 o, .bool vu, .int .i64 vk, .int .i64 vn, .slice va vl vc, .slice ea m ec] 31) (r := w.heap.size) (by simp)).trans (heap_alloc_new w _))
    have HY0 := Lib.hid (heap2 w (.cells #[.slice sa sn sc] 24) (.cells #[.int .i64 2, .int .i64 c, .int .i64 o, .bool vu, .int .i64 vk, .int .i64 vn, .slice va vl vc, .slice ea m ec] 31))
    go_enter Try.func100, Try.ntmps100
    go_upto_region 1 with (fail)
    obtain ⟨W, hW⟩ : ∃ W : World, W = (w.alloc (.cells #[.slice sa sn sc] 24)).alloc (.cells #[.int .i64 2, .int .i64 c, .int .i64 o, .bool vu, .int .i64 vk, .int .i64 vn, .slice va vl vc, .slice ea m ec] 31) := ⟨_, rfl⟩
    rw [← hW] at HB0 HX0 HY0 ⊢
    obtain ⟨SB, hA⟩ : ∃ SB, SB = w.heap.size := ⟨_, rfl⟩
    rw [← hA] at HX0 HY0 ⊢
    obtain ⟨PB, hB⟩ : ∃ PB, PB = SB + 1 := ⟨_, rfl⟩
    rw [← hB] at HY0 ⊢
    have HAB := Lib.hid (show PB ≠ SB by omega)
    clear hW hA hB
    have HVW := Lib.hid (RdC.kept HV.out HB0.out)
    have HOW := Lib.hid (HOK.out.kept HB0.out)
    have cs0 : W.cell? ⟨SB, 0, none⟩ = some (.slice sa sn sc) := by rw [cell_of_row W SB 0 _ _ _ HX0.out]; rfl
    have p0 : W.cell? ⟨PB, 0, none⟩ = some (.int .i64 2) := by rw [cell_of_row W PB 0 _ _ _ HY0.out]; rfl
    have p1 : W.cell? ⟨PB, 1, none⟩ = some (.int .i64 c) := by rw [cell_of_row W PB 1 _ _ _ HY0.out]; rfl
    have p2 : W.cell? ⟨PB, 2, none⟩ = some (.int .i64 o) := by rw [cell_of_row W PB 2 _ _ _ HY0.out]; rfl
    have p3 : W.cell? ⟨PB, 3, none⟩ = some (.bool vu) := by rw [cell_of_row W PB 3 _ _ _ HY0.out]; rfl
    have p4 : W.cell? ⟨PB, 4, none⟩ = some (.int .i64 vk) := by rw [cell_of_row W PB 4 _ _ _ HY0.out]; rfl
    have p5 : W.cell? ⟨PB, 5, none⟩ = some (.int .i64 vn) := by rw [cell_of_row W PB 5 _ _ _ HY0.out]; rfl
    have p6 : W.cell? ⟨PB, 6, none⟩ = some (.slice va vl vc) := by rw [cell_of_row W PB 6 _ _ _ HY0.out]; rfl
    have p7 : W.cell? ⟨PB, 7, none⟩ = some (.slice ea m ec) := by rw [cell_of_row W PB 7 _ _ _ HY0.out]; rfl
    have HA := Lib.hid (show shapeB cols 2 c o ⟨vu, vk, vn, vb⟩ m = (cmpOkB cols c o ⟨vu, vk, vn, vb⟩ && (m == 0)) by unfold shapeB; simp)
    have HC := Lib.hid (cmpOk_any cols _ 2 c o ⟨vu, vk, vn, vb⟩ _ (.slice ea m ec) W HVW.out HOW.out)
    unfold aggP at HC
    simp only at HC
    cases hb : cmpOkB cols c o ⟨vu, vk, vn, vb⟩
    · rw [hb] at HC
      go_wp2_with fail
      refine HC.out.mono ?_
      rintro e W2 ⟨rfl, hb2⟩
      have HX1 := Lib.hid ((hb2.block SB (Array.getElem?_eq_some_iff.1 HX0.out).1).trans HX0.out)
      have HY1 := Lib.hid ((hb2.block PB (Array.getElem?_eq_some_iff.1 HY0.out).1).trans HY0.out)
      have HB1 := Lib.hid (below_then HB0.out hb2)
      clear hb2 cs0 p0 p1 p2 p3 p4 p5 p6 p7
      have cs0 : W2.cell? ⟨SB, 0, none⟩ = some (.slice sa sn sc) := by rw [cell_of_row W2 SB 0 _ _ _ HX1.out]; rfl
      have p0 : W2.cell? ⟨PB, 0, none⟩ = some (.int .i64 2) := by rw [cell_of_row W2 PB 0 _ _ _ HY1.out]; rfl
      have p1 : W2.cell? ⟨PB, 1, none⟩ = some (.int .i64 c) := by rw [cell_of_row W2 PB 1 _ _ _ HY1.out]; rfl
      have p2 : W2.cell? ⟨PB, 2, none⟩ = some (.int .i64 o) := by rw [cell_of_row W2 PB 2 _ _ _ HY1.out]; rfl
      have p3 : W2.cell? ⟨PB, 3, none⟩ = some (.bool vu) := by rw [cell_of_row W2 PB 3 _ _ _ HY1.out]; rfl
      have p4 : W2.cell? ⟨PB, 4, none⟩ = some (.int .i64 vk) := by rw [cell_of_row W2 PB 4 _ _ _ HY1.out]; rfl
      have p5 : W2.cell? ⟨PB, 5, none⟩ = some (.int .i64 vn) := by rw [cell_of_row W2 PB 5 _ _ _ HY1.out]; rfl
      have p6 : W2.cell? ⟨PB, 6, none⟩ = some (.slice va vl vc) := by rw [cell_of_row W2 PB 6 _ _ _ HY1.out]; rfl
      have p7 : W2.cell? ⟨PB, 7, none⟩ = some (.slice ea m ec) := by rw [cell_of_row W2 PB 7 _ _ _ HY1.out]; rfl
      go_wp2_with fail
      go_ret
      exact ⟨by rw [HA.out, hb] <;> simp, HB1.out⟩
    · rw [hb] at HC
      cases hm : (m == 0)
      · have hmi : ((m : Int) == 0) = false := by rw [← hm]; exact lenZ m
        go_wp2_with fail
        refine HC.out.mono ?_
        rintro e W2 ⟨rfl, hb2⟩
        have HX1 := Lib.hid ((hb2.block SB (Array.getElem?_eq_some_iff.1 HX0.out).1).trans HX0.out)
        have HY1 := Lib.hid ((hb2.block PB (Array.getElem?_eq_some_iff.1 HY0.out).1).trans HY0.out)
        have HB1 := Lib.hid (below_then HB0.out hb2)
        clear hb2 cs0 p0 p1 p2 p3 p4 p5 p6 p7
        have cs0 : W2.cell? ⟨SB, 0, none⟩ = some (.slice sa sn sc) := by rw [cell_of_row W2 SB 0 _ _ _ HX1.out]; rfl
        have p0 : W2.cell? ⟨PB, 0, none⟩ = some (.int .i64 2) := by rw [cell_of_row W2 PB 0 _ _ _ HY1.out]; rfl
        have p1 : W2.cell? ⟨PB, 1, none⟩ = some (.int .i64 c) := by rw [cell_of_row W2 PB 1 _ _ _ HY1.out]; rfl
        have p2 : W2.cell? ⟨PB, 2, none⟩ = some (.int .i64 o) := by rw [cell_of_row W2 PB 2 _ _ _ HY1.out]; rfl
        have p3 : W2.cell? ⟨PB, 3, none⟩ = some (.bool vu) := by rw [cell_of_row W2 PB 3 _ _ _ HY1.out]; rfl
        have p4 : W2.cell? ⟨PB, 4, none⟩ = some (.int .i64 vk) := by rw [cell_of_row W2 PB 4 _ _ _ HY1.out]; rfl
        have p5 : W2.cell? ⟨PB, 5, none⟩ = some (.int .i64 vn) := by rw [cell_of_row W2 PB 5 _ _ _ HY1.out]; rfl
        have p6 : W2.cell? ⟨PB, 6, none⟩ = some (.slice va vl vc) := by rw [cell_of_row W2 PB 6 _ _ _ HY1.out]; rfl
        have p7 : W2.cell? ⟨PB, 7, none⟩ = some (.slice ea m ec) := by rw [cell_of_row W2 PB 7 _ _ _ HY1.out]; rfl
        go_wp2_with fail
        go_ret
        exact ⟨by rw [HA.out, hb, hm] <;> simp, HB1.out⟩
      · have hmi : ((m : Int) == 0) = true := by rw [← hm]; exact lenZ m
        go_wp2_with fail
        refine HC.out.mono ?_
        rintro e W2 ⟨rfl, hb2⟩
        have HX1 := Lib.hid ((hb2.block SB (Array.getElem?_eq_some_iff.1 HX0.out).1).trans HX0.out)
        have HY1 := Lib.hid ((hb2.block PB (Array.getElem?_eq_some_iff.1 HY0.out).1).trans HY0.out)
        have HB1 := Lib.hid (below_then HB0.out hb2)
        clear hb2 cs0 p0 p1 p2 p3 p4 p5 p6 p7
        have cs0 : W2.cell? ⟨SB, 0, none⟩ = some (.slice sa sn sc) := by rw [cell_of_row W2 SB 0 _ _ _ HX1.out]; rfl
        have p0 : W2.cell? ⟨PB, 0, none⟩ = some (.int .i64 2) := by rw [cell_of_row W2 PB 0 _ _ _ HY1.out]; rfl
        have p1 : W2.cell? ⟨PB, 1, none⟩ = some (.int .i64 c) := by rw [cell_of_row W2 PB 1 _ _ _ HY1.out]; rfl
        have p2 : W2.cell? ⟨PB, 2, none⟩ = some (.int .i64 o) := by rw [cell_of_row W2 PB 2 _ _ _ HY1.out]; rfl
        have p3 : W2.cell? ⟨PB, 3, none⟩ = some (.bool vu) := by rw [cell_of_row W2 PB 3 _ _ _ HY1.out]; rfl
        have p4 : W2.cell? ⟨PB, 4, none⟩ = some (.int .i64 vk) := by rw [cell_of_row W2 PB 4 _ _ _ HY1.out]; rfl
        have p5 : W2.cell? ⟨PB, 5, none⟩ = some (.int .i64 vn) := by rw [cell_of_row W2 PB 5 _ _ _ HY1.out]; rfl
        have p6 : W2.cell? ⟨PB, 6, none⟩ = some (.slice va vl vc) := by rw [cell_of_row W2 PB 6 _ _ _ HY1.out]; rfl
        have p7 : W2.cell? ⟨PB, 7, none⟩ = some (.slice ea m ec) := by rw [cell_of_row W2 PB 7 _ _ _ HY1.out]; rfl
        go_wp2_with fail
        go_ret
        exact ⟨by rw [HA.out, hb, hm] <;> simp, HB1.out⟩
  · have HB0 := Lib.hid (below2 w (.cells #[.slice sa sn sc] 24) (.cells #[.int .i64 3, .int .i64 c, .int .i64 o, .bool vu, .int .i64 vk, .int .i64 vn, .slice va vl vc, .slice ea m ec] 31))
    have HX0 := Lib.hid ((heap_alloc_old (w.alloc (.cells #[.slice sa sn sc] 24)) (.cells #[.int .i64 3, .int .i64 c, .int .i64 o, .bool vu, .int .i64 vk, .int .i64 vn, .slice va vl vc, .slice ea m ec] 31) (r := w.heap.size) (by simp)).trans (heap_alloc_new w _))
    have HY0 := Lib.hid (heap2 w (.cells #[.slice sa sn sc] 24) (.cells #[.int .i64 3, .int .i64 c, .int .i64 o, .bool vu, .int .i64 vk, .int .i64 vn, .slice va vl vc, .slice ea m ec] 31))
    go_enter Try.func100, Try.ntmps100
    go_upto_region 1 with (fail)
    obtain ⟨W, hW⟩ : ∃ W : World, W = (w.alloc (.cells #[.slice sa sn sc] 24)).alloc (.cells #[.int .i64 3, .int .i64 c, .int .i64 o, .bool vu, .int .i64 vk, .int .i64 vn, .slice va vl vc, .slice ea m ec] 31) := ⟨_, rfl⟩
    rw [← hW] at HB0 HX0 HY0 ⊢
    obtain ⟨SB, hA⟩ : ∃ SB, SB = w.heap.size := ⟨_, rfl⟩
    rw [← hA] at HX0 HY0 ⊢
    obtain ⟨PB, hB⟩ : ∃ PB, PB = SB + 1 := ⟨_, rfl⟩
    rw [← hB] at HY0 ⊢
    have HAB := Lib.hid (show PB ≠ SB by omega)
    clear hW hA hB
    have HVW := Lib.hid (RdC.kept HV.out HB0.out)
    have HOW := Lib.hid (HOK.out.kept HB0.out)
    have cs0 : W.cell? ⟨SB, 0, none⟩ = some (.slice sa sn sc) := by rw [cell_of_row W SB 0 _ _ _ HX0.out]; rfl
    have p0 : W.cell? ⟨PB, 0, none⟩ = some (.int .i64 3) := by rw [cell_of_row W PB 0 _ _ _ HY0.out]; rfl
    have p1 : W.cell? ⟨PB, 1, none⟩ = some (.int .i64 c) := by rw [cell_of_row W PB 1 _ _ _ HY0.out]; rfl
    have p2 : W.cell? ⟨PB, 2, none⟩ = some (.int .i64 o) := by rw [cell_of_row W PB 2 _ _ _ HY0.out]; rfl
    have p3 : W.cell? ⟨PB, 3, none⟩ = some (.bool vu) := by rw [cell_of_row W PB 3 _ _ _ HY0.out]; rfl
    have p4 : W.cell? ⟨PB, 4, none⟩ = some (.int .i64 vk) := by rw [cell_of_row W PB 4 _ _ _ HY0.out]; rfl
    have p5 : W.cell? ⟨PB, 5, none⟩ = some (.int .i64 vn) := by rw [cell_of_row W PB 5 _ _ _ HY0.out]; rfl
    have p6 : W.cell? ⟨PB, 6, none⟩ = some (.slice va vl vc) := by rw [cell_of_row W PB 6 _ _ _ HY0.out]; rfl
    have p7 : W.cell? ⟨PB, 7, none⟩ = some (.slice ea m ec) := by rw [cell_of_row W PB 7 _ _ _ HY0.out]; rfl
    have HA := Lib.hid (show shapeB cols 3 c o ⟨vu, vk, vn, vb⟩ m = (isColB cols c && (o == 0) && isZ ⟨vu, vk, vn, vb⟩ && (m == 0)) by unfold shapeB; simp)
    have HC := Lib.hid (isCol_any cols _ c W HVW.out)
    cases hb : isColB cols c
    · rw [hb] at HC
      go_wp2_with fail
      refine HC.out.mono ?_
      rintro e W2 ⟨rfl, hb2⟩
      have HX1 := Lib.hid ((hb2.block SB (Array.getElem?_eq_some_iff.1 HX0.out).1).trans HX0.out)
      have HY1 := Lib.hid ((hb2.block PB (Array.getElem?_eq_some_iff.1 HY0.out).1).trans HY0.out)
      have HB1 := Lib.hid (below_then HB0.out hb2)
      clear hb2 cs0 p0 p1 p2 p3 p4 p5 p6 p7
      have cs0 : W2.cell? ⟨SB, 0, none⟩ = some (.slice sa sn sc) := by rw [cell_of_row W2 SB 0 _ _ _ HX1.out]; rfl
      have p0 : W2.cell? ⟨PB, 0, none⟩ = some (.int .i64 3) := by rw [cell_of_row W2 PB 0 _ _ _ HY1.out]; rfl
      have p1 : W2.cell? ⟨PB, 1, none⟩ = some (.int .i64 c) := by rw [cell_of_row W2 PB 1 _ _ _ HY1.out]; rfl
      have p2 : W2.cell? ⟨PB, 2, none⟩ = some (.int .i64 o) := by rw [cell_of_row W2 PB 2 _ _ _ HY1.out]; rfl
      have p3 : W2.cell? ⟨PB, 3, none⟩ = some (.bool vu) := by rw [cell_of_row W2 PB 3 _ _ _ HY1.out]; rfl
      have p4 : W2.cell? ⟨PB, 4, none⟩ = some (.int .i64 vk) := by rw [cell_of_row W2 PB 4 _ _ _ HY1.out]; rfl
      have p5 : W2.cell? ⟨PB, 5, none⟩ = some (.int .i64 vn) := by rw [cell_of_row W2 PB 5 _ _ _ HY1.out]; rfl
      have p6 : W2.cell? ⟨PB, 6, none⟩ = some (.slice va vl vc) := by rw [cell_of_row W2 PB 6 _ _ _ HY1.out]; rfl
      have p7 : W2.cell? ⟨PB, 7, none⟩ = some (.slice ea m ec) := by rw [cell_of_row W2 PB 7 _ _ _ HY1.out]; rfl
      go_wp2_with fail
      go_ret
      exact ⟨by rw [HA.out, hb] <;> simp, HB1.out⟩
    · rw [hb] at HC
      cases ho : (o == 0)
      · go_wp2_with fail
        refine HC.out.mono ?_
        rintro e W2 ⟨rfl, hb2⟩
        have HX1 := Lib.hid ((hb2.block SB (Array.getElem?_eq_some_iff.1 HX0.out).1).trans HX0.out)
        have HY1 := Lib.hid ((hb2.block PB (Array.getElem?_eq_some_iff.1 HY0.out).1).trans HY0.out)
        have HB1 := Lib.hid (below_then HB0.out hb2)
        clear hb2 cs0 p0 p1 p2 p3 p4 p5 p6 p7
        have cs0 : W2.cell? ⟨SB, 0, none⟩ = some (.slice sa sn sc) := by rw [cell_of_row W2 SB 0 _ _ _ HX1.out]; rfl
        have p0 : W2.cell? ⟨PB, 0, none⟩ = some (.int .i64 3) := by rw [cell_of_row W2 PB 0 _ _ _ HY1.out]; rfl
        have p1 : W2.cell? ⟨PB, 1, none⟩ = some (.int .i64 c) := by rw [cell_of_row W2 PB 1 _ _ _ HY1.out]; rfl
        have p2 : W2.cell? ⟨PB, 2, none⟩ = some (.int .i64 o) := by rw [cell_of_row W2 PB 2 _ _ _ HY1.out]; rfl
        have p3 : W2.cell? ⟨PB, 3, none⟩ = some (.bool vu) := by rw [cell_of_row W2 PB 3 _ _ _ HY1.out]; rfl
        have p4 : W2.cell? ⟨PB, 4, none⟩ = some (.int .i64 vk) := by rw [cell_of_row W2 PB 4 _ _ _ HY1.out]; rfl
        have p5 : W2.cell? ⟨PB, 5, none⟩ = some (.int .i64 vn) := by rw [cell_of_row W2 PB 5 _ _ _ HY1.out]; rfl
        have p6 : W2.cell? ⟨PB, 6, none⟩ = some (.slice va vl vc) := by rw [cell_of_row W2 PB 6 _ _ _ HY1.out]; rfl
        have p7 : W2.cell? ⟨PB, 7, none⟩ = some (.slice ea m ec) := by rw [cell_of_row W2 PB 7 _ _ _ HY1.out]; rfl
        go_wp2_with fail
        go_ret
        exact ⟨by rw [HA.out, hb, ho] <;> simp, HB1.out⟩
      · go_wp2_with fail
        refine HC.out.mono ?_
        rintro e W2 ⟨rfl, hb2⟩
        have HX1 := Lib.hid ((hb2.block SB (Array.getElem?_eq_some_iff.1 HX0.out).1).trans HX0.out)
        have HY1 := Lib.hid ((hb2.block PB (Array.getElem?_eq_some_iff.1 HY0.out).1).trans HY0.out)
        have HB1 := Lib.hid (below_then HB0.out hb2)
        clear hb2 cs0 p0 p1 p2 p3 p4 p5 p6 p7
        have cs0 : W2.cell? ⟨SB, 0, none⟩ = some (.slice sa sn sc) := by rw [cell_of_row W2 SB 0 _ _ _ HX1.out]; rfl
        have p0 : W2.cell? ⟨PB, 0, none⟩ = some (.int .i64 3) := by rw [cell_of_row W2 PB 0 _ _ _ HY1.out]; rfl
        have p1 : W2.cell? ⟨PB, 1, none⟩ = some (.int .i64 c) := by rw [cell_of_row W2 PB 1 _ _ _ HY1.out]; rfl
        have p2 : W2.cell? ⟨PB, 2, none⟩ = some (.int .i64 o) := by rw [cell_of_row W2 PB 2 _ _ _ HY1.out]; rfl
        have p3 : W2.cell? ⟨PB, 3, none⟩ = some (.bool vu) := by rw [cell_of_row W2 PB 3 _ _ _ HY1.out]; rfl
        have p4 : W2.cell? ⟨PB, 4, none⟩ = some (.int .i64 vk) := by rw [cell_of_row W2 PB 4 _ _ _ HY1.out]; rfl
        have p5 : W2.cell? ⟨PB, 5, none⟩ = some (.int .i64 vn) := by rw [cell_of_row W2 PB 5 _ _ _ HY1.out]; rfl
        have p6 : W2.cell? ⟨PB, 6, none⟩ = some (.slice va vl vc) := by rw [cell_of_row W2 PB 6 _ _ _ HY1.out]; rfl
        have p7 : W2.cell? ⟨PB, 7, none⟩ = some (.slice ea m ec) := by rw [cell_of_row W2 PB 7 _ _ _ HY1.out]; rfl
        have HZ := Lib.hid (isZero_any (⟨vu, vk, vn, vb⟩, _) W2 (HOK.out.kept HB1.out))
        unfold aggV at HZ
        simp only at HZ
        cases hz : isZ ⟨vu, vk, vn, vb⟩
        · rw [hz] at HZ
          go_wp2_with fail
          refine HZ.out.mono ?_
          rintro e W3 ⟨rfl, hb2⟩
          have HX2 := Lib.hid ((hb2.block SB (Array.getElem?_eq_some_iff.1 HX1.out).1).trans HX1.out)
          have HY2 := Lib.hid ((hb2.block PB (Array.getElem?_eq_some_iff.1 HY1.out).1).trans HY1.out)
          have HB2 := Lib.hid (below_then HB1.out hb2)
          clear hb2 cs0 p0 p1 p2 p3 p4 p5 p6 p7
          have cs0 : W3.cell? ⟨SB, 0, none⟩ = some (.slice sa sn sc) := by rw [cell_of_row W3 SB 0 _ _ _ HX2.out]; rfl
          have p0 : W3.cell? ⟨PB, 0, none⟩ = some (.int .i64 3) := by rw [cell_of_row W3 PB 0 _ _ _ HY2.out]; rfl
          have p1 : W3.cell? ⟨PB, 1, none⟩ = some (.int .i64 c) := by rw [cell_of_row W3 PB 1 _ _ _ HY2.out]; rfl
          have p2 : W3.cell? ⟨PB, 2, none⟩ = some (.int .i64 o) := by rw [cell_of_row W3 PB 2 _ _ _ HY2.out]; rfl
          have p3 : W3.cell? ⟨PB, 3, none⟩ = some (.bool vu) := by rw [cell_of_row W3 PB 3 _ _ _ HY2.out]; rfl
          have p4 : W3.cell? ⟨PB, 4, none⟩ = some (.int .i64 vk) := by rw [cell_of_row W3 PB 4 _ _ _ HY2.out]; rfl
          have p5 : W3.cell? ⟨PB, 5, none⟩ = some (.int .i64 vn) := by rw [cell_of_row W3 PB 5 _ _ _ HY2.out]; rfl
          have p6 : W3.cell? ⟨PB, 6, none⟩ = some (.slice va vl vc) := by rw [cell_of_row W3 PB 6 _ _ _ HY2.out]; rfl
          have p7 : W3.cell? ⟨PB, 7, none⟩ = some (.slice ea m ec) := by rw [cell_of_row W3 PB 7 _ _ _ HY2.out]; rfl
          go_wp2_with fail
          go_ret
          exact ⟨by rw [HA.out, hb, ho, hz] <;> simp, HB2.out⟩
        · rw [hz] at HZ
          cases hm : (m == 0)
          · have hmi : ((m : Int) == 0) = false := by rw [← hm]; exact lenZ m
            go_wp2_with fail
            refine HZ.out.mono ?_
            rintro e W3 ⟨rfl, hb2⟩
            have HX2 := Lib.hid ((hb2.block SB (Array.getElem?_eq_some_iff.1 HX1.out).1).trans HX1.out)
            have HY2 := Lib.hid ((hb2.block PB (Array.getElem?_eq_some_iff.1 HY1.out).1).trans HY1.out)
            have HB2 := Lib.hid (below_then HB1.out hb2)
            clear hb2 cs0 p0 p1 p2 p3 p4 p5 p6 p7
            have cs0 : W3.cell? ⟨SB, 0, none⟩ = some (.slice sa sn sc) := by rw [cell_of_row W3 SB 0 _ _ _ HX2.out]; rfl
            have p0 : W3.cell? ⟨PB, 0, none⟩ = some (.int .i64 3) := by rw [cell_of_row W3 PB 0 _ _ _ HY2.out]; rfl
            have p1 : W3.cell? ⟨PB, 1, none⟩ = some (.int .i64 c) := by rw [cell_of_row W3 PB 1 _ _ _ HY2.out]; rfl
            have p2 : W3.cell? ⟨PB, 2, none⟩ = some (.int .i64 o) := by rw [cell_of_row W3 PB 2 _ _ _ HY2.out]; rfl
            have p3 : W3.cell? ⟨PB, 3, none⟩ = some (.bool vu) := by rw [cell_of_row W3 PB 3 _ _ _ HY2.out]; rfl
            have p4 : W3.cell? ⟨PB, 4, none⟩ = some (.int .i64 vk) := by rw [cell_of_row W3 PB 4 _ _ _ HY2.out]; rfl
            have p5 : W3.cell? ⟨PB, 5, none⟩ = some (.int .i64 vn) := by rw [cell_of_row W3 PB 5 _ _ _ HY2.out]; rfl
            have p6 : W3.cell? ⟨PB, 6, none⟩ = some (.slice va vl vc) := by rw [cell_of_row W3 PB 6 _ _ _ HY2.out]; rfl
            have p7 : W3.cell? ⟨PB, 7, none⟩ = some (.slice ea m ec) := by rw [cell_of_row W3 PB 7 _ _ _ HY2.out]; rfl
            go_wp2_with fail
            go_ret
            exact ⟨by rw [HA.out, hb, ho, hz, hm] <;> simp, HB2.out⟩
          · have hmi : ((m : Int) == 0) = true := by rw [← hm]; exact lenZ m
            go_wp2_with fail
            refine HZ.out.mono ?_
            rintro e W3 ⟨rfl, hb2⟩
            have HX2 := Lib.hid ((hb2.block SB (Array.getElem?_eq_some_iff.1 HX1.out).1).trans HX1.out)
            have HY2 := Lib.hid ((hb2.block PB (Array.getElem?_eq_some_iff.1 HY1.out).1).trans HY1.out)
            have HB2 := Lib.hid (below_then HB1.out hb2)
            clear hb2 cs0 p0 p1 p2 p3 p4 p5 p6 p7
            have cs0 : W3.cell? ⟨SB, 0, none⟩ = some (.slice sa sn sc) := by rw [cell_of_row W3 SB 0 _ _ _ HX2.out]; rfl
            have p0 : W3.cell? ⟨PB, 0, none⟩ = some (.int .i64 3) := by rw [cell_of_row W3 PB 0 _ _ _ HY2.out]; rfl
            have p1 : W3.cell? ⟨PB, 1, none⟩ = some (.int .i64 c) := by rw [cell_of_row W3 PB 1 _ _ _ HY2.out]; rfl
            have p2 : W3.cell? ⟨PB, 2, none⟩ = some (.int .i64 o) := by rw [cell_of_row W3 PB 2 _ _ _ HY2.out]; rfl
            have p3 : W3.cell? ⟨PB, 3, none⟩ = some (.bool vu) := by rw [cell_of_row W3 PB 3 _ _ _ HY2.out]; rfl
            have p4 : W3.cell? ⟨PB, 4, none⟩ = some (.int .i64 vk) := by rw [cell_of_row W3 PB 4 _ _ _ HY2.out]; rfl
            have p5 : W3.cell? ⟨PB, 5, none⟩ = some (.int .i64 vn) := by rw [cell_of_row W3 PB 5 _ _ _ HY2.out]; rfl
            have p6 : W3.cell? ⟨PB, 6, none⟩ = some (.slice va vl vc) := by rw [cell_of_row W3 PB 6 _ _ _ HY2.out]; rfl
            have p7 : W3.cell? ⟨PB, 7, none⟩ = some (.slice ea m ec) := by rw [cell_of_row W3 PB 7 _ _ _ HY2.out]; rfl
            go_wp2_with fail
            go_ret
            exact ⟨by rw [HA.out, hb, ho, hz, hm] <;> simp, HB2.out⟩
  · have HB0 := Lib.hid (below2 w (.cells #[.slice sa sn sc] 24) (.cells #[.int .i64 4, .int .i64 c, .int .i64 o, .bool vu, .int .i64 vk, .int .i64 vn, .slice va vl vc, .slice ea m ec] 31))
    have HX0 := Lib.hid ((heap_alloc_old (w.alloc (.cells #[.slice sa sn sc] 24)) (.cells #[.int .i64 4, .int .i64 c, .int .i64 o, .bool vu, .int .i64 vk, .int .i64 vn, .slice va vl vc, .slice ea m ec] 31) (r := w.heap.size) (by simp)).trans (heap_alloc_new w _))
    have HY0 := Lib.hid (heap2 w (.cells #[.slice sa sn sc] 24) (.cells #[.int .i64 4, .int .i64 c, .int .i64 o, .bool vu, .int .i64 vk, .int .i64 vn, .slice va vl vc, .slice ea m ec] 31))
    go_enter Try.func100, Try.ntmps100
    go_upto_region 1 with (fail)
    obtain ⟨W, hW⟩ : ∃ W : World, W = (w.alloc (.cells #[.slice sa sn sc] 24)).alloc (.cells #[.int .i64 4, .int .i64 c, .int .i64 o, .bool vu, .int .i64 vk, .int .i64 vn, .slice va vl vc, .slice ea m ec] 31) := ⟨_, rfl⟩
    rw [← hW] at HB0 HX0 HY0 ⊢
    obtain ⟨SB, hA⟩ : ∃ SB, SB = w.heap.size := ⟨_, rfl⟩
    rw [← hA] at HX0 HY0 ⊢
    obtain ⟨PB, hB⟩ : ∃ PB, PB = SB + 1 := ⟨_, rfl⟩
    rw [← hB] at HY0 ⊢
    have HAB := Lib.hid (show PB ≠ SB by omega)
    clear hW hA hB
    have HVW := Lib.hid (RdC.kept HV.out HB0.out)
    have HOW := Lib.hid (HOK.out.kept HB0.out)
    have cs0 : W.cell? ⟨SB, 0, none⟩ = some (.slice sa sn sc) := by rw [cell_of_row W SB 0 _ _ _ HX0.out]; rfl
    have p0 : W.cell? ⟨PB, 0, none⟩ = some (.int .i64 4) := by rw [cell_of_row W PB 0 _ _ _ HY0.out]; rfl
    have p1 : W.cell? ⟨PB, 1, none⟩ = some (.int .i64 c) := by rw [cell_of_row W PB 1 _ _ _ HY0.out]; rfl
    have p2 : W.cell? ⟨PB, 2, none⟩ = some (.int .i64 o) := by rw [cell_of_row W PB 2 _ _ _ HY0.out]; rfl
    have p3 : W.cell? ⟨PB, 3, none⟩ = some (.bool vu) := by rw [cell_of_row W PB 3 _ _ _ HY0.out]; rfl
    have p4 : W.cell? ⟨PB, 4, none⟩ = some (.int .i64 vk) := by rw [cell_of_row W PB 4 _ _ _ HY0.out]; rfl
    have p5 : W.cell? ⟨PB, 5, none⟩ = some (.int .i64 vn) := by rw [cell_of_row W PB 5 _ _ _ HY0.out]; rfl
    have p6 : W.cell? ⟨PB, 6, none⟩ = some (.slice va vl vc) := by rw [cell_of_row W PB 6 _ _ _ HY0.out]; rfl
    have p7 : W.cell? ⟨PB, 7, none⟩ = some (.slice ea m ec) := by rw [cell_of_row W PB 7 _ _ _ HY0.out]; rfl
    have HA := Lib.hid (show shapeB cols 4 c o ⟨vu, vk, vn, vb⟩ m = ((c == 0) && (o == 0) && isZ ⟨vu, vk, vn, vb⟩ && decide (m ≤ 8)) by unfold shapeB; simp)
    have HZ := Lib.hid (isZero_any (⟨vu, vk, vn, vb⟩, _) W HOW.out)
    unfold aggV at HZ
    simp only at HZ
    cases hc : (c == 0)
    · go_wp2_with fail
      go_ret
      exact ⟨by rw [HA.out, hc] <;> simp, HB0.out⟩
    · cases ho : (o == 0)
      · go_wp2_with fail
        go_ret
        exact ⟨by rw [HA.out, hc, ho] <;> simp, HB0.out⟩
      · cases hz : isZ ⟨vu, vk, vn, vb⟩
        · rw [hz] at HZ
          go_wp2_with fail
          refine HZ.out.mono ?_
          rintro e W2 ⟨rfl, hb2⟩
          have HX1 := Lib.hid ((hb2.block SB (Array.getElem?_eq_some_iff.1 HX0.out).1).trans HX0.out)
          have HY1 := Lib.hid ((hb2.block PB (Array.getElem?_eq_some_iff.1 HY0.out).1).trans HY0.out)
          have HB1 := Lib.hid (below_then HB0.out hb2)
          clear hb2 cs0 p0 p1 p2 p3 p4 p5 p6 p7
          have cs0 : W2.cell? ⟨SB, 0, none⟩ = some (.slice sa sn sc) := by rw [cell_of_row W2 SB 0 _ _ _ HX1.out]; rfl
          have p0 : W2.cell? ⟨PB, 0, none⟩ = some (.int .i64 4) := by rw [cell_of_row W2 PB 0 _ _ _ HY1.out]; rfl
          have p1 : W2.cell? ⟨PB, 1, none⟩ = some (.int .i64 c) := by rw [cell_of_row W2 PB 1 _ _ _ HY1.out]; rfl
          have p2 : W2.cell? ⟨PB, 2, none⟩ = some (.int .i64 o) := by rw [cell_of_row W2 PB 2 _ _ _ HY1.out]; rfl
          have p3 : W2.cell? ⟨PB, 3, none⟩ = some (.bool vu) := by rw [cell_of_row W2 PB 3 _ _ _ HY1.out]; rfl
          have p4 : W2.cell? ⟨PB, 4, none⟩ = some (.int .i64 vk) := by rw [cell_of_row W2 PB 4 _ _ _ HY1.out]; rfl
          have p5 : W2.cell? ⟨PB, 5, none⟩ = some (.int .i64 vn) := by rw [cell_of_row W2 PB 5 _ _ _ HY1.out]; rfl
          have p6 : W2.cell? ⟨PB, 6, none⟩ = some (.slice va vl vc) := by rw [cell_of_row W2 PB 6 _ _ _ HY1.out]; rfl
          have p7 : W2.cell? ⟨PB, 7, none⟩ = some (.slice ea m ec) := by rw [cell_of_row W2 PB 7 _ _ _ HY1.out]; rfl
          go_wp2_with fail
          go_ret
          exact ⟨by rw [HA.out, hc, ho, hz] <;> simp, HB1.out⟩
        · rw [hz] at HZ
          cases hm : decide (m ≤ 8)
          · have hmi : decide ((m : Int) ≤ 8) = false := by rw [← hm]; exact lenE m
            go_wp2_with fail
            refine HZ.out.mono ?_
            rintro e W2 ⟨rfl, hb2⟩
            have HX1 := Lib.hid ((hb2.block SB (Array.getElem?_eq_some_iff.1 HX0.out).1).trans HX0.out)
            have HY1 := Lib.hid ((hb2.block PB (Array.getElem?_eq_some_iff.1 HY0.out).1).trans HY0.out)
            have HB1 := Lib.hid (below_then HB0.out hb2)
            clear hb2 cs0 p0 p1 p2 p3 p4 p5 p6 p7
            have cs0 : W2.cell? ⟨SB, 0, none⟩ = some (.slice sa sn sc) := by rw [cell_of_row W2 SB 0 _ _ _ HX1.out]; rfl
            have p0 : W2.cell? ⟨PB, 0, none⟩ = some (.int .i64 4) := by rw [cell_of_row W2 PB 0 _ _ _ HY1.out]; rfl
            have p1 : W2.cell? ⟨PB, 1, none⟩ = some (.int .i64 c) := by rw [cell_of_row W2 PB 1 _ _ _ HY1.out]; rfl
            have p2 : W2.cell? ⟨PB, 2, none⟩ = some (.int .i64 o) := by rw [cell_of_row W2 PB 2 _ _ _ HY1.out]; rfl
            have p3 : W2.cell? ⟨PB, 3, none⟩ = some (.bool vu) := by rw [cell_of_row W2 PB 3 _ _ _ HY1.out]; rfl
            have p4 : W2.cell? ⟨PB, 4, none⟩ = some (.int .i64 vk) := by rw [cell_of_row W2 PB 4 _ _ _ HY1.out]; rfl
            have p5 : W2.cell? ⟨PB, 5, none⟩ = some (.int .i64 vn) := by rw [cell_of_row W2 PB 5 _ _ _ HY1.out]; rfl
            have p6 : W2.cell? ⟨PB, 6, none⟩ = some (.slice va vl vc) := by rw [cell_of_row W2 PB 6 _ _ _ HY1.out]; rfl
            have p7 : W2.cell? ⟨PB, 7, none⟩ = some (.slice ea m ec) := by rw [cell_of_row W2 PB 7 _ _ _ HY1.out]; rfl
            go_wp2_with fail
            go_ret
            exact ⟨by rw [HA.out, hc, ho, hz, hm] <;> simp, HB1.out⟩
          · have hmi : decide ((m : Int) ≤ 8) = true := by rw [← hm]; exact lenE m
            go_wp2_with fail
            refine HZ.out.mono ?_
            rintro e W2 ⟨rfl, hb2⟩
            have HX1 := Lib.hid ((hb2.block SB (Array.getElem?_eq_some_iff.1 HX0.out).1).trans HX0.out)
            have HY1 := Lib.hid ((hb2.block PB (Array.getElem?_eq_some_iff.1 HY0.out).1).trans HY0.out)
            have HB1 := Lib.hid (below_then HB0.out hb2)
            clear hb2 cs0 p0 p1 p2 p3 p4 p5 p6 p7
            have cs0 : W2.cell? ⟨SB, 0, none⟩ = some (.slice sa sn sc) := by rw [cell_of_row W2 SB 0 _ _ _ HX1.out]; rfl
            have p0 : W2.cell? ⟨PB, 0, none⟩ = some (.int .i64 4) := by rw [cell_of_row W2 PB 0 _ _ _ HY1.out]; rfl
            have p1 : W2.cell? ⟨PB, 1, none⟩ = some (.int .i64 c) := by rw [cell_of_row W2 PB 1 _ _ _ HY1.out]; rfl
            have p2 : W2.cell? ⟨PB, 2, none⟩ = some (.int .i64 o) := by rw [cell_of_row W2 PB 2 _ _ _ HY1.out]; rfl
            have p3 : W2.cell? ⟨PB, 3, none⟩ = some (.bool vu) := by rw [cell_of_row W2 PB 3 _ _ _ HY1.out]; rfl
            have p4 : W2.cell? ⟨PB, 4, none⟩ = some (.int .i64 vk) := by rw [cell_of_row W2 PB 4 _ _ _ HY1.out]; rfl
            have p5 : W2.cell? ⟨PB, 5, none⟩ = some (.int .i64 vn) := by rw [cell_of_row W2 PB 5 _ _ _ HY1.out]; rfl
            have p6 : W2.cell? ⟨PB, 6, none⟩ = some (.slice va vl vc) := by rw [cell_of_row W2 PB 6 _ _ _ HY1.out]; rfl
            have p7 : W2.cell? ⟨PB, 7, none⟩ = some (.slice ea m ec) := by rw [cell_of_row W2 PB 7 _ _ _ HY1.out]; rfl
            go_wp2_with fail
            go_ret
            exact ⟨by rw [HA.out, hc, ho, hz, hm] <;> simp, HB1.out⟩
  · have HB0 := Lib.hid (below2 w (.cells #[.slice sa sn sc] 24) (.cells #[.int .i64 5, .int .i64 c, .int .i64 o, .bool vu, .int .i64 vk, .int .i64 vn, .slice va vl vc, .slice ea m ec] 31))
    have HX0 := Lib.hid ((heap_alloc_old (w.alloc (.cells #[.slice sa sn sc] 24)) (.cells #[.int .i64 5, .int .i64 c, .int .i64 o, .bool vu, .int .i64 vk, .int .i64 vn, .slice va vl vc, .slice ea m ec] 31) (r := w.heap.size) (by simp)).trans (heap_alloc_new w _))
    have HY0 := Lib.hid (heap2 w (.cells #[.slice sa sn sc] 24) (.cells #[.int .i64 5, .int .i64 c, .int .i64 o, .bool vu, .int .i64 vk, .int .i64 vn, .slice va vl vc, .slice ea m ec] 31))
    go_enter Try.func100, Try.ntmps100
    go_upto_region 1 with (fail)
    obtain ⟨W, hW⟩ : ∃ W : World, W = (w.alloc (.cells #[.slice sa sn sc] 24)).alloc (.cells #[.int .i64 5, .int .i64 c, .int .i64 o, .bool vu, .int .i64 vk, .int .i64 vn, .slice va vl vc, .slice ea m ec] 31) := ⟨_, rfl⟩
    rw [← hW] at HB0 HX0 HY0 ⊢
    obtain ⟨SB, hA⟩ : ∃ SB, SB = w.heap.size := ⟨_, rfl⟩
    rw [← hA] at HX0 HY0 ⊢
    obtain ⟨PB, hB⟩ : ∃ PB, PB = SB + 1 := ⟨_, rfl⟩
    rw [← hB] at HY0 ⊢
    have HAB := Lib.hid (show PB ≠ SB by omega)
    clear hW hA hB
    have HVW := Lib.hid (RdC.kept HV.out HB0.out)
    have HOW := Lib.hid (HOK.out.kept HB0.out)
    have cs0 : W.cell? ⟨SB, 0, none⟩ = some (.slice sa sn sc) := by rw [cell_of_row W SB 0 _ _ _ HX0.out]; rfl
    have p0 : W.cell? ⟨PB, 0, none⟩ = some (.int .i64 5) := by rw [cell_of_row W PB 0 _ _ _ HY0.out]; rfl
    have p1 : W.cell? ⟨PB, 1, none⟩ = some (.int .i64 c) := by rw [cell_of_row W PB 1 _ _ _ HY0.out]; rfl
    have p2 : W.cell? ⟨PB, 2, none⟩ = some (.int .i64 o) := by rw [cell_of_row W PB 2 _ _ _ HY0.out]; rfl
    have p3 : W.cell? ⟨PB, 3, none⟩ = some (.bool vu) := by rw [cell_of_row W PB 3 _ _ _ HY0.out]; rfl
    have p4 : W.cell? ⟨PB, 4, none⟩ = some (.int .i64 vk) := by rw [cell_of_row W PB 4 _ _ _ HY0.out]; rfl
    have p5 : W.cell? ⟨PB, 5, none⟩ = some (.int .i64 vn) := by rw [cell_of_row W PB 5 _ _ _ HY0.out]; rfl
    have p6 : W.cell? ⟨PB, 6, none⟩ = some (.slice va vl vc) := by rw [cell_of_row W PB 6 _ _ _ HY0.out]; rfl
    have p7 : W.cell? ⟨PB, 7, none⟩ = some (.slice ea m ec) := by rw [cell_of_row W PB 7 _ _ _ HY0.out]; rfl
    have HA := Lib.hid (show shapeB cols 5 c o ⟨vu, vk, vn, vb⟩ m = ((c == 0) && (o == 0) && isZ ⟨vu, vk, vn, vb⟩ && decide (m ≤ 8)) by unfold shapeB; simp)
    have HZ := Lib.hid (isZero_any (⟨vu, vk, vn, vb⟩, _) W HOW.out)
    unfold aggV at HZ
    simp only at HZ
    cases hc : (c == 0)
    · go_wp2_with fail
      go_ret
      exact ⟨by rw [HA.out, hc] <;> simp, HB0.out⟩
    · cases ho : (o == 0)
      · go_wp2_with fail
        go_ret
        exact ⟨by rw [HA.out, hc, ho] <;> simp, HB0.out⟩
      · cases hz : isZ ⟨vu, vk, vn, vb⟩
        · rw [hz] at HZ
          go_wp2_with fail
          refine HZ.out.mono ?_
          rintro e W2 ⟨rfl, hb2⟩
          have HX1 := Lib.hid ((hb2.block SB (Array.getElem?_eq_some_iff.1 HX0.out).1).trans HX0.out)
          have HY1 := Lib.hid ((hb2.block PB (Array.getElem?_eq_some_iff.1 HY0.out).1).trans HY0.out)
          have HB1 := Lib.hid (below_then HB0.out hb2)
          clear hb2 cs0 p0 p1 p2 p3 p4 p5 p6 p7
          have cs0 : W2.cell? ⟨SB, 0, none⟩ = some (.slice sa sn sc) := by rw [cell_of_row W2 SB 0 _ _ _ HX1.out]; rfl
          have p0 : W2.cell? ⟨PB, 0, none⟩ = some (.int .i64 5) := by rw [cell_of_row W2 PB 0 _ _ _ HY1.out]; rfl
          have p1 : W2.cell? ⟨PB, 1, none⟩ = some (.int .i64 c) := by rw [cell_of_row W2 PB 1 _ _ _ HY1.out]; rfl
          have p2 : W2.cell? ⟨PB, 2, none⟩ = some (.int .i64 o) := by rw [cell_of_row W2 PB 2 _ _ _ HY1.out]; rfl
          have p3 : W2.cell? ⟨PB, 3, none⟩ = some (.bool vu) := by rw [cell_of_row W2 PB 3 _ _ _ HY1.out]; rfl
          have p4 : W2.cell? ⟨PB, 4, none⟩ = some (.int .i64 vk) := by rw [cell_of_row W2 PB 4 _ _ _ HY1.out]; rfl
          have p5 : W2.cell? ⟨PB, 5, none⟩ = some (.int .i64 vn) := by rw [cell_of_row W2 PB 5 _ _ _ HY1.out]; rfl
          have p6 : W2.cell? ⟨PB, 6, none⟩ = some (.slice va vl vc) := by rw [cell_of_row W2 PB 6 _ _ _ HY1.out]; rfl
          have p7 : W2.cell? ⟨PB, 7, none⟩ = some (.slice ea m ec) := by rw [cell_of_row W2 PB 7 _ _ _ HY1.out]; rfl
          go_wp2_with fail
          go_ret
          exact ⟨by rw [HA.out, hc, ho, hz] <;> simp, HB1.out⟩
        · rw [hz] at HZ
          cases hm : decide (m ≤ 8)
          · have hmi : decide ((m : Int) ≤ 8) = false := by rw [← hm]; exact lenE m
            go_wp2_with fail
            refine HZ.out.mono ?_
            rintro e W2 ⟨rfl, hb2⟩
            have HX1 := Lib.hid ((hb2.block SB (Array.getElem?_eq_some_iff.1 HX0.out).1).trans HX0.out)
            have HY1 := Lib.hid ((hb2.block PB (Array.getElem?_eq_some_iff.1 HY0.out).1).trans HY0.out)
            have HB1 := Lib.hid (below_then HB0.out hb2)
            clear hb2 cs0 p0 p1 p2 p3 p4 p5 p6 p7
            have cs0 : W2.cell? ⟨SB, 0, none⟩ = some (.slice sa sn sc) := by rw [cell_of_row W2 SB 0 _ _ _ HX1.out]; rfl
            have p0 : W2.cell? ⟨PB, 0, none⟩ = some (.int .i64 5) := by rw [cell_of_row W2 PB 0 _ _ _ HY1.out]; rfl
            have p1 : W2.cell? ⟨PB, 1, none⟩ = some (.int .i64 c) := by rw [cell_of_row W2 PB 1 _ _ _ HY1.out]; rfl
            have p2 : W2.cell? ⟨PB, 2, none⟩ = some (.int .i64 o) := by rw [cell_of_row W2 PB 2 _ _ _ HY1.out]; rfl
            have p3 : W2.cell? ⟨PB, 3, none⟩ = some (.bool vu) := by rw [cell_of_row W2 PB 3 _ _ _ HY1.out]; rfl
            have p4 : W2.cell? ⟨PB, 4, none⟩ = some (.int .i64 vk) := by rw [cell_of_row W2 PB 4 _ _ _ HY1.out]; rfl
            have p5 : W2.cell? ⟨PB, 5, none⟩ = some (.int .i64 vn) := by rw [cell_of_row W2 PB 5 _ _ _ HY1.out]; rfl
            have p6 : W2.cell? ⟨PB, 6, none⟩ = some (.slice va vl vc) := by rw [cell_of_row W2 PB 6 _ _ _ HY1.out]; rfl
            have p7 : W2.cell? ⟨PB, 7, none⟩ = some (.slice ea m ec) := by rw [cell_of_row W2 PB 7 _ _ _ HY1.out]; rfl
            go_wp2_with fail
            go_ret
            exact ⟨by rw [HA.out, hc, ho, hz, hm] <;> simp, HB1.out⟩
          · have hmi : decide ((m : Int) ≤ 8) = true := by rw [← hm]; exact lenE m
            go_wp2_with fail
            refine HZ.out.mono ?_
            rintro e W2 ⟨rfl, hb2⟩
            have HX1 := Lib.hid ((hb2.block SB (Array.getElem?_eq_some_iff.1 HX0.out).1).trans HX0.out)
            have HY1 := Lib.hid ((hb2.block PB (Array.getElem?_eq_some_iff.1 HY0.out).1).trans HY0.out)
            have HB1 := Lib.hid (below_then HB0.out hb2)
            clear hb2 cs0 p0 p1 p2 p3 p4 p5 p6 p7
            have cs0 : W2.cell? ⟨SB, 0, none⟩ = some (.slice sa sn sc) := by rw [cell_of_row W2 SB 0 _ _ _ HX1.out]; rfl
            have p0 : W2.cell? ⟨PB, 0, none⟩ = some (.int .i64 5) := by rw [cell_of_row W2 PB 0 _ _ _ HY1.out]; rfl
            have p1 : W2.cell? ⟨PB, 1, none⟩ = some (.int .i64 c) := by rw [cell_of_row W2 PB 1 _ _ _ HY1.out]; rfl
            have p2 : W2.cell? ⟨PB, 2, none⟩ = some (.int .i64 o) := by rw [cell_of_row W2 PB 2 _ _ _ HY1.out]; rfl
            have p3 : W2.cell? ⟨PB, 3, none⟩ = some (.bool vu) := by rw [cell_of_row W2 PB 3 _ _ _ HY1.out]; rfl
            have p4 : W2.cell? ⟨PB, 4, none⟩ = some (.int .i64 vk) := by rw [cell_of_row W2 PB 4 _ _ _ HY1.out]; rfl
            have p5 : W2.cell? ⟨PB, 5, none⟩ = some (.int .i64 vn) := by rw [cell_of_row W2 PB 5 _ _ _ HY1.out]; rfl
            have p6 : W2.cell? ⟨PB, 6, none⟩ = some (.slice va vl vc) := by rw [cell_of_row W2 PB 6 _ _ _ HY1.out]; rfl
            have p7 : W2.cell? ⟨PB, 7, none⟩ = some (.slice ea m ec) := by rw [cell_of_row W2 PB 7 _ _ _ HY1.out]; rfl
            go_wp2_with fail
            go_ret
            exact ⟨by rw [HA.out, hc, ho, hz, hm] <;> simp, HB1.out⟩
  · have HB0 := Lib.hid (below2 w (.cells #[.slice sa sn sc] 24) (.cells #[.int .i64 6, .int .i64 c, .int .i64 o, .bool vu, .int .i64 vk, .int .i64 vn, .slice va vl vc, .slice ea m ec] 31))
    have HX0 := Lib.hid ((heap_alloc_old (w.alloc (.cells #[.slice sa sn sc] 24)) (.cells #[.int .i64 6, .int .i64 c, .int .i64 o, .bool vu, .int .i64 vk, .int .i64 vn, .slice va vl vc, .slice ea m ec] 31) (r := w.heap.size) (by simp)).trans (heap_alloc_new w _))
    have HY0 := Lib.hid (heap2 w (.cells #[.slice sa sn sc] 24) (.cells #[.int .i64 6, .int .i64 c, .int .i64 o, .bool vu, .int .i64 vk, .int .i64 vn, .slice va vl vc, .slice ea m ec] 31))
    go_enter Try.func100, Try.ntmps100
    go_upto_region 1 with (fail)
    obtain ⟨W, hW⟩ : ∃ W : World, W = (w.alloc (.cells #[.slice sa sn sc] 24)).alloc (.cells #[.int .i64 6, .int .i64 c, .int .i64 o, .bool vu, .int .i64 vk, .int .i64 vn, .slice va vl vc, .slice ea m ec] 31) := ⟨_, rfl⟩
    rw [← hW] at HB0 HX0 HY0 ⊢
    obtain ⟨SB, hA⟩ : ∃ SB, SB = w.heap.size := ⟨_, rfl⟩
    rw [← hA] at HX0 HY0 ⊢
    obtain ⟨PB, hB⟩ : ∃ PB, PB = SB + 1 := ⟨_, rfl⟩
    rw [← hB] at HY0 ⊢
    have HAB := Lib.hid (show PB ≠ SB by omega)
    clear hW hA hB
    have HVW := Lib.hid (RdC.kept HV.out HB0.out)
    have HOW := Lib.hid (HOK.out.kept HB0.out)
    have cs0 : W.cell? ⟨SB, 0, none⟩ = some (.slice sa sn sc) := by rw [cell_of_row W SB 0 _ _ _ HX0.out]; rfl
    have p0 : W.cell? ⟨PB, 0, none⟩ = some (.int .i64 6) := by rw [cell_of_row W PB 0 _ _ _ HY0.out]; rfl
    have p1 : W.cell? ⟨PB, 1, none⟩ = some (.int .i64 c) := by rw [cell_of_row W PB 1 _ _ _ HY0.out]; rfl
    have p2 : W.cell? ⟨PB, 2, none⟩ = some (.int .i64 o) := by rw [cell_of_row W PB 2 _ _ _ HY0.out]; rfl
    have p3 : W.cell? ⟨PB, 3, none⟩ = some (.bool vu) := by rw [cell_of_row W PB 3 _ _ _ HY0.out]; rfl
    have p4 : W.cell? ⟨PB, 4, none⟩ = some (.int .i64 vk) := by rw [cell_of_row W PB 4 _ _ _ HY0.out]; rfl
    have p5 : W.cell? ⟨PB, 5, none⟩ = some (.int .i64 vn) := by rw [cell_of_row W PB 5 _ _ _ HY0.out]; rfl
    have p6 : W.cell? ⟨PB, 6, none⟩ = some (.slice va vl vc) := by rw [cell_of_row W PB 6 _ _ _ HY0.out]; rfl
    have p7 : W.cell? ⟨PB, 7, none⟩ = some (.slice ea m ec) := by rw [cell_of_row W PB 7 _ _ _ HY0.out]; rfl
    have HA := Lib.hid (show shapeB cols 6 c o ⟨vu, vk, vn, vb⟩ m = ((c == 0) && (o == 0) && isZ ⟨vu, vk, vn, vb⟩ && (m == 1)) by unfold shapeB; simp)
    have HZ := Lib.hid (isZero_any (⟨vu, vk, vn, vb⟩, _) W HOW.out)
    unfold aggV at HZ
    simp only at HZ
    cases hc : (c == 0)
    · go_wp2_with fail
      go_ret
      exact ⟨by rw [HA.out, hc] <;> simp, HB0.out⟩
    · cases ho : (o == 0)
      · go_wp2_with fail
        go_ret
        exact ⟨by rw [HA.out, hc, ho] <;> simp, HB0.out⟩
      · cases hz : isZ ⟨vu, vk, vn, vb⟩
        · rw [hz] at HZ
          go_wp2_with fail
          refine HZ.out.mono ?_
          rintro e W2 ⟨rfl, hb2⟩
          have HX1 := Lib.hid ((hb2.block SB (Array.getElem?_eq_some_iff.1 HX0.out).1).trans HX0.out)
          have HY1 := Lib.hid ((hb2.block PB (Array.getElem?_eq_some_iff.1 HY0.out).1).trans HY0.out)
          have HB1 := Lib.hid (below_then HB0.out hb2)
          clear hb2 cs0 p0 p1 p2 p3 p4 p5 p6 p7
          have cs0 : W2.cell? ⟨SB, 0, none⟩ = some (.slice sa sn sc) := by rw [cell_of_row W2 SB 0 _ _ _ HX1.out]; rfl
          have p0 : W2.cell? ⟨PB, 0, none⟩ = some (.int .i64 6) := by rw [cell_of_row W2 PB 0 _ _ _ HY1.out]; rfl
          have p1 : W2.cell? ⟨PB, 1, none⟩ = some (.int .i64 c) := by rw [cell_of_row W2 PB 1 _ _ _ HY1.out]; rfl
          have p2 : W2.cell? ⟨PB, 2, none⟩ = some (.int .i64 o) := by rw [cell_of_row W2 PB 2 _ _ _ HY1.out]; rfl
          have p3 : W2.cell? ⟨PB, 3, none⟩ = some (.bool vu) := by rw [cell_of_row W2 PB 3 _ _ _ HY1.out]; rfl
          have p4 : W2.cell? ⟨PB, 4, none⟩ = some (.int .i64 vk) := by rw [cell_of_row W2 PB 4 _ _ _ HY1.out]; rfl
          have p5 : W2.cell? ⟨PB, 5, none⟩ = some (.int .i64 vn) := by rw [cell_of_row W2 PB 5 _ _ _ HY1.out]; rfl
          have p6 : W2.cell? ⟨PB, 6, none⟩ = some (.slice va vl vc) := by rw [cell_of_row W2 PB 6 _ _ _ HY1.out]; rfl
          have p7 : W2.cell? ⟨PB, 7, none⟩ = some (.slice ea m ec) := by rw [cell_of_row W2 PB 7 _ _ _ HY1.out]; rfl
          go_wp2_with fail
          go_ret
          exact ⟨by rw [HA.out, hc, ho, hz] <;> simp, HB1.out⟩
        · rw [hz] at HZ
          cases hm : (m == 1)
          · have hmi : ((m : Int) == 1) = false := by rw [← hm]; exact lenO m
            go_wp2_with fail
            refine HZ.out.mono ?_
            rintro e W2 ⟨rfl, hb2⟩
            have HX1 := Lib.hid ((hb2.block SB (Array.getElem?_eq_some_iff.1 HX0.out).1).trans HX0.out)
            have HY1 := Lib.hid ((hb2.block PB (Array.getElem?_eq_some_iff.1 HY0.out).1).trans HY0.out)
            have HB1 := Lib.hid (below_then HB0.out hb2)
            clear hb2 cs0 p0 p1 p2 p3 p4 p5 p6 p7
            have cs0 : W2.cell? ⟨SB, 0, none⟩ = some (.slice sa sn sc) := by rw [cell_of_row W2 SB 0 _ _ _ HX1.out]; rfl
            have p0 : W2.cell? ⟨PB, 0, none⟩ = some (.int .i64 6) := by rw [cell_of_row W2 PB 0 _ _ _ HY1.out]; rfl
            have p1 : W2.cell? ⟨PB, 1, none⟩ = some (.int .i64 c) := by rw [cell_of_row W2 PB 1 _ _ _ HY1.out]; rfl
            have p2 : W2.cell? ⟨PB, 2, none⟩ = some (.int .i64 o) := by rw [cell_of_row W2 PB 2 _ _ _ HY1.out]; rfl
            have p3 : W2.cell? ⟨PB, 3, none⟩ = some (.bool vu) := by rw [cell_of_row W2 PB 3 _ _ _ HY1.out]; rfl
            have p4 : W2.cell? ⟨PB, 4, none⟩ = some (.int .i64 vk) := by rw [cell_of_row W2 PB 4 _ _ _ HY1.out]; rfl
            have p5 : W2.cell? ⟨PB, 5, none⟩ = some (.int .i64 vn) := by rw [cell_of_row W2 PB 5 _ _ _ HY1.out]; rfl
            have p6 : W2.cell? ⟨PB, 6, none⟩ = some (.slice va vl vc) := by rw [cell_of_row W2 PB 6 _ _ _ HY1.out]; rfl
            have p7 : W2.cell? ⟨PB, 7, none⟩ = some (.slice ea m ec) := by rw [cell_of_row W2 PB 7 _ _ _ HY1.out]; rfl
            go_wp2_with fail
            go_ret
            exact ⟨by rw [HA.out, hc, ho, hz, hm] <;> simp, HB1.out⟩
          · have hmi : ((m : Int) == 1) = true := by rw [← hm]; exact lenO m
            go_wp2_with fail
            refine HZ.out.mono ?_
            rintro e W2 ⟨rfl, hb2⟩
            have HX1 := Lib.hid ((hb2.block SB (Array.getElem?_eq_some_iff.1 HX0.out).1).trans HX0.out)
            have HY1 := Lib.hid ((hb2.block PB (Array.getElem?_eq_some_iff.1 HY0.out).1).trans HY0.out)
            have HB1 := Lib.hid (below_then HB0.out hb2)
            clear hb2 cs0 p0 p1 p2 p3 p4 p5 p6 p7
            have cs0 : W2.cell? ⟨SB, 0, none⟩ = some (.slice sa sn sc) := by rw [cell_of_row W2 SB 0 _ _ _ HX1.out]; rfl
            have p0 : W2.cell? ⟨PB, 0, none⟩ = some (.int .i64 6) := by rw [cell_of_row W2 PB 0 _ _ _ HY1.out]; rfl
            have p1 : W2.cell? ⟨PB, 1, none⟩ = some (.int .i64 c) := by rw [cell_of_row W2 PB 1 _ _ _ HY1.out]; rfl
            have p2 : W2.cell? ⟨PB, 2, none⟩ = some (.int .i64 o) := by rw [cell_of_row W2 PB 2 _ _ _ HY1.out]; rfl
            have p3 : W2.cell? ⟨PB, 3, none⟩ = some (.bool vu) := by rw [cell_of_row W2 PB 3 _ _ _ HY1.out]; rfl
            have p4 : W2.cell? ⟨PB, 4, none⟩ = some (.int .i64 vk) := by rw [cell_of_row W2 PB 4 _ _ _ HY1.out]; rfl
            have p5 : W2.cell? ⟨PB, 5, none⟩ = some (.int .i64 vn) := by rw [cell_of_row W2 PB 5 _ _ _ HY1.out]; rfl
            have p6 : W2.cell? ⟨PB, 6, none⟩ = some (.slice va vl vc) := by rw [cell_of_row W2 PB 6 _ _ _ HY1.out]; rfl
            have p7 : W2.cell? ⟨PB, 7, none⟩ = some (.slice ea m ec) := by rw [cell_of_row W2 PB 7 _ _ _ HY1.out]; rfl
            go_wp2_with fail
            go_ret
            exact ⟨by rw [HA.out, hc, ho, hz, hm] <;> simp, HB1.out⟩
  · have HA := Lib.hid (show shapeB cols k c o ⟨vu, vk, vn, vb⟩ m = false by unfold shapeB; simp [h1, h2, h3, h4, h5, h6])
    replace h1 : (k == 1) = false := by rw [beq_eq_false_iff_ne]; exact h1
    replace h2 : (k == 2) = false := by rw [beq_eq_false_iff_ne]; exact h2
    replace h3 : (k == 3) = false := by rw [beq_eq_false_iff_ne]; exact h3
    replace h4 : (k == 4) = false := by rw [beq_eq_false_iff_ne]; exact h4
    replace h5 : (k == 5) = false := by rw [beq_eq_false_iff_ne]; exact h5
    replace h6 : (k == 6) = false := by rw [beq_eq_false_iff_ne]; exact h6
    have HB0 := Lib.hid (below2 w (.cells #[.slice sa sn sc] 24) (.cells #[.int .i64 k, .int .i64 c, .int .i64 o, .bool vu, .int .i64 vk, .int .i64 vn, .slice va vl vc, .slice ea m ec] 31))
    have HX0 := Lib.hid ((heap_alloc_old (w.alloc (.cells #[.slice sa sn sc] 24)) (.cells #[.int .i64 k, .int .i64 c, .int .i64 o, .bool vu, .int .i64 vk, .int .i64 vn, .slice va vl vc, .slice ea m ec] 31) (r := w.heap.size) (by simp)).trans (heap_alloc_new w _))
    have HY0 := Lib.hid (heap2 w (.cells #[.slice sa sn sc] 24) (.cells #[.int .i64 k, .int .i64 c, .int .i64 o, .bool vu, .int .i64 vk, .int .i64 vn, .slice va vl vc, .slice ea m ec] 31))
    go_enter Try.func100, Try.ntmps100
    go_upto_region 1 with (fail)
    obtain ⟨W, hW⟩ : ∃ W : World, W = (w.alloc (.cells #[.slice sa sn sc] 24)).alloc (.cells #[.int .i64 k, .int .i64 c, .int .i64 o, .bool vu, .int .i64 vk, .int .i64 vn, .slice va vl vc, .slice ea m ec] 31) := ⟨_, rfl⟩
    rw [← hW] at HB0 HX0 HY0 ⊢
    obtain ⟨SB, hA⟩ : ∃ SB, SB = w.heap.size := ⟨_, rfl⟩
    rw [← hA] at HX0 HY0 ⊢
    obtain ⟨PB, hB⟩ : ∃ PB, PB = SB + 1 := ⟨_, rfl⟩
    rw [← hB] at HY0 ⊢
    have HAB := Lib.hid (show PB ≠ SB by omega)
    clear hW hA hB
    have HVW := Lib.hid (RdC.kept HV.out HB0.out)
    have HOW := Lib.hid (HOK.out.kept HB0.out)
    have cs0 : W.cell? ⟨SB, 0, none⟩ = some (.slice sa sn sc) := by rw [cell_of_row W SB 0 _ _ _ HX0.out]; rfl
    have p0 : W.cell? ⟨PB, 0, none⟩ = some (.int .i64 k) := by rw [cell_of_row W PB 0 _ _ _ HY0.out]; rfl
    have p1 : W.cell? ⟨PB, 1, none⟩ = some (.int .i64 c) := by rw [cell_of_row W PB 1 _ _ _ HY0.out]; rfl
    have p2 : W.cell? ⟨PB, 2, none⟩ = some (.int .i64 o) := by rw [cell_of_row W PB 2 _ _ _ HY0.out]; rfl
    have p3 : W.cell? ⟨PB, 3, none⟩ = some (.bool vu) := by rw [cell_of_row W PB 3 _ _ _ HY0.out]; rfl
    have p4 : W.cell? ⟨PB, 4, none⟩ = some (.int .i64 vk) := by rw [cell_of_row W PB 4 _ _ _ HY0.out]; rfl
    have p5 : W.cell? ⟨PB, 5, none⟩ = some (.int .i64 vn) := by rw [cell_of_row W PB 5 _ _ _ HY0.out]; rfl
    have p6 : W.cell? ⟨PB, 6, none⟩ = some (.slice va vl vc) := by rw [cell_of_row W PB 6 _ _ _ HY0.out]; rfl
    have p7 : W.cell? ⟨PB, 7, none⟩ = some (.slice ea m ec) := by rw [cell_of_row W PB 7 _ _ _ HY0.out]; rfl
    go_wp2_with fail
    go_ret
    exact ⟨by rw [HA.out] <;> rfl, HB0.out⟩

end Go.Proofs.Ytfmkalnnpddefaa
