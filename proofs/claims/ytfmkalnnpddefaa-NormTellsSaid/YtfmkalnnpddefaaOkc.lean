/-
  Contract of the reference's right.
-/
import Derived.Test.YtfmkalnnpddefaaOkb
import Derived.Test.YtfmkalnnpddefaaNform
namespace Go.Proofs.Ytfmkalnnpddefaa
set_option linter.unusedVariables false
set_option linter.unusedSimpArgs false
open Go.RowKit

/-- right answers something. -/
def RightOK (cols : List Co) (p : Pt) : Prop := ∀ (cs : List Value) (sv : Value) (w : World), RdC w sv cols → RdT1 w p cs →
  Calls Try.prog 67 #[.agg #[sv], .agg cs.toArray] w fun e w' => ∃ b, e = .returned (.bool b) ∧ Below w.heap.size w w'

set_option maxRecDepth 100000 in
set_option maxHeartbeats 8000000 in
theorem right_B (cols : List Co) (q : Nat) (hq : q < cols.length) : RightOK cols (.mk 3 (q : Int) 0 zeroV []) := by
  intro cs sv w hv hr
  obtain ⟨sa, sc, rfl⟩ := rdC_shape hv
  unfold RdT1 at hr
  obtain ⟨s, ls, css, rfl, hok, hls, hts⟩ := hr
  obtain ⟨va, vc, hes⟩ := rd_shape8 hok.1
  obtain ⟨ea, ec, hel⟩ := rdS_shape hls
  simp only at hes
  subst hes hel
  have hcl := rdTs_len hts
  have hcl0 : css.length = 0 := hcl
  obtain ⟨sn, hsn⟩ : ∃ sn, sn = cols.length := ⟨_, rfl⟩
  rw [hcl0, ← hsn]
  rw [← hsn] at hq
  clear hcl hcl0 hls hts hok hv hsn
  unfold cellsP
  simp only [zeroV, List.length_nil]
  have hq0 : (0 : Int) ≤ (q : Int) := by omega
  have hq1 : decide ((0 : Int) ≤ (q : Int)) = true := by rw [decide_eq_true_eq]; omega
  have hq2 : decide ((q : Int) < (sn : Int)) = true := by rw [decide_eq_true_eq]; omega
  have hq3 : decide (q < sn) = true := by rw [decide_eq_true_eq]; omega
  have hq4 : (q : Int) < (sn : Int) := by omega
  by_cases hc : q = 0
  · subst hc
    have hs0 : (0 : Int) < (sn : Int) := by omega
    have hs1 : decide ((0 : Int) < (sn : Int)) = true := by rw [decide_eq_true_eq]; omega
    have hs2 : decide (0 < sn) = true := by rw [decide_eq_true_eq]; omega
    have hs3 : 0 < sn := by omega
    simp only [Int.natCast_zero, show ((0 : Nat) : Int) = 0 from rfl] at hq0 hq1 hq2 hq3 hq4 ⊢
    have HB0 := Lib.hid (below2 w (.cells #[.slice sa sn sc] 24) (.cells #[.int .i64 3, .int .i64 0, .int .i64 0, .bool false, .int .i64 0, .int .i64 0, .slice va 0 vc, .slice ea 0 ec] 31))
    have HX0 := Lib.hid ((heap_alloc_old (w.alloc (.cells #[.slice sa sn sc] 24)) (.cells #[.int .i64 3, .int .i64 0, .int .i64 0, .bool false, .int .i64 0, .int .i64 0, .slice va 0 vc, .slice ea 0 ec] 31) (r := w.heap.size) (by simp)).trans (heap_alloc_new w _))
    have HY0 := Lib.hid (heap2 w (.cells #[.slice sa sn sc] 24) (.cells #[.int .i64 3, .int .i64 0, .int .i64 0, .bool false, .int .i64 0, .int .i64 0, .slice va 0 vc, .slice ea 0 ec] 31))
    go_enter Try.func67, Try.ntmps67
    go_upto_region 1 with (fail)
    obtain ⟨W, hW⟩ : ∃ W : World, W = (w.alloc (.cells #[.slice sa sn sc] 24)).alloc (.cells #[.int .i64 3, .int .i64 0, .int .i64 0, .bool false, .int .i64 0, .int .i64 0, .slice va 0 vc, .slice ea 0 ec] 31) := ⟨_, rfl⟩
    rw [← hW] at HB0 HX0 HY0 ⊢
    obtain ⟨SB, hSB⟩ : ∃ SB, SB = w.heap.size := ⟨_, rfl⟩
    rw [← hSB] at HX0 HY0 ⊢
    obtain ⟨PB, hPB⟩ : ∃ PB, PB = SB + 1 := ⟨_, rfl⟩
    rw [← hPB] at HY0 ⊢
    have HPS := Lib.hid (show PB ≠ SB by omega)
    clear hW hSB hPB
    have cpS := HX0.out
    have cpP := HY0.out
    have cs0 : W.cell? ⟨SB, 0, none⟩ = some (.slice sa sn sc) := by rw [cell_of_row W SB 0 _ _ _ cpS]; rfl
    have cp0 : W.cell? ⟨PB, 0, none⟩ = some (.int .i64 3) := by rw [cell_of_row W PB 0 _ _ _ cpP]; rfl
    have cp1 : W.cell? ⟨PB, 1, none⟩ = some (.int .i64 0) := by rw [cell_of_row W PB 1 _ _ _ cpP]; rfl
    have cp2 : W.cell? ⟨PB, 2, none⟩ = some (.int .i64 0) := by rw [cell_of_row W PB 2 _ _ _ cpP]; rfl
    have cp3 : W.cell? ⟨PB, 3, none⟩ = some (.bool false) := by rw [cell_of_row W PB 3 _ _ _ cpP]; rfl
    have cp4 : W.cell? ⟨PB, 4, none⟩ = some (.int .i64 0) := by rw [cell_of_row W PB 4 _ _ _ cpP]; rfl
    have cp5 : W.cell? ⟨PB, 5, none⟩ = some (.int .i64 0) := by rw [cell_of_row W PB 5 _ _ _ cpP]; rfl
    have cp6 : W.cell? ⟨PB, 6, none⟩ = some (.slice va 0 vc) := by rw [cell_of_row W PB 6 _ _ _ cpP]; rfl
    have cp7 : W.cell? ⟨PB, 7, none⟩ = some (.slice ea 0 ec) := by rw [cell_of_row W PB 7 _ _ _ cpP]; rfl
    clear cpS cpP
    go_wp2_with fail
    refine (zero_zero va vc W).mono ?_
    rintro e W2 ⟨rfl, hb2⟩
    have HX1 := Lib.hid ((hb2.block SB (Array.getElem?_eq_some_iff.1 HX0.out).1).trans HX0.out)
    have HY1 := Lib.hid ((hb2.block PB (Array.getElem?_eq_some_iff.1 HY0.out).1).trans HY0.out)
    have HB1 := Lib.hid (below_then HB0.out hb2)
    clear hb2
    clear cs0 cp0 cp1 cp2 cp3 cp4 cp5 cp6 cp7
    have cpS := HX1.out
    have cpP := HY1.out
    have cs0 : W2.cell? ⟨SB, 0, none⟩ = some (.slice sa sn sc) := by rw [cell_of_row W2 SB 0 _ _ _ cpS]; rfl
    have cp0 : W2.cell? ⟨PB, 0, none⟩ = some (.int .i64 3) := by rw [cell_of_row W2 PB 0 _ _ _ cpP]; rfl
    have cp1 : W2.cell? ⟨PB, 1, none⟩ = some (.int .i64 0) := by rw [cell_of_row W2 PB 1 _ _ _ cpP]; rfl
    have cp2 : W2.cell? ⟨PB, 2, none⟩ = some (.int .i64 0) := by rw [cell_of_row W2 PB 2 _ _ _ cpP]; rfl
    have cp3 : W2.cell? ⟨PB, 3, none⟩ = some (.bool false) := by rw [cell_of_row W2 PB 3 _ _ _ cpP]; rfl
    have cp4 : W2.cell? ⟨PB, 4, none⟩ = some (.int .i64 0) := by rw [cell_of_row W2 PB 4 _ _ _ cpP]; rfl
    have cp5 : W2.cell? ⟨PB, 5, none⟩ = some (.int .i64 0) := by rw [cell_of_row W2 PB 5 _ _ _ cpP]; rfl
    have cp6 : W2.cell? ⟨PB, 6, none⟩ = some (.slice va 0 vc) := by rw [cell_of_row W2 PB 6 _ _ _ cpP]; rfl
    have cp7 : W2.cell? ⟨PB, 7, none⟩ = some (.slice ea 0 ec) := by rw [cell_of_row W2 PB 7 _ _ _ cpP]; rfl
    clear cpS cpP
    go_wp2_with fail
    refine (zero_zero va vc W2).mono ?_
    rintro e W3 ⟨rfl, hb3⟩
    have HB3 := Lib.hid (below_then HB1.out hb3)
    clear hb3
    clear cs0 cp0 cp1 cp2 cp3 cp4 cp5 cp6 cp7
    go_wp2_with fail
    go_ret
    exact ⟨_, rfl, HB3.out⟩
  · have hc1 : ((q : Int) == 0) = false := by rw [beq_eq_false_iff_ne]; omega
    have hc2 : (q == 0) = false := by rw [beq_eq_false_iff_ne]; omega
    have hc3 : ¬ ((q : Int) = 0) := by omega
    have HB0 := Lib.hid (below2 w (.cells #[.slice sa sn sc] 24) (.cells #[.int .i64 3, .int .i64 (q : Int), .int .i64 0, .bool false, .int .i64 0, .int .i64 0, .slice va 0 vc, .slice ea 0 ec] 31))
    have HX0 := Lib.hid ((heap_alloc_old (w.alloc (.cells #[.slice sa sn sc] 24)) (.cells #[.int .i64 3, .int .i64 (q : Int), .int .i64 0, .bool false, .int .i64 0, .int .i64 0, .slice va 0 vc, .slice ea 0 ec] 31) (r := w.heap.size) (by simp)).trans (heap_alloc_new w _))
    have HY0 := Lib.hid (heap2 w (.cells #[.slice sa sn sc] 24) (.cells #[.int .i64 3, .int .i64 (q : Int), .int .i64 0, .bool false, .int .i64 0, .int .i64 0, .slice va 0 vc, .slice ea 0 ec] 31))
    go_enter Try.func67, Try.ntmps67
    go_upto_region 1 with (fail)
    obtain ⟨W, hW⟩ : ∃ W : World, W = (w.alloc (.cells #[.slice sa sn sc] 24)).alloc (.cells #[.int .i64 3, .int .i64 (q : Int), .int .i64 0, .bool false, .int .i64 0, .int .i64 0, .slice va 0 vc, .slice ea 0 ec] 31) := ⟨_, rfl⟩
    rw [← hW] at HB0 HX0 HY0 ⊢
    obtain ⟨SB, hSB⟩ : ∃ SB, SB = w.heap.size := ⟨_, rfl⟩
    rw [← hSB] at HX0 HY0 ⊢
    obtain ⟨PB, hPB⟩ : ∃ PB, PB = SB + 1 := ⟨_, rfl⟩
    rw [← hPB] at HY0 ⊢
    have HPS := Lib.hid (show PB ≠ SB by omega)
    clear hW hSB hPB
    have cpS := HX0.out
    have cpP := HY0.out
    have cs0 : W.cell? ⟨SB, 0, none⟩ = some (.slice sa sn sc) := by rw [cell_of_row W SB 0 _ _ _ cpS]; rfl
    have cp0 : W.cell? ⟨PB, 0, none⟩ = some (.int .i64 3) := by rw [cell_of_row W PB 0 _ _ _ cpP]; rfl
    have cp1 : W.cell? ⟨PB, 1, none⟩ = some (.int .i64 (q : Int)) := by rw [cell_of_row W PB 1 _ _ _ cpP]; rfl
    have cp2 : W.cell? ⟨PB, 2, none⟩ = some (.int .i64 0) := by rw [cell_of_row W PB 2 _ _ _ cpP]; rfl
    have cp3 : W.cell? ⟨PB, 3, none⟩ = some (.bool false) := by rw [cell_of_row W PB 3 _ _ _ cpP]; rfl
    have cp4 : W.cell? ⟨PB, 4, none⟩ = some (.int .i64 0) := by rw [cell_of_row W PB 4 _ _ _ cpP]; rfl
    have cp5 : W.cell? ⟨PB, 5, none⟩ = some (.int .i64 0) := by rw [cell_of_row W PB 5 _ _ _ cpP]; rfl
    have cp6 : W.cell? ⟨PB, 6, none⟩ = some (.slice va 0 vc) := by rw [cell_of_row W PB 6 _ _ _ cpP]; rfl
    have cp7 : W.cell? ⟨PB, 7, none⟩ = some (.slice ea 0 ec) := by rw [cell_of_row W PB 7 _ _ _ cpP]; rfl
    clear cpS cpP
    go_wp2_with fail
    refine (zero_zero va vc W).mono ?_
    rintro e W3 ⟨rfl, hb3⟩
    have HB3 := Lib.hid (below_then HB0.out hb3)
    clear hb3
    clear cs0 cp0 cp1 cp2 cp3 cp4 cp5 cp6 cp7
    go_wp2_with fail
    go_ret
    exact ⟨_, rfl, HB3.out⟩

set_option maxRecDepth 100000 in
set_option maxHeartbeats 8000000 in
theorem right_A (cols : List Co) (q : Nat) (co : Co) (hco : cols[q]? = some co) (hk : co.k = 1 ∨ co.k = 2) (o : Int) (ho1 : 1 ≤ o) (ho2 : o ≤ 6) (v : Vc) (hu : v.u = false) (hvk : v.k = co.k) : RightOK cols (.mk 2 (q : Int) o v []) := by
  intro cs sv w hv hr
  obtain ⟨sa, sc, rfl⟩ := rdC_shape hv
  unfold RdT1 at hr
  obtain ⟨s, ls, css, rfl, hok, hls, hts⟩ := hr
  obtain ⟨va, vc, hes⟩ := rd_shape8 hok.1
  obtain ⟨ea, ec, hel⟩ := rdS_shape hls
  simp only at hes
  subst hes hel
  have hcl := rdTs_len hts
  have hcl0 : css.length = 0 := hcl
  have hq : q < cols.length := (List.getElem?_eq_some_iff.1 hco).1
  obtain ⟨sn, hsn⟩ : ∃ sn, sn = cols.length := ⟨_, rfl⟩
  have HCO := Lib.hid fun W h => (RdC.kept (w' := W) hv h).at hco
  rw [hcl0]
  rw [← hsn] at hq ⊢
  clear hcl hcl0 hls hts hok hv hsn hco
  obtain ⟨cn, ck, cu⟩ := co
  obtain ⟨vu, vk, vn, vb⟩ := v
  simp only at hk hu hvk HCO
  subst hu hvk
  obtain ⟨m, hm⟩ : ∃ m, m = vb.length := ⟨_, rfl⟩
  unfold cellsP
  simp only
  rw [← hm]
  have HV := Lib.hid (value_some vk vn hk va m vc)
  clear hm hk
  have hq0 : (0 : Int) ≤ (q : Int) := by omega
  have hq1 : decide ((0 : Int) ≤ (q : Int)) = true := by rw [decide_eq_true_eq]; omega
  have hq2 : decide ((q : Int) < (sn : Int)) = true := by rw [decide_eq_true_eq]; omega
  have hq3 : decide (q < sn) = true := by rw [decide_eq_true_eq]; omega
  have hq4 : (q : Int) < (sn : Int) := by omega
  have hO1 : decide (1 ≤ o) = true := by rw [decide_eq_true_eq]; omega
  have hO2 : decide (o ≤ 6) = true := by rw [decide_eq_true_eq]; omega
  have hO3 : (o == 0) = false := by rw [beq_eq_false_iff_ne]; omega
  have hO4 : ¬ (o = 0) := by omega
  obtain ⟨z, hz⟩ : ∃ z, z = ((q : Int) == 0) := ⟨_, rfl⟩
  by_cases hc : q = 0
  · subst hc
    have hs0 : (0 : Int) < (sn : Int) := by omega
    have hs1 : decide ((0 : Int) < (sn : Int)) = true := by rw [decide_eq_true_eq]; omega
    have hs2 : decide (0 < sn) = true := by rw [decide_eq_true_eq]; omega
    have hs3 : 0 < sn := by omega
    simp only [show ((0 : Nat) : Int) = 0 from rfl] at hq0 hq1 hq2 hq3 hq4 ⊢
    clear hz
    have HB0 := Lib.hid (below2 w (.cells #[.slice sa sn sc] 24) (.cells #[.int .i64 2, .int .i64 0, .int .i64 o, .bool false, .int .i64 vk, .int .i64 vn, .slice va m vc, .slice ea 0 ec] 31))
    have HX0 := Lib.hid ((heap_alloc_old (w.alloc (.cells #[.slice sa sn sc] 24)) (.cells #[.int .i64 2, .int .i64 0, .int .i64 o, .bool false, .int .i64 vk, .int .i64 vn, .slice va m vc, .slice ea 0 ec] 31) (r := w.heap.size) (by simp)).trans (heap_alloc_new w _))
    have HY0 := Lib.hid (heap2 w (.cells #[.slice sa sn sc] 24) (.cells #[.int .i64 2, .int .i64 0, .int .i64 o, .bool false, .int .i64 vk, .int .i64 vn, .slice va m vc, .slice ea 0 ec] 31))
    go_enter Try.func67, Try.ntmps67
    go_upto_region 1 with (fail)
    obtain ⟨W, hW⟩ : ∃ W : World, W = (w.alloc (.cells #[.slice sa sn sc] 24)).alloc (.cells #[.int .i64 2, .int .i64 0, .int .i64 o, .bool false, .int .i64 vk, .int .i64 vn, .slice va m vc, .slice ea 0 ec] 31) := ⟨_, rfl⟩
    rw [← hW] at HB0 HX0 HY0 ⊢
    obtain ⟨SB, hSB⟩ : ∃ SB, SB = w.heap.size := ⟨_, rfl⟩
    rw [← hSB] at HX0 HY0 ⊢
    obtain ⟨PB, hPB⟩ : ∃ PB, PB = SB + 1 := ⟨_, rfl⟩
    rw [← hPB] at HY0 ⊢
    have HPS := Lib.hid (show PB ≠ SB by omega)
    clear hW hSB hPB
    have cpS := HX0.out
    have cpP := HY0.out
    have cs0 : W.cell? ⟨SB, 0, none⟩ = some (.slice sa sn sc) := by rw [cell_of_row W SB 0 _ _ _ cpS]; rfl
    have cp0 : W.cell? ⟨PB, 0, none⟩ = some (.int .i64 2) := by rw [cell_of_row W PB 0 _ _ _ cpP]; rfl
    have cp1 : W.cell? ⟨PB, 1, none⟩ = some (.int .i64 0) := by rw [cell_of_row W PB 1 _ _ _ cpP]; rfl
    have cp2 : W.cell? ⟨PB, 2, none⟩ = some (.int .i64 o) := by rw [cell_of_row W PB 2 _ _ _ cpP]; rfl
    have cp3 : W.cell? ⟨PB, 3, none⟩ = some (.bool false) := by rw [cell_of_row W PB 3 _ _ _ cpP]; rfl
    have cp4 : W.cell? ⟨PB, 4, none⟩ = some (.int .i64 vk) := by rw [cell_of_row W PB 4 _ _ _ cpP]; rfl
    have cp5 : W.cell? ⟨PB, 5, none⟩ = some (.int .i64 vn) := by rw [cell_of_row W PB 5 _ _ _ cpP]; rfl
    have cp6 : W.cell? ⟨PB, 6, none⟩ = some (.slice va m vc) := by rw [cell_of_row W PB 6 _ _ _ cpP]; rfl
    have cp7 : W.cell? ⟨PB, 7, none⟩ = some (.slice ea 0 ec) := by rw [cell_of_row W PB 7 _ _ _ cpP]; rfl
    clear cpS cpP
    obtain ⟨b, off, rfl, p0, p1, p2⟩ := HCO.out W HB0.out
    rw [Nat.zero_mul, Nat.add_zero] at p0 p1 p2
    have hmain : True := trivial
    go_upto_region 7 with (fail)
    set_option maxRecDepth 1000000 in
    go_region_held3 (fun w' => w'.cell? ⟨SB, 0, none⟩ = some (.slice (some ⟨b, off, none⟩) sn sc) ∧ w'.cell? ⟨PB, 0, none⟩ = some (.int .i64 2) ∧ w'.cell? ⟨PB, 1, none⟩ = some (.int .i64 0) ∧ w'.cell? ⟨PB, 2, none⟩ = some (.int .i64 o) ∧ w'.cell? ⟨PB, 3, none⟩ = some (.bool false) ∧ w'.cell? ⟨PB, 4, none⟩ = some (.int .i64 vk) ∧ w'.cell? ⟨PB, 5, none⟩ = some (.int .i64 vn) ∧ w'.cell? ⟨PB, 6, none⟩ = some (.slice va m vc) ∧ w'.cell? ⟨PB, 7, none⟩ = some (.slice ea 0 ec) ∧ w'.cell? ⟨b, off + 1, none⟩ = some (.int .i64 vk)) (first | assumption | exact ⟨(by first | exact cs0 | exact (hS3.cell (World.block_lt_of_cell? _ _ cs0)).trans cs0), (by first | exact cp0 | exact (hS3.cell (World.block_lt_of_cell? _ _ cp0)).trans cp0), (by first | exact cp1 | exact (hS3.cell (World.block_lt_of_cell? _ _ cp1)).trans cp1), (by first | exact cp2 | exact (hS3.cell (World.block_lt_of_cell? _ _ cp2)).trans cp2), (by first | exact cp3 | exact (hS3.cell (World.block_lt_of_cell? _ _ cp3)).trans cp3), (by first | exact cp4 | exact (hS3.cell (World.block_lt_of_cell? _ _ cp4)).trans cp4), (by first | exact cp5 | exact (hS3.cell (World.block_lt_of_cell? _ _ cp5)).trans cp5), (by first | exact cp6 | exact (hS3.cell (World.block_lt_of_cell? _ _ cp6)).trans cp6), (by first | exact cp7 | exact (hS3.cell (World.block_lt_of_cell? _ _ cp7)).trans cp7), (by first | exact p1 | exact (hS3.cell (World.block_lt_of_cell? _ _ p1)).trans p1)⟩)
      (first | (go_at_call 107; refine (HV.out _).mono ?_; rintro e w3 ⟨bb, rfl, hb3⟩; have hS3 : Below W.heap.size W w3 := (by first | exact hb3 | exact Below.trans (below_drw _ _) hb3)))
    all_goals
      go_wp2_with fail
      go_ret
      exact ⟨_, rfl, below_then HB0.out hS3⟩
  · have hc1 : ((q : Int) == 0) = false := by rw [beq_eq_false_iff_ne]; omega
    have hc2 : (q == 0) = false := by rw [beq_eq_false_iff_ne]; omega
    have hc3 : ¬ ((q : Int) = 0) := by omega
    clear hz
    have HB0 := Lib.hid (below2 w (.cells #[.slice sa sn sc] 24) (.cells #[.int .i64 2, .int .i64 (q : Int), .int .i64 o, .bool false, .int .i64 vk, .int .i64 vn, .slice va m vc, .slice ea 0 ec] 31))
    have HX0 := Lib.hid ((heap_alloc_old (w.alloc (.cells #[.slice sa sn sc] 24)) (.cells #[.int .i64 2, .int .i64 (q : Int), .int .i64 o, .bool false, .int .i64 vk, .int .i64 vn, .slice va m vc, .slice ea 0 ec] 31) (r := w.heap.size) (by simp)).trans (heap_alloc_new w _))
    have HY0 := Lib.hid (heap2 w (.cells #[.slice sa sn sc] 24) (.cells #[.int .i64 2, .int .i64 (q : Int), .int .i64 o, .bool false, .int .i64 vk, .int .i64 vn, .slice va m vc, .slice ea 0 ec] 31))
    go_enter Try.func67, Try.ntmps67
    go_upto_region 1 with (fail)
    obtain ⟨W, hW⟩ : ∃ W : World, W = (w.alloc (.cells #[.slice sa sn sc] 24)).alloc (.cells #[.int .i64 2, .int .i64 (q : Int), .int .i64 o, .bool false, .int .i64 vk, .int .i64 vn, .slice va m vc, .slice ea 0 ec] 31) := ⟨_, rfl⟩
    rw [← hW] at HB0 HX0 HY0 ⊢
    obtain ⟨SB, hSB⟩ : ∃ SB, SB = w.heap.size := ⟨_, rfl⟩
    rw [← hSB] at HX0 HY0 ⊢
    obtain ⟨PB, hPB⟩ : ∃ PB, PB = SB + 1 := ⟨_, rfl⟩
    rw [← hPB] at HY0 ⊢
    have HPS := Lib.hid (show PB ≠ SB by omega)
    clear hW hSB hPB
    have cpS := HX0.out
    have cpP := HY0.out
    have cs0 : W.cell? ⟨SB, 0, none⟩ = some (.slice sa sn sc) := by rw [cell_of_row W SB 0 _ _ _ cpS]; rfl
    have cp0 : W.cell? ⟨PB, 0, none⟩ = some (.int .i64 2) := by rw [cell_of_row W PB 0 _ _ _ cpP]; rfl
    have cp1 : W.cell? ⟨PB, 1, none⟩ = some (.int .i64 (q : Int)) := by rw [cell_of_row W PB 1 _ _ _ cpP]; rfl
    have cp2 : W.cell? ⟨PB, 2, none⟩ = some (.int .i64 o) := by rw [cell_of_row W PB 2 _ _ _ cpP]; rfl
    have cp3 : W.cell? ⟨PB, 3, none⟩ = some (.bool false) := by rw [cell_of_row W PB 3 _ _ _ cpP]; rfl
    have cp4 : W.cell? ⟨PB, 4, none⟩ = some (.int .i64 vk) := by rw [cell_of_row W PB 4 _ _ _ cpP]; rfl
    have cp5 : W.cell? ⟨PB, 5, none⟩ = some (.int .i64 vn) := by rw [cell_of_row W PB 5 _ _ _ cpP]; rfl
    have cp6 : W.cell? ⟨PB, 6, none⟩ = some (.slice va m vc) := by rw [cell_of_row W PB 6 _ _ _ cpP]; rfl
    have cp7 : W.cell? ⟨PB, 7, none⟩ = some (.slice ea 0 ec) := by rw [cell_of_row W PB 7 _ _ _ cpP]; rfl
    clear cpS cpP
    obtain ⟨b, off, rfl, p0, p1, p2⟩ := HCO.out W HB0.out
    have hmain : True := trivial
    go_upto_region 7 with (fail)
    set_option maxRecDepth 1000000 in
    go_region_held3 (fun w' => w'.cell? ⟨SB, 0, none⟩ = some (.slice (some ⟨b, off, none⟩) sn sc) ∧ w'.cell? ⟨PB, 0, none⟩ = some (.int .i64 2) ∧ w'.cell? ⟨PB, 1, none⟩ = some (.int .i64 (q : Int)) ∧ w'.cell? ⟨PB, 2, none⟩ = some (.int .i64 o) ∧ w'.cell? ⟨PB, 3, none⟩ = some (.bool false) ∧ w'.cell? ⟨PB, 4, none⟩ = some (.int .i64 vk) ∧ w'.cell? ⟨PB, 5, none⟩ = some (.int .i64 vn) ∧ w'.cell? ⟨PB, 6, none⟩ = some (.slice va m vc) ∧ w'.cell? ⟨PB, 7, none⟩ = some (.slice ea 0 ec) ∧ w'.cell? ⟨b, off + q * 3 + 1, none⟩ = some (.int .i64 vk)) (first | assumption | exact ⟨(by first | exact cs0 | exact (hS3.cell (World.block_lt_of_cell? _ _ cs0)).trans cs0), (by first | exact cp0 | exact (hS3.cell (World.block_lt_of_cell? _ _ cp0)).trans cp0), (by first | exact cp1 | exact (hS3.cell (World.block_lt_of_cell? _ _ cp1)).trans cp1), (by first | exact cp2 | exact (hS3.cell (World.block_lt_of_cell? _ _ cp2)).trans cp2), (by first | exact cp3 | exact (hS3.cell (World.block_lt_of_cell? _ _ cp3)).trans cp3), (by first | exact cp4 | exact (hS3.cell (World.block_lt_of_cell? _ _ cp4)).trans cp4), (by first | exact cp5 | exact (hS3.cell (World.block_lt_of_cell? _ _ cp5)).trans cp5), (by first | exact cp6 | exact (hS3.cell (World.block_lt_of_cell? _ _ cp6)).trans cp6), (by first | exact cp7 | exact (hS3.cell (World.block_lt_of_cell? _ _ cp7)).trans cp7), (by first | exact p1 | exact (hS3.cell (World.block_lt_of_cell? _ _ p1)).trans p1)⟩)
      (first | (go_at_call 107; refine (HV.out _).mono ?_; rintro e w3 ⟨bb, rfl, hb3⟩; have hS3 : Below W.heap.size W w3 := (by first | exact hb3 | exact Below.trans (below_drw _ _) hb3)))
    all_goals
      go_wp2_with fail
      go_ret
      exact ⟨_, rfl, below_then HB0.out hS3⟩

end Go.Proofs.Ytfmkalnnpddefaa
