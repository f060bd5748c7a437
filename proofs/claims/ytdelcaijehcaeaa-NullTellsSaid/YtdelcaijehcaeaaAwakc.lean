/-
  What the document fixes of layer 3, walked.
-/
import Derived.Test.YtdelcaijehcaeaaNulle
namespace Go.Proofs.Ytdelcaijehcaeaa
set_option linter.unusedVariables false
open Go.RowKit

/-- An empty row that was written down is one's own. -/
theorem own_empty (w : World) (B : Nat) (E : TypeId) (hB : B ≤ w.heap.size) : (w.alloc (.cells #[] E)).ownsRow B E 1 (.slice (some ⟨w.heap.size, 0, none⟩) 0 0) 0 [] :=
  World.ownsRow_lit (base := B) (size := 1) w #[] 0 hB (by unfold maxLen; omega) rfl

set_option maxRecDepth 100000 in
set_option maxHeartbeats 2000000 in
theorem awake3_any (w : World) :
    Calls Try.prog 37 #[] w fun e w' => e = .returned (.bool true) ∧ Below w.heap.size w w' := by
  have HE := Lib.hid (show encN [true, false, true] = [3, 2, 160] by decide)
  have HD1 := Lib.hid (show decN [3, 2, 160, 9] = some ([true, false, true], [9]) by decide)
  have HD2 := Lib.hid (show decN [1, 2, 128] = none by decide)
  obtain ⟨i0, hi, hz0, hz1, hz2⟩ := info_parts info8
  go_enter Try.func37, Try.ntmps37
  go_wp2_with fail
  refine (encode_any _ [true, false, true] _ (rd_lit w _ _ 3 ([true, false, true].map boolv) rfl rfl (by decide)) (by decide)).mono ?_
  rw [HE.out]
  rintro e w1 ⟨ao1, cap1, rfl, hown, hb⟩
  have HB1 := Lib.hid (below_then (below_alloc w _) hb)
  have HR1 := Lib.hid (show Rd w1 (.slice ao1 3 cap1) ([3, 2, 160].map u8v) from rd_own_map hown)
  clear hown hb
  obtain ⟨o1, off1, rfl, _⟩ := (rd_cells HR1.out).2 (by decide)
  have hba := Lib.hid (show Below w1.heap.size w1 (w1.alloc (.cells #[] 5)) from below_alloc w1 _)
  have HOE := Lib.hid (own_empty w1 w1.heap.size 5 (Nat.le_refl _))
  have H2 := Lib.hid (rd_news (HR1.out.kept hba.out))
  have H3 := Lib.hid (ones_u8 [3, 2, 160])
  have hs1 := Lib.hid (show w1.heap.size ≤ (w1.alloc (.cells #[] 5)).heap.size from hba.out.size)
  go_wp2_with (first
    | (at_builtin; refine wpList_append_own _ rfl _ _ 27 rfl w1.heap.size 5 i0 (.int .u8 0) 1 1 Try.underlying27 hi hz0 hz1 hz2 rfl (by decide) _ _ _ rfl HOE.out ⟨o1, off1, none⟩ 3 cap1 ([3, 2, 160].map u8v) rfl rfl H2.out H3.out (by unfold maxLen; omega) (by omega) hs1.out ?_; intro v' w3 hown' hgrow _; have HB3 := Lib.hid (below_own hba.out HOE.out hgrow); obtain ⟨ao3, cap3, hv⟩ := own_shape hown'; subst hv; have HO3 := Lib.hid hown'; have HOA3 := Lib.hid (fun o => hown'.alloc o); have H4 := Lib.hid (one_cell w3 (u8v 9) 5); have H5 := Lib.hid (ones_u8 [9]); have hs3 := Lib.hid (show w1.heap.size ≤ (w3.alloc (.cells #[u8v 9] 5)).heap.size by simp; have := HB3.out.size; omega); clear hown' hgrow)
    | (at_builtin; refine wpList_append_own _ rfl _ _ 27 rfl w1.heap.size 5 i0 (.int .u8 0) 1 1 Try.underlying27 hi hz0 hz1 hz2 rfl (by decide) _ _ _ rfl (HOA3.out _) ⟨w3.heap.size, 0, none⟩ 1 1 [u8v 9] rfl rfl H4.out H5.out (by unfold maxLen; omega) (by omega) hs3.out ?_; intro v4 w4 hown4 hgrow4 _; have HB4 := Lib.hid (below_own (HB3.out.alloc HB3.out.size _) (HOA3.out _) hgrow4); obtain ⟨ao4, cap4, hv4⟩ := own_shape hown4; subst hv4; have HR4 := Lib.hid (Rd.of_owns hown4); clear hown4 hgrow4))
  refine (decode_any _ [3, 2, 160, 9] _ HR4.out (by decide) (by decide)).mono ?_
  rw [HD1.out]
  rintro e w5 (⟨hn, _⟩ | ⟨l, r, ao5, len5, cap5, ao6, len6, cap6, hs, rfl, hr5, hr6, hb⟩)
  · cases hn
  · simp only [Option.some.injEq, Prod.mk.injEq] at hs
    obtain ⟨rfl, rfl⟩ := hs
    obtain rfl : len5 = 3 := (rdb_cells hr5).1
    obtain rfl : len6 = 1 := (rd_cells hr6).1
    have HR5 := Lib.hid hr5
    have HBB := Lib.hid (below_then HB1.out (below_then HB4.out hb))
    have HR1' := Lib.hid (HR1.out.kept (below_then HB4.out hb))
    clear hr5 hr6 hb HB3 HB4 HB1 HR1 HR4 H2 H3 H4 H5 HO3 HOA3 HOE hba hs1 hs3
    go_wp2_with fail
    refine (decode_any _ [1, 2, 128] _ (rd_lit w5 _ _ 3 ([1, 2, 128].map u8v) rfl rfl (by decide)) (by decide) (by decide)).mono ?_
    rw [HD2.out]
    rintro e w6 (⟨_, rfl, hb⟩ | ⟨l, r, ao7, len7, cap7, ao8, len8, cap8, hs, _⟩)
    · have hb6 := below_then (below_alloc w5 _) hb
      have HB6 := Lib.hid (below_then HBB.out hb6)
      obtain ⟨b5, off5, rfl, hcell⟩ := (rdb_cells (HR5.out.kept hb6)).2 (by decide)
      have hx0 := hcell 0 (by decide)
      have hx1 := hcell 1 (by decide)
      have hx2 := hcell 2 (by decide)
      simp only [List.getD_cons_zero, List.getD_cons_succ, Nat.add_zero] at hx0 hx1 hx2
      have hR1 : Rd w6 (.slice (some ⟨o1, off1, none⟩) 3 cap1) ([3, 2, 160].map u8v) := HR1'.out.kept hb6
      have hcv := run_str (P := Try.prog) w6 27 9 5 Try.underlying27 Try.underlying5 Try.underlying9 hR1 (lt256b _ (by decide))
      have hs6 : ((strOf [3, 2, 160]).toList == [3, 2, 160]) = true := by rw [strOf_toList]; rfl
      clear hb hb6 HR1' HR5 hR1 hcell HBB
      go_wp2_with fail
      refine (count_any _ [true, false, true] _ (rd_lit w6 _ _ 3 ([true, false, true].map boolv) rfl rfl (by decide)) (by decide)).mono ?_
      rintro e w7 ⟨rfl, rfl⟩
      have hc2 : countB [true, false, true] = 2 := by decide
      rw [hc2]
      go_wp2_with fail
      refine (count_any _ [] _ (Rd.nil _) (by decide)).mono ?_
      rintro e w7 ⟨rfl, rfl⟩
      have hc0 : countB [] = 0 := rfl
      rw [hc0]
      go_wp2_with fail
      go_ret
      exact ⟨rfl, below_lay HB6.out _⟩
    · cases hs

end Go.Proofs.Ytdelcaijehcaeaa
