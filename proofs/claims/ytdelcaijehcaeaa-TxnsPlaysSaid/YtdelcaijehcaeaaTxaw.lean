/-
  What the document fixes of layer 18, walked.
-/
import Derived.Test.YtdelcaijehcaeaaTxd
import Derived.Test.YtdelcaijehcaeaaTxe
namespace Go.Proofs.Ytdelcaijehcaeaa
set_option linter.unusedVariables false
open Go.RowKit

set_option maxRecDepth 100000 in
set_option maxHeartbeats 4000000 in
theorem awake18_any (w : World) :
    Calls Try.prog 29 #[] w fun e w' => e = .returned (.bool true) ∧ Below w.heap.size w w' := by
  go_enter Try.func29, Try.ntmps29
  go_wp2_with fail
  refine (bknew_any w).mono ?_
  rintro e w1 ⟨g, rfl, hi, hb⟩
  have I1 := Lib.hid hi
  have B1 := Lib.hid hb
  clear hi hb
  go_wp2_with fail
  refine (bkbegin_any _ g 1 [] _ I1.out (by decide)).mono ?_
  rintro e w2 ⟨rfl, hi, hb⟩
  have I2 := Lib.hid (show IsBk w.heap.size w2 g 1 [⟨1, 1, 1, 0⟩] from hi)
  have B2 := Lib.hid (B1.out.trans hb)
  clear hi hb I1 B1
  go_wp2_with fail
  refine (bkbegin_any _ g 1 _ _ I2.out (by decide)).mono ?_
  rintro e w3 ⟨rfl, hi, hb⟩
  have I3 := Lib.hid (show IsBk w.heap.size w3 g 1 [⟨1, 1, 1, 0⟩, ⟨2, 1, 1, 0⟩] from hi)
  have B3 := Lib.hid (B2.out.trans hb)
  clear hi hb I2 B2
  go_wp2_with fail
  refine (prep_yes _ g 1 _ _ 1 I3.out (by decide) (by decide) (by decide) (by decide) rfl).mono ?_
  rintro e w4 ⟨rfl, hi, hb⟩
  have I4 := Lib.hid (show IsBk w.heap.size w4 g 2 [⟨1, 2, 1, 2⟩, ⟨2, 1, 1, 0⟩] from hi)
  have B4 := Lib.hid (B3.out.trans hb)
  clear hi hb I3 B3
  go_wp2_with fail
  refine (prep_no _ g 2 _ _ 1 I4.out (by decide) (by decide) (by decide) rfl).mono ?_
  rintro e w5 ⟨rfl, rfl⟩
  go_wp2_with fail
  refine (bkbegin_any _ g 2 _ _ I4.out (by decide)).mono ?_
  rintro e w5 ⟨rfl, hi, hb⟩
  have I5 := Lib.hid (show IsBk w.heap.size w5 g 2 [⟨1, 2, 1, 2⟩, ⟨2, 1, 1, 0⟩, ⟨3, 1, 2, 0⟩] from hi)
  have B5 := Lib.hid (B4.out.trans hb)
  clear hi hb I4 B4
  go_wp2_with fail
  refine (commit_yes _ g 2 _ _ 1 I5.out (by decide) (by decide) (by decide) rfl).mono ?_
  rintro e w6 ⟨rfl, hi, hb⟩
  have I6 := Lib.hid (show IsBk w.heap.size w6 g 2 [⟨1, 3, 1, 2⟩, ⟨2, 1, 1, 0⟩, ⟨3, 1, 2, 0⟩] from hi)
  have B6 := Lib.hid (B5.out.trans hb)
  clear hi hb I5 B5
  go_wp2_with fail
  refine (commit_no _ g 2 _ _ 2 I6.out (by decide) (by decide) (by decide) rfl).mono ?_
  rintro e w7 ⟨rfl, rfl⟩
  go_wp2_with fail
  refine (abort_yes1 _ g 2 _ _ 2 I6.out (by decide) (by decide) (by decide) rfl).mono ?_
  rintro e w7 ⟨rfl, hi, hb⟩
  have I7 := Lib.hid (show IsBk w.heap.size w7 g 2 [⟨1, 3, 1, 2⟩, ⟨2, 4, 1, 0⟩, ⟨3, 1, 2, 0⟩] from hi)
  have B7 := Lib.hid (B6.out.trans hb)
  clear hi hb I6 B6
  go_wp2_with fail
  refine (abort_no _ g 2 _ _ 2 I7.out (by decide) (by decide) (by decide) rfl rfl).mono ?_
  rintro e w8 ⟨rfl, rfl⟩
  go_wp2_with fail
  refine (all_any _ g 2 _ _ I7.out (by decide)).mono ?_
  rintro e w8 ⟨ao, cap, rfl, hown, hb⟩
  obtain ⟨gg, cap', hvv, hc0⟩ := tx_cells (B := w7.heap.size) (g := g) (now := 2) hown (k := 0) (t := ⟨1, 3, 1, 2⟩) rfl
  obtain ⟨gg2, cap2, hvv2, hc2⟩ := tx_cells (B := w7.heap.size) (g := g) (now := 2) hown (k := 2) (t := ⟨3, 1, 2, 0⟩) rfl
  simp only [Value.slice.injEq] at hvv hvv2
  have hao := hvv.1
  have hao2 := hvv2.1
  rw [hao] at hao2
  have hgg : gg = gg2 := by simpa using hao2
  subst hgg
  subst hao
  have k01 : w8.cell? ⟨gg, 1, none⟩ = some (.int .i64 3) := (hc0 1 (by decide)).1
  have k03 : w8.cell? ⟨gg, 3, none⟩ = some (.int .i64 2) := (hc0 3 (by decide)).1
  have k22 : w8.cell? ⟨gg, 10, none⟩ = some (.int .i64 2) := (hc2 2 (by decide)).1
  have I8 := Lib.hid (I7.out.kept hb)
  have B8 := Lib.hid (below_then B7.out hb)
  clear hb hown hc0 hc2 hvv hvv2 hao2 I7 B7
  go_wp2_with fail
  refine (oldest_any _ g 2 _ _ I8.out (by decide) (by decide) (by simp)).mono ?_
  rintro e w9 ⟨rfl, hb⟩
  have ho : ((oldT 2 [⟨1, 3, 1, 2⟩, ⟨2, 4, 1, 0⟩, ⟨3, 1, 2, 0⟩] : Nat) : Int) = 2 := rfl
  have I9 := Lib.hid (I8.out.kept hb)
  have B9 := Lib.hid (below_then B8.out hb)
  clear hb I8 B8
  go_wp2_with fail
  refine (bknow_any _ g 2 _ _ I9.out).mono ?_
  rintro e w10 ⟨rfl, rfl⟩
  go_wp2_with fail
  go_ret
  exact ⟨rfl, B9.out⟩

end Go.Proofs.Ytdelcaijehcaeaa
