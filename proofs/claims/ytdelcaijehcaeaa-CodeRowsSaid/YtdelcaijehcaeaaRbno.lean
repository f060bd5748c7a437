/-
  Contract of the Reader's Bytes, where there are none such.
-/
import Derived.Test.YtdelcaijehcaeaaRbytes
namespace Go.Proofs.Ytdelcaijehcaeaa
set_option linter.unusedVariables false
open Go.RowKit

set_option maxHeartbeats 2000000 in
theorem rbytes_none (r : Nat) (left : List Nat) (bad : Bool) (w : World) (most : Int) (h : IsR w r left bad) (h256 : ∀ x ∈ left, x < 256) (hbig : left.length ≤ 140737488355328) (hn : nextC left = none) :
    Calls Try.prog 34 #[.pointer (some ⟨r, 0, none⟩), .int .i64 most] w fun e w' => e = .returned (.slice none 0 0) ∧ IsR w' r [] true ∧ w.grownBy w' (some r) := by
  have HI := Lib.hid h
  obtain ⟨v, hv, hr⟩ := h
  obtain ⟨c0, c1, f0, f1⟩ := isR_cells hv
  have HR := Lib.hid hr
  have hr2 := hr
  obtain ⟨ao, cap, hvs, hrr⟩ := hr2
  clear hrr
  rw [List.length_map] at hvs
  subst hvs
  have HN := Lib.hid hn
  clear hv hr hn
  go_enter Try.func34, Try.ntmps34
  go_wp2_with fail
  refine (next_any ao left.length cap left w HR.out h256 hbig).mono ?_
  rw [HN.out]
  rintro e w1 ⟨rfl, rfl⟩
  go_wp2_with fail
  refine (fail_any r left bad w HI.out).mono ?_
  rintro e w2 ⟨rfl, hi, hg⟩
  have HI2 := Lib.hid hi
  have HG2 := Lib.hid hg
  clear hi hg
  go_wp2_with fail
  go_ret
  exact ⟨rfl, HI2.out, HG2.out⟩

set_option maxHeartbeats 2000000 in
theorem rbytes_short (r : Nat) (left : List Nat) (bad : Bool) (w : World) (most : Int) (h : IsR w r left bad) (h256 : ∀ x ∈ left, x < 256) (hbig : left.length ≤ 140737488355328) (u n : Nat) (hn : nextC left = some (u, n)) (hn1 : 0 < n) (hn2 : n ≤ left.length)
    (hm0 : 0 ≤ most) (hm1 : (u : Int) ≤ most) (hm2 : most ≤ 9223372036854775807) (hu : left.length < n + u) :
    Calls Try.prog 34 #[.pointer (some ⟨r, 0, none⟩), .int .i64 most] w fun e w' => e = .returned (.slice none 0 0) ∧ IsR w' r [] true ∧ w.grownBy w' (some r) := by
  have HI := Lib.hid h
  obtain ⟨v, hv, hr⟩ := h
  obtain ⟨c0, c1, f0, f1⟩ := isR_cells hv
  have HR := Lib.hid hr
  have hr2 := hr
  obtain ⟨ao, cap, hvs, hrr⟩ := hr2
  clear hrr
  rw [List.length_map] at hvs
  subst hvs
  have HN := Lib.hid hn
  obtain ⟨len, hlen⟩ : ∃ len, len = left.length := ⟨_, rfl⟩
  rw [← hlen] at c0 hbig hn2 hu HR
  have hne : ((n : Int) == 0) = false := by rw [beq_eq_false_iff_ne]; omega
  clear hv hr hn hlen
  go_enter Try.func34, Try.ntmps34
  go_wp2_with fail
  refine (next_any ao len cap left w HR.out h256 hbig).mono ?_
  rw [HN.out]
  rintro e w1 ⟨rfl, rfl⟩
  go_wp2_with fail
  refine (fail_any r left bad w HI.out).mono ?_
  rintro e w2 ⟨rfl, hi, hg⟩
  have HI2 := Lib.hid hi
  have HG2 := Lib.hid hg
  clear hi hg
  go_wp2_with fail
  go_ret
  exact ⟨rfl, HI2.out, HG2.out⟩

end Go.Proofs.Ytdelcaijehcaeaa
