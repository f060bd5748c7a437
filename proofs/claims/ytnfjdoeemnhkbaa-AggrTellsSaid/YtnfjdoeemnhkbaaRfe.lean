import Derived.Test.YtnfjdoeemnhkbaaAgl
import Derived.Test.YtnfjdoeemnhkbaaLsix
set_option linter.unusedVariables false
set_option linter.unusedSimpArgs false
set_option maxRecDepth 100000
set_option maxHeartbeats 8000000
open Go.Lib (hid)
namespace Go.Proofs.Ytnfjdoeemnhkbaa
open Go.RowKit
open Go.IntWalk renaming i64_in -> Qa
def numsT (l : List (Vc × Value)) : Int := (l.map fun t => if t.1.u = true then 0 else t.1.n).sum
theorem zDg (l : List (Vc × Value)) (t : Vc × Value) : numsT (l ++ [t]) = numsT l + (if t.1.u = true then 0 else t.1.n) := by
 unfold numsT
 rw [List.map_append, List.sum_append_int]
 simp
theorem zA7 {α : Type} {l : List α} {q : Nat} {t : α} (h : l[q]? = some t) : l.take (q + 1) = l.take q ++ [t] := by
 rw [List.take_add_one, h]
 rfl
def InR (n : Int) : Prop := -9223372036854775808 <= n ∧ n < 9223372036854775808
instance (n : Int) : Decidable (InR n) := by unfold InR; infer_instance
theorem zJf (l : List (Vc × Value)) (v : Value) (w : World) (hl : l.length <= 1000000) (hr : RdP w v l) (hi64 : ∀ t ∈ l, I64 t.1.n) :
  Calls Try.prog 57 #[v] w fun e w' => (∃ n : Int, e = .returned (.tuple #[.int .i64 n, .bool (decide (InR (numsT l)))]) ∧ (InR (numsT l) -> n = numsT l)) ∧ Below w.heap.size w w' := by
 obtain ⟨va, vc, rfl⟩ := zBe hr
 obtain ⟨n0, hn⟩ : ∃ n, n = l.length := ⟨_, rfl⟩
 rw [<- hn] at hr hl ⊢
 have HN := hid hn
 have HR := hid hr
 have HI := hid hi64
 clear hn hr hi64
 go_enter Try.func57, Try.ntmps57
 go_wp2_with fail
 go_loopw [4, 5, 6] (fun hv lv i wr => ∃ (q : Nat) (hi lo : Int), q <= n0 ∧ i = .int .i64 (q : Int) ∧ hv = .int .i64 hi ∧ lv = .int .u64 lo ∧ numsT (l.take q) = hi * 18446744073709551616 + lo ∧ -(q : Int) <= hi ∧ hi <= (q : Int) ∧ (0 <= lo ∧ lo < 18446744073709551616) ∧ Below w.heap.size w wr) (fun _ _ i _ => n0 - (intOf i).toNat)
 case atStart => exact ⟨0, 0, 0, Nat.zero_le _, rfl, rfl, rfl, by simp [numsT], by omega, by omega, by omega, Below.refl _ _⟩
 case round =>
  obtain ⟨q, hi, lo, hq, rfl, rfl, rfl, hs, hh1, hh2, ⟨hlo0, hlo1⟩, hb⟩ := hrel
  have HB := hid hb
  clear hb
  by_cases hlt : q < n0
  ·obtain ⟨t, ht⟩ : ∃ t, l[q]? = some t := ⟨_, List.getElem?_eq_getElem (by rw [<- HN.out]; exact hlt)⟩
   obtain ⟨b, o, rfl, p0, p1, p2, p3, ok⟩ := (HR.out.kept HB.out).at ht
   have hr := HI.out t (List.mem_of_getElem? ht)
   unfold I64 at hr
   obtain ⟨n, hnn⟩ : ∃ n, n = t.1.n := ⟨_, rfl⟩
   rw [<- hnn] at hr p2
   have hlti : (q : Int) < (n0 : Int) := by omega
   have hq0 : (0 : Int) <= (q : Int) := by omega
   have hq1 : IntKind.i64.wrap ((q : Int) + 1) = (q : Int) + 1 := Qa _ (by omega)
   clear p1 p3 ok
   cases hun : t.1.u with
   | true =>
    rw [hun] at p0
    have HIN := hid (show numsT (l.take (q + 1)) = hi * 18446744073709551616 + lo from by rw [zA7 ht, zDg, hs, hun]; simp)
    clear hs ht hun hr hnn
    go_wp2_with fail
    go_roundw
    case rel => exact ⟨q + 1, hi, lo, by omega, by go_num, rfl, rfl, HIN.out, by omega, by omega, ⟨hlo0, hlo1⟩, HB.out⟩
    case measure => simp [intOf]; omega
   | false =>
    rw [hun] at p0
    rw [hnn] at hr p2
    have hrr := hr
    clear hnn
    obtain ⟨n, hnn⟩ : ∃ n, n = t.1.n := ⟨_, rfl⟩
    rw [<- hnn] at hr p2
    have hs2 := hs
    have htn : (if t.1.u = true then (0 : Int) else t.1.n) = n := by rw [hun, hnn]; simp
    clear hrr hs2
    rcases (show (0 <= n ∧ lo + n < 18446744073709551616) ∨ (0 <= n ∧ 18446744073709551616 <= lo + n) ∨ (n < 0 ∧ lo + n < 0) ∨ (n < 0 ∧ 0 <= lo + n) by omega) with hcase | hcase | hcase | hcase
    ·obtain ⟨u, hu⟩ : ∃ u, u = n := ⟨_, rfl⟩
     obtain ⟨l2, hl2⟩ : ∃ l2, l2 = lo + n := ⟨_, rfl⟩
     have hw1 : IntKind.u64.wrap n = u := by rw [hu]; rw [IntKind.wrap_u64]; omega
     have hw2 : n % 18446744073709551616 = u := by omega
     have hw3 : IntKind.u64.wrap (lo + u) = l2 := by rw [IntKind.wrap_u64]; omega
     have hw4 : (lo + u) % 18446744073709551616 = l2 := by omega
     have hb1 : ¬ l2 < lo := by omega
     have hb1d : decide (l2 < lo) = false := by first | (rw [decide_eq_true_eq]; exact hb1) | (rw [decide_eq_false_iff_not]; exact hb1)
     have hb2 : ¬ n < 0 := by omega
     have hb2d : decide (n < 0) = false := by first | (rw [decide_eq_true_eq]; exact hb2) | (rw [decide_eq_false_iff_not]; exact hb2)
     have hh1 : IntKind.i64.wrap (hi + 1) = hi + 1 := Qa _ (by omega)
     have hh2 : IntKind.i64.wrap (hi - 1) = hi - 1 := Qa _ (by omega)
     have hh3 : IntKind.i64.wrap (hi + 1 - 1) = hi := by rw [show hi + 1 - 1 = hi by omega]; exact Qa _ (by omega)
     have hin : numsT (l.take (q + 1)) = (hi) * 18446744073709551616 + l2 := by rw [zA7 ht, zDg, hs]; rw [htn]; omega
     have HIN := hid hin
     have HL2 := hid (show 0 <= l2 ∧ l2 < 18446744073709551616 from by omega)
     clear hs hu hl2 hin ht hr hun hnn htn
     go_wp2_with fail
     go_roundw
     case rel => exact ⟨q + 1, hi, l2, by omega, by go_num, by first | rfl | (congr 1; omega), rfl, HIN.out, by omega, by omega, HL2.out, HB.out⟩
     case measure => simp [intOf]; omega
    ·obtain ⟨u, hu⟩ : ∃ u, u = n := ⟨_, rfl⟩
     obtain ⟨l2, hl2⟩ : ∃ l2, l2 = lo + n - 18446744073709551616 := ⟨_, rfl⟩
     have hw1 : IntKind.u64.wrap n = u := by rw [hu]; rw [IntKind.wrap_u64]; omega
     have hw2 : n % 18446744073709551616 = u := by omega
     have hw3 : IntKind.u64.wrap (lo + u) = l2 := by rw [IntKind.wrap_u64]; omega
     have hw4 : (lo + u) % 18446744073709551616 = l2 := by omega
     have hb1 :  l2 < lo := by omega
     have hb1d : decide (l2 < lo) = true := by first | (rw [decide_eq_true_eq]; exact hb1) | (rw [decide_eq_false_iff_not]; exact hb1)
     have hb2 : ¬ n < 0 := by omega
     have hb2d : decide (n < 0) = false := by first | (rw [decide_eq_true_eq]; exact hb2) | (rw [decide_eq_false_iff_not]; exact hb2)
     have hh1 : IntKind.i64.wrap (hi + 1) = hi + 1 := Qa _ (by omega)
     have hh2 : IntKind.i64.wrap (hi - 1) = hi - 1 := Qa _ (by omega)
     have hh3 : IntKind.i64.wrap (hi + 1 - 1) = hi := by rw [show hi + 1 - 1 = hi by omega]; exact Qa _ (by omega)
     have hin : numsT (l.take (q + 1)) = (hi + 1) * 18446744073709551616 + l2 := by rw [zA7 ht, zDg, hs]; rw [htn]; omega
     have HIN := hid hin
     have HL2 := hid (show 0 <= l2 ∧ l2 < 18446744073709551616 from by omega)
     clear hs hu hl2 hin ht hr hun hnn htn
     go_wp2_with fail
     go_roundw
     case rel => exact ⟨q + 1, hi + 1, l2, by omega, by go_num, by first | rfl | (congr 1; omega), rfl, HIN.out, by omega, by omega, HL2.out, HB.out⟩
     case measure => simp [intOf]; omega
    ·obtain ⟨u, hu⟩ : ∃ u, u = n + 18446744073709551616 := ⟨_, rfl⟩
     obtain ⟨l2, hl2⟩ : ∃ l2, l2 = lo + n + 18446744073709551616 := ⟨_, rfl⟩
     have hw1 : IntKind.u64.wrap n = u := by rw [hu]; rw [IntKind.wrap_u64]; omega
     have hw2 : n % 18446744073709551616 = u := by omega
     have hw3 : IntKind.u64.wrap (lo + u) = l2 := by rw [IntKind.wrap_u64]; omega
     have hw4 : (lo + u) % 18446744073709551616 = l2 := by omega
     have hb1 : ¬ l2 < lo := by omega
     have hb1d : decide (l2 < lo) = false := by first | (rw [decide_eq_true_eq]; exact hb1) | (rw [decide_eq_false_iff_not]; exact hb1)
     have hb2 :  n < 0 := by omega
     have hb2d : decide (n < 0) = true := by first | (rw [decide_eq_true_eq]; exact hb2) | (rw [decide_eq_false_iff_not]; exact hb2)
     have hh1 : IntKind.i64.wrap (hi + 1) = hi + 1 := Qa _ (by omega)
     have hh2 : IntKind.i64.wrap (hi - 1) = hi - 1 := Qa _ (by omega)
     have hh3 : IntKind.i64.wrap (hi + 1 - 1) = hi := by rw [show hi + 1 - 1 = hi by omega]; exact Qa _ (by omega)
     have hin : numsT (l.take (q + 1)) = (hi - 1) * 18446744073709551616 + l2 := by rw [zA7 ht, zDg, hs]; rw [htn]; omega
     have HIN := hid hin
     have HL2 := hid (show 0 <= l2 ∧ l2 < 18446744073709551616 from by omega)
     clear hs hu hl2 hin ht hr hun hnn htn
     go_wp2_with fail
     go_roundw
     case rel => exact ⟨q + 1, hi - 1, l2, by omega, by go_num, by first | rfl | (congr 1; omega), rfl, HIN.out, by omega, by omega, HL2.out, HB.out⟩
     case measure => simp [intOf]; omega
    ·obtain ⟨u, hu⟩ : ∃ u, u = n + 18446744073709551616 := ⟨_, rfl⟩
     obtain ⟨l2, hl2⟩ : ∃ l2, l2 = lo + n := ⟨_, rfl⟩
     have hw1 : IntKind.u64.wrap n = u := by rw [hu]; rw [IntKind.wrap_u64]; omega
     have hw2 : n % 18446744073709551616 = u := by omega
     have hw3 : IntKind.u64.wrap (lo + u) = l2 := by rw [IntKind.wrap_u64]; omega
     have hw4 : (lo + u) % 18446744073709551616 = l2 := by omega
     have hb1 :  l2 < lo := by omega
     have hb1d : decide (l2 < lo) = true := by first | (rw [decide_eq_true_eq]; exact hb1) | (rw [decide_eq_false_iff_not]; exact hb1)
     have hb2 :  n < 0 := by omega
     have hb2d : decide (n < 0) = true := by first | (rw [decide_eq_true_eq]; exact hb2) | (rw [decide_eq_false_iff_not]; exact hb2)
     have hh1 : IntKind.i64.wrap (hi + 1) = hi + 1 := Qa _ (by omega)
     have hh2 : IntKind.i64.wrap (hi - 1) = hi - 1 := Qa _ (by omega)
     have hh3 : IntKind.i64.wrap (hi + 1 - 1) = hi := by rw [show hi + 1 - 1 = hi by omega]; exact Qa _ (by omega)
     have hin : numsT (l.take (q + 1)) = (hi) * 18446744073709551616 + l2 := by rw [zA7 ht, zDg, hs]; rw [htn]; omega
     have HIN := hid hin
     have HL2 := hid (show 0 <= l2 ∧ l2 < 18446744073709551616 from by omega)
     clear hs hu hl2 hin ht hr hun hnn htn
     go_wp2_with fail
     go_roundw
     case rel => exact ⟨q + 1, hi, l2, by omega, by go_num, by first | rfl | (congr 1; omega), rfl, HIN.out, by omega, by omega, HL2.out, HB.out⟩
     case measure => simp [intOf]; omega
  ·have hlti : ¬ (q : Int) < (n0 : Int) := by omega
   have hsl := hs
   rw [List.take_of_length_le (by rw [<- HN.out]; omega)] at hsl
   clear hs
   rcases (show (hi = 0 ∧ lo < 9223372036854775808) ∨ (hi = 0 ∧ ¬ lo < 9223372036854775808) ∨ (hi = -1 ∧ 9223372036854775808 <= lo) ∨ (hi = -1 ∧ ¬ 9223372036854775808 <= lo) ∨ (hi ≠ 0 ∧ hi ≠ -1) by omega) with ⟨rfl, h2⟩ | ⟨rfl, h2⟩ | ⟨rfl, h2⟩ | ⟨rfl, h2⟩ | ⟨h1, h2⟩
   ·have h3 : decide (lo < 9223372036854775808) = true := by first | (rw [decide_eq_true_eq]; omega) | (rw [decide_eq_false_iff_not]; omega)
    have h4 : decide (lo ≥ 9223372036854775808) = false := by first | (rw [decide_eq_true_eq]; omega) | (rw [decide_eq_false_iff_not]; omega)
    have h5 : decide (9223372036854775808 <= lo) = false := h4
    have hok : decide (InR (numsT l)) = true := by first | (rw [decide_eq_true_eq]; unfold InR; rw [hsl]; constructor <;> omega) | (rw [decide_eq_false_iff_not]; unfold InR; rw [hsl]; omega)
    have HOK := hid hok
    have HSL := hid hsl
    clear hok hsl
    go_wp2_with fail
    go_ret2
    refine ⟨⟨_, by rw [HOK.out] <;> rfl, ?_⟩, HB.out⟩
    intro h
    unfold InR at h
    have hsl := HSL.out
    first | omega | (unfold wrap64; omega)
   ·have h3 : decide (lo < 9223372036854775808) = false := by first | (rw [decide_eq_true_eq]; omega) | (rw [decide_eq_false_iff_not]; omega)
    have h4 : decide (lo ≥ 9223372036854775808) = true := by first | (rw [decide_eq_true_eq]; omega) | (rw [decide_eq_false_iff_not]; omega)
    have h5 : decide (9223372036854775808 <= lo) = true := h4
    have hok : decide (InR (numsT l)) = false := by first | (rw [decide_eq_true_eq]; unfold InR; rw [hsl]; constructor <;> omega) | (rw [decide_eq_false_iff_not]; unfold InR; rw [hsl]; omega)
    have HOK := hid hok
    have HSL := hid hsl
    clear hok hsl
    go_wp2_with fail
    go_ret2
    refine ⟨⟨_, by rw [HOK.out] <;> rfl, ?_⟩, HB.out⟩
    intro h
    unfold InR at h
    have hsl := HSL.out
    first | omega | (unfold wrap64; omega)
   ·have h3 : decide (lo < 9223372036854775808) = false := by first | (rw [decide_eq_true_eq]; omega) | (rw [decide_eq_false_iff_not]; omega)
    have h4 : decide (lo ≥ 9223372036854775808) = true := by first | (rw [decide_eq_true_eq]; omega) | (rw [decide_eq_false_iff_not]; omega)
    have h5 : decide (9223372036854775808 <= lo) = true := h4
    have hok : decide (InR (numsT l)) = true := by first | (rw [decide_eq_true_eq]; unfold InR; rw [hsl]; constructor <;> omega) | (rw [decide_eq_false_iff_not]; unfold InR; rw [hsl]; omega)
    have HOK := hid hok
    have HSL := hid hsl
    clear hok hsl
    go_wp2_with fail
    go_ret2
    refine ⟨⟨_, by rw [HOK.out] <;> rfl, ?_⟩, HB.out⟩
    intro h
    unfold InR at h
    have hsl := HSL.out
    first | omega | (unfold wrap64; omega)
   ·have h3 : decide (lo < 9223372036854775808) = true := by first | (rw [decide_eq_true_eq]; omega) | (rw [decide_eq_false_iff_not]; omega)
    have h4 : decide (lo ≥ 9223372036854775808) = false := by first | (rw [decide_eq_true_eq]; omega) | (rw [decide_eq_false_iff_not]; omega)
    have h5 : decide (9223372036854775808 <= lo) = false := h4
    have hok : decide (InR (numsT l)) = false := by first | (rw [decide_eq_true_eq]; unfold InR; rw [hsl]; constructor <;> omega) | (rw [decide_eq_false_iff_not]; unfold InR; rw [hsl]; omega)
    have HOK := hid hok
    have HSL := hid hsl
    clear hok hsl
    go_wp2_with fail
    go_ret2
    refine ⟨⟨_, by rw [HOK.out] <;> rfl, ?_⟩, HB.out⟩
    intro h
    unfold InR at h
    have hsl := HSL.out
    first | omega | (unfold wrap64; omega)
   ·have h3 : (hi == 0) = false := by rw [beq_eq_false_iff_ne]; exact h1
    have h4 : (hi == -1) = false := by rw [beq_eq_false_iff_ne]; exact h2
    have hok : decide (InR (numsT l)) = false := by first | (rw [decide_eq_true_eq]; unfold InR; rw [hsl]; constructor <;> omega) | (rw [decide_eq_false_iff_not]; unfold InR; rw [hsl]; omega)
    have HOK := hid hok
    have HSL := hid hsl
    clear hok hsl
    go_wp2_with fail
    go_ret2
    refine ⟨⟨_, by rw [HOK.out] <;> rfl, ?_⟩, HB.out⟩
    intro h
    unfold InR at h
    have hsl := HSL.out
    first | omega | (unfold wrap64; omega)
end Go.Proofs.Ytnfjdoeemnhkbaa
