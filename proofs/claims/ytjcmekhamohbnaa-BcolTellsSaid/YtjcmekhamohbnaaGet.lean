/-
  Contracts of bitp.held, size, get.
-/
import Derived.Test.YtjcmekhamohbnaaRows
import Derived.Test.YtjcmekhamohbnaaPlmath
import Derived.WalkKit
import Derived.WalkSpells
import Derived.WalkLawsBesides
import Derived.BigQuiet
import Derived.IntWalk
import Derived.Lib.Hide
namespace Go.Proofs.Ytjcmekhamohbnaa
set_option linter.unusedVariables false
open Go.RowKit

theorem ret_int {k : IntKind} {a b : Int} (h : a = b) : Ending.returned (.int k a) = Ending.returned (.int k b) := by rw [h]



set_option maxHeartbeats 400000 in
theorem held_any (n : Int) (w : World) :
    Calls Try.prog 69 #[.int .i64 n] w fun e w' => e = .returned (.int .i64 (heldN n)) ∧ w = w' := by
  go_enter Try.func69, Try.ntmps69
  go_wp2
  all_goals
    go_ret
    exact ⟨ret_int (by unfold heldN; omega), rfl⟩

set_option maxHeartbeats 400000 in
theorem size_any (n c : Nat) (w : World) (h1 : n ≤ 64) (h2 : c ≤ 17592186044416) :
    Calls Try.prog 70 #[.int .i64 n, .int .i64 c] w fun e w' => e = .returned (.int .i64 ((n * c + 7) / 8 : Nat)) ∧ w = w' := by
  have h3 : (0 : Int) ≤ (n : Int) * (c : Int) := by have : ((n : Int) * (c : Int)) = ((n * c : Nat) : Int) := by simp
                                                    omega
  have h4 : (n : Int) * (c : Int) ≤ 1125899906842624 := by
    have : n * c ≤ 64 * 17592186044416 := Nat.mul_le_mul h1 h2
    have e : ((n : Int) * (c : Int)) = ((n * c : Nat) : Int) := by simp
    omega
  go_enter Try.func70, Try.ntmps70
  go_wp2
  go_ret
  exact ⟨by simp, rfl⟩

set_option maxHeartbeats 400000 in
theorem get_any (b off len cap : Nat) (bs : List Nat) (p0 n0 : Nat) (w : World) (hc : ∀ i, i < len → w.cell? ⟨b, off + i, none⟩ = some (.int .u8 (bs.getD i 0 : Nat)))
    (h256 : ∀ i, bs.getD i 0 < 256) (hfit : p0 + n0 ≤ 8 * len) (hn : n0 ≤ 64) (hlen : len ≤ 1125899906842624) :
    Calls Try.prog 77 #[.slice (some ⟨b, off, none⟩) len cap, .int .i64 p0, .int .i64 n0] w fun e w' => e = .returned (.int .u64 (numB bs p0 n0 : Nat)) ∧ ∃ k, w' = w.drewN k := by
  go_enter Try.func77, Try.ntmps77
  go_wp2
  go_loopw [1, 2, 7] (fun p n u wr => ∃ P R U : Nat, ∃ m : Nat, m ≤ n0 ∧ P = p0 + m ∧ R = n0 - m ∧ U = numB bs p0 m ∧ p = .int .i64 (P : Int) ∧ n = .int .i64 (R : Int) ∧ u = .int .u64 (U : Int) ∧ ∃ k, wr = w.drewN k) (fun _ n _ _ => (intOf n).toNat)
  case atStart => exact ⟨_, _, _, 0, Nat.zero_le _, rfl, rfl, rfl, rfl, rfl, rfl, 0, rfl⟩
  case round =>
    obtain ⟨P, R, U, m, hm, hP, hR, hU, rfl, rfl, rfl, k, rfl⟩ := hrel
    have hPl : P + R ≤ 8 * len := by omega
    have hRl : R ≤ 64 := by omega
    have HP := Lib.hid hP
    have HR := Lib.hid hR
    have HU := Lib.hid hU
    clear hP hR hU
    by_cases hlt : 0 < R
    · have hx := hc (P / 8) (by omega)
      have hx2 := h256 (P / 8)
      obtain ⟨x, hxe⟩ : ∃ x, x = bs.getD (P / 8) 0 := ⟨_, rfl⟩
      rw [← hxe] at hx hx2
      have HX := Lib.hid hxe
      clear hxe hc h256
      have hj : P / 8 < len := by omega
      by_cases ht : 8 - P % 8 ≤ R
      · go_wp2
        go_quiet (fail)
        go_wp2
        go_roundw
        case rel =>
          have h1 := HP.out; have h2 := HR.out; have h3 := HU.out
          have hb : U < 2 ^ m := by rw [h3]; exact numB_lt _ _ _
          have hs := get_step U x 0 (8 - P % 8) m hb (by omega) (by omega) hx2
          have hn := numB_step bs p0 m (8 - P % 8) (by omega)
          rw [← h1, ← h3, ← HX.out, Nat.sub_self] at hn
          refine ⟨P + (8 - P % 8), R - (8 - P % 8), _, m + (8 - P % 8), by omega, by omega, by omega, rfl, by go_num, by go_num, ?_, _, rfl⟩
          rw [hn, ← hs]; simp
        case measure => simp [intOf]; omega
      · go_wp2
        go_quiet (fail)
        go_wp2
        go_roundw
        case rel =>
          have h1 := HP.out; have h2 := HR.out; have h3 := HU.out
          have hb : U < 2 ^ m := by rw [h3]; exact numB_lt _ _ _
          have hs := get_step U x (8 - P % 8 - R) R m hb (by omega) (by omega) hx2
          have hn := numB_step bs p0 m R (by omega)
          rw [← h1, ← h3, ← HX.out] at hn
          refine ⟨P + R, 0, _, m + R, by omega, by omega, by omega, rfl, by go_num, rfl, ?_, _, rfl⟩
          rw [hn, ← hs]
        case measure => simp [intOf]; omega
    · go_wp2
      go_ret
      refine ⟨ret_int ?_, k, rfl⟩
      have h2 := HR.out; have h3 := HU.out
      rw [h3, show m = n0 from by omega]

end Go.Proofs.Ytjcmekhamohbnaa
