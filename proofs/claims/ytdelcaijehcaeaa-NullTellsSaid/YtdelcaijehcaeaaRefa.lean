/-
  Contracts of the reference's number and Width.
-/
import Derived.Test.YtdelcaijehcaeaaRefm
import Derived.Test.YtdelcaijehcaeaaAppend
namespace Go.Proofs.Ytdelcaijehcaeaa
set_option linter.unusedVariables false
open Go.RowKit

set_option maxRecDepth 100000 in
set_option maxHeartbeats 1000000 in
theorem refNumber_any (v : Value) (bs : List Nat) (p0 n0 : Nat) (w : World) (hr : Rd w v (bs.map u8v))
    (h256 : ∀ i, bs.getD i 0 < 256) (hfit : p0 + n0 ≤ 8 * bs.length) (hn : n0 ≤ 64) (hlen : bs.length ≤ 17592186044416) :
    Calls Try.prog 69 #[v, .int .i64 n0, .int .i64 p0] w fun e w' => e = .returned (.int .u64 (numB bs p0 n0 : Nat)) ∧ ∃ k, w' = w.drewN k := by
  have hr2 := hr
  obtain ⟨ao, cap, hv, hcap, _⟩ := hr2
  rw [List.length_map] at hv
  subst hv
  obtain ⟨len, hlene⟩ : ∃ len, len = bs.length := ⟨_, rfl⟩
  rw [← hlene] at hr hfit hlen ⊢
  have hc := (rd_cells hr).2
  clear hr hcap hlene
  go_enter Try.func69, Try.ntmps69
  go_wp2
  go_loopw [7, 8] (fun u i wr => ∃ m : Nat, m ≤ n0 ∧ u = .int .u64 (numB bs p0 m : Nat) ∧ i = .int .i64 (m : Int) ∧ ∃ k, wr = w.drewN k) (fun _ i _ => n0 - (intOf i).toNat)
  case atStart => exact ⟨0, Nat.zero_le _, by simp [numB], rfl, 0, rfl⟩
  case round =>
    obtain ⟨m, hm, rfl, rfl, k, rfl⟩ := hrel
    obtain ⟨U, hU⟩ : ∃ U, U = numB bs p0 m := ⟨_, rfl⟩
    have hUb : U < 2 ^ m := by rw [hU]; exact numB_lt _ _ _
    rw [← hU]
    have HU := Lib.hid hU
    clear hU
    by_cases hlt : m < n0
    · obtain ⟨b, off, rfl, hcell⟩ := hc (by omega)
      have hx := hcell ((p0 + m) / 8) (by omega)
      have hx2 := h256 ((p0 + m) / 8)
      obtain ⟨x, hxe⟩ : ∃ x, x = bs.getD ((p0 + m) / 8) 0 := ⟨_, rfl⟩
      rw [← hxe] at hx hx2
      have HX := Lib.hid hxe
      have hj : (p0 + m) / 8 < len := by omega
      have HUB := Lib.hid hUb
      clear hxe hc h256 hcell hUb
      go_wp2_with fail
      go_roundw
      case rel =>
        have hs := get_step U x (7 - (p0 + m) % 8) 1 m HUB.out (by omega) (by decide) hx2
        have hn1 := numB_step bs p0 m 1 (by omega)
        rw [← HU.out, ← HX.out, show 8 - (p0 + m) % 8 - 1 = 7 - (p0 + m) % 8 by omega] at hn1
        rw [← hn1, Int.pow_succ, Int.pow_zero, Int.one_mul, show (255 : Int) / 2 ^ (8 - 1) = 1 by decide] at hs
        exact ⟨m + 1, by omega, by rw [hs], by go_num, k, rfl⟩
      case measure => simp [intOf]; omega
    · go_wp2
      go_ret
      exact ⟨ret_int (by rw [HU.out, show m = n0 by omega]), k, rfl⟩

set_option maxHeartbeats 1000000 in
theorem refWidth_any (u : Nat) (w : World) (hu : u < 18446744073709551616) :
    Calls Try.prog 45 #[.int .u64 u] w fun e w' => e = .returned (.int .i64 (Lib.bitLen u : Nat)) ∧ w = w' := by
  obtain ⟨c1, c2, c3⟩ := bitLen_spec u hu
  obtain ⟨L, hL⟩ : ∃ L, L = Lib.bitLen u := ⟨_, rfl⟩
  rw [← hL] at c1 c2 c3 ⊢
  have HC2 := Lib.hid c2
  have HC3 := Lib.hid c3
  clear hL c2 c3
  go_enter Try.func45, Try.ntmps45
  go_wp2
  go_loopw [3] (fun i wr => ∃ m : Nat, m ≤ L ∧ i = .int .i64 (m : Int) ∧ w = wr) (fun i _ => L - (intOf i).toNat)
  case atStart => exact ⟨0, Nat.zero_le _, rfl, rfl⟩
  case round =>
    obtain ⟨m, hm, rfl, rfl⟩ := hrel
    by_cases hlt : m < L
    · have hne : ((u : Int) / 2 ^ m != 0) = true := by
        rw [div_cast, bne_iff_ne]
        have h1 := HC3.out (by omega)
        have h2 : 2 ^ m ≤ u := by
          have h3 : 2 ^ m ≤ 2 ^ (L - 1) := Nat.pow_le_pow_right (by decide) (by omega)
          have h4 := Nat.div_mul_le_self u (2 ^ (L - 1))
          rw [h1] at h4
          omega
        have h5 : 0 < u / 2 ^ m := Nat.div_pos h2 (Nat.two_pow_pos m)
        omega
      go_wp2
      go_roundw
      case rel => exact ⟨m + 1, by omega, by go_num, trivial⟩
      case measure => simp [intOf]; omega
    · obtain rfl : m = L := by omega
      by_cases h64 : m < 64
      · have hne : ((u : Int) / 2 ^ m != 0) = false := by
          rw [div_cast, Nat.div_eq_of_lt HC2.out]; rfl
        go_wp2
        go_ret
        exact ⟨rfl, rfl⟩
      · obtain rfl : m = 64 := by omega
        go_wp2
        go_ret
        exact ⟨rfl, rfl⟩

end Go.Proofs.Ytdelcaijehcaeaa
