/-
  Contract of code.next, and code.Bytes.
-/
import Derived.Test.YteloepccjoikdaaNum
import Derived.Test.YteloepccjoikdaaAt
import Derived.Laws.AppendOwnNone
namespace Go.Proofs.Yteloepccjoikdaa
set_option linter.unusedVariables false
open Go.RowKit

/-- The number that bytes begin with, and how many of them it takes. -/
def nextF : Nat → Nat → List Nat → Option (Nat × Nat)
  | _, _, [] => none
  | i, u, x :: r => if i = 9 ∧ 1 < x then none else if 128 ≤ x then nextF (i + 1) (u + x % 128 * 2 ^ (7 * i)) r
    else if x = 0 ∧ 0 < i then none else some (u + x % 128 * 2 ^ (7 * i), i + 1)

def nextC (bs : List Nat) : Option (Nat × Nat) := nextF 0 0 bs

theorem or_group (U x i : Nat) (hU : U < 2 ^ (7 * i)) (hi : i ≤ 9) (hx : x < 256) (h9 : i = 9 → x ≤ 1) :
    bits .or .u64 (U : Int) (IntKind.u64.wrap (IntKind.u64.wrap (bits .and .u8 (x : Int) 127) * 2 ^ (7 * i))) = ((U + x % 128 * 2 ^ (7 * i) : Nat) : Int) := by
  have e0 : (127 : Int) = ((127 : Nat) : Int) := rfl
  have e1 : bits .and .u8 (x : Int) 127 = ((x % 128 : Nat) : Int) := by rw [e0, u8_and_nat _ _ hx (by decide), nat_mask7]
  have hp : x % 128 * 2 ^ (7 * i) + 2 ^ (7 * i) ≤ 18446744073709551616 := by
    by_cases h : i = 9
    · have := h9 h; subst h
      have h3 : x % 128 ≤ 1 := by omega
      have : x % 128 * 2 ^ (7 * 9) ≤ 1 * 2 ^ (7 * 9) := Nat.mul_le_mul_right _ h3
      have h4 : 2 * (2 : Nat) ^ (7 * 9) = 18446744073709551616 := by decide +kernel
      rw [Nat.one_mul] at this
      generalize (2 : Nat) ^ (7 * 9) = z at *
      omega
    · have h3 : x % 128 + 1 ≤ 128 := by omega
      have h5 : (x % 128 + 1) * 2 ^ (7 * i) ≤ 128 * 2 ^ (7 * i) := Nat.mul_le_mul_right _ h3
      have h6 : 128 * 2 ^ (7 * i) = 2 ^ (7 * i + 7) := by rw [Nat.pow_add]; omega
      have h7 : (2 : Nat) ^ (7 * i + 7) ≤ 2 ^ 64 := Nat.pow_le_pow_right (by decide) (by omega)
      have h64 : (2 : Nat) ^ 64 = 18446744073709551616 := rfl
      rw [h64] at h7
      rw [Nat.succ_mul] at h5
      omega
  have e2 : ((x % 128 : Nat) : Int) * 2 ^ (7 * i) = ((x % 128 * 2 ^ (7 * i) : Nat) : Int) := by simp
  have hpos : 0 < 2 ^ (7 * i) := Nat.two_pow_pos _
  have hsm : x % 128 < 18446744073709551616 := by omega
  rw [e1, wrap_small _ hsm, e2, wrap_small _ (by omega), u64_or_nat _ _ (by omega) (by omega)]
  rw [Nat.or_comm, nat_join (7 * i) _ U (Nat.mul_mod_left _ _) hU, Nat.add_comm]

set_option maxRecDepth 100000 in
set_option maxHeartbeats 1000000 in
theorem next_any (ao : Option Addr) (len cap : Nat) (bs : List Nat) (w : World) (hr : Rd w (.slice ao len cap) (bs.map u8v)) (h256 : ∀ x ∈ bs, x < 256) (hbig : len ≤ 140737488355328) :
    Calls Try.prog 171 #[.slice ao len cap] w fun e w' => e = .returned (.tuple #[.int .u64 (((nextC bs).getD (0, 0)).1 : Nat), .int .i64 (((nextC bs).getD (0, 0)).2 : Nat)]) ∧ w = w' := by
  have HL := Lib.hid (rd_cells hr).1
  have HC := Lib.hid (rd_cells hr).2
  have H256 := Lib.hid h256
  clear hr h256
  go_enter Try.func171, Try.ntmps171
  go_wp2
  go_loop [4, 9] (fun u i => ∃ k U : Nat, k ≤ len ∧ k ≤ 9 ∧ i = .int .i64 (k : Int) ∧ u = .int .u64 (U : Int) ∧ U < 2 ^ (7 * k) ∧ nextF k U (bs.drop k) = nextC bs) (fun _ i => len - (intOf i).toNat)
  case atStart => exact ⟨0, 0, Nat.zero_le _, by omega, rfl, rfl, by simp, rfl⟩
  case round =>
    obtain ⟨k, U, hk, hk9, rfl, rfl, hU, hnx⟩ := hrel
    have HU := Lib.hid hU
    have HN := Lib.hid hnx
    clear hU hnx
    by_cases hlt : k < len
    · obtain ⟨b, off, rfl, hcell⟩ := HC.out (by omega)
      have hx := hcell k hlt
      obtain ⟨x, hxe⟩ : ∃ x, x = bs.getD k 0 := ⟨_, rfl⟩
      rw [← hxe] at hx
      have hget : bs[k]? = some x := by
        rw [hxe, List.getD_eq_getElem?_getD, List.getElem?_eq_getElem (by rw [← HL.out]; exact hlt)]; rfl
      have hx2 : x < 256 := H256.out x (List.mem_of_getElem? hget)
      have hdrop : bs.drop k = x :: bs.drop (k + 1) := by
        have hkl : k < bs.length := by rw [← HL.out]; exact hlt
        rw [List.drop_eq_getElem_cons hkl]
        congr 1
        rw [List.getElem?_eq_getElem hkl] at hget
        simpa using hget
      have hstep : nextF k U (bs.drop k) = (if k = 9 ∧ 1 < x then none else if 128 ≤ x then nextF (k + 1) (U + x % 128 * 2 ^ (7 * k)) (bs.drop (k + 1))
          else if x = 0 ∧ 0 < k then none else some (U + x % 128 * 2 ^ (7 * k), k + 1)) := by rw [hdrop]; rfl
      have HS := Lib.hid (hstep.symm.trans HN.out)
      clear hcell hxe hget hdrop hstep
      by_cases h9 : k = 9 ∧ 1 < x
      · obtain ⟨h91, h92⟩ := h9
        have HR := Lib.hid (show nextC bs = none by have := HS.out; rw [if_pos ⟨h91, h92⟩] at this; exact this.symm)
        subst h91
        have hb1 : decide ((1 : Int) < (x : Int)) = true := by simp; omega
        go_wp2
        go_ret2
        exact ⟨by rw [HR.out]; rfl, rfl⟩
      · have hs2 := HS.out
        rw [if_neg h9] at hs2
        have HS2 := Lib.hid hs2
        have hx9 : k = 9 → x ≤ 1 := by intro h; rcases Nat.lt_or_ge 1 x with h2 | h2; exact absurd ⟨h, h2⟩ h9; exact h2
        have HOR := Lib.hid (or_group U x k HU.out hk9 hx2 hx9)
        have HX9 := Lib.hid hx9
        clear hs2 h9
        by_cases hx128 : 128 ≤ x
        · have hkn9 : ¬ k = 9 := by intro h; have := HX9.out h; omega
          have hb9 : ((k : Int) == 9) = false := by rw [beq_eq_false_iff_ne]; omega
          have HR := Lib.hid (show nextF (k + 1) (U + x % 128 * 2 ^ (7 * k)) (bs.drop (k + 1)) = nextC bs by have := HS2.out; rwa [if_pos hx128] at this)
          clear hx9
          go_wp2
          go_round
          case rel =>
            refine ⟨k + 1, U + x % 128 * 2 ^ (7 * k), by omega, by omega, by go_num, by rw [HOR.out], ?_, HR.out⟩
            have h1 := HU.out
            have h3 : x % 128 + 1 ≤ 128 := by omega
            have h5 : (x % 128 + 1) * 2 ^ (7 * k) ≤ 128 * 2 ^ (7 * k) := Nat.mul_le_mul_right _ h3
            have h6 : 128 * 2 ^ (7 * k) = 2 ^ (7 * (k + 1)) := by rw [Nat.mul_add, Nat.pow_add]; omega
            rw [Nat.succ_mul] at h5
            omega
          case measure => simp [intOf]; omega
        · have hb128 : decide ((128 : Int) ≤ (x : Int)) = false := by simp; omega
          have HR0 := Lib.hid (show (if x = 0 ∧ 0 < k then none else some (U + x % 128 * 2 ^ (7 * k), k + 1)) = nextC bs by have := HS2.out; rwa [if_neg hx128] at this)
          by_cases hz : x = 0 ∧ 0 < k
          · have HR := Lib.hid (show nextC bs = none by have := HR0.out; rw [if_pos hz] at this; exact this.symm)
            obtain ⟨hz1, hz2⟩ := hz
            have hz3 : ((x : Int) == 0) = true := by rw [beq_iff_eq]; omega
            have hz4 : ((k : Int) == 9) = true ∨ ((k : Int) == 9) = false := by cases ((k : Int) == 9) <;> simp
            clear hz1 hx9
            rcases hz4 with hz4 | hz4
            · have hb1 : decide ((1 : Int) < (x : Int)) = false := by rw [beq_iff_eq] at hz3; simp; omega
              go_wp2
              go_ret2
              exact ⟨by rw [HR.out]; rfl, rfl⟩
            · go_wp2
              go_ret2
              exact ⟨by rw [HR.out]; rfl, rfl⟩
          · have HR := Lib.hid (show nextC bs = some (U + x % 128 * 2 ^ (7 * k), k + 1) by have := HR0.out; rw [if_neg hz] at this; exact this.symm)
            have hz4 : ((k : Int) == 9) = true ∨ ((k : Int) == 9) = false := by cases ((k : Int) == 9) <;> simp
            have hz5 : (((x : Int) == 0) = true ∧ k = 0) ∨ ((x : Int) == 0) = false := by
              by_cases h : x = 0
              · left; exact ⟨by rw [beq_iff_eq]; omega, by omega⟩
              · right; rw [beq_eq_false_iff_ne]; omega
            rcases hz5 with ⟨hz6, hk0⟩ | hz6
            · have hk0' : decide (0 < k) = false := by simp; omega
              have hk9' : ((k : Int) == 9) = false := by rw [beq_eq_false_iff_ne]; omega
              clear hx9 hz hz4 hk0
              go_wp2
              go_ret2
              refine ⟨?_, rfl⟩
              rw [HR.out]
              exact ret_pair (congrArg (Value.int .u64) HOR.out) rfl
            · clear hz
              rcases hz4 with hz4 | hz4
              · have hb1 : decide ((1 : Int) < (x : Int)) = false := by rw [beq_iff_eq] at hz4; simp; have := HX9.out (by omega); omega
                clear hx9
                go_wp2
                go_ret2
                refine ⟨?_, rfl⟩
                rw [HR.out]
                exact ret_pair (congrArg (Value.int .u64) HOR.out) rfl
              · clear hx9
                go_wp2
                go_ret2
                refine ⟨?_, rfl⟩
                rw [HR.out]
                exact ret_pair (congrArg (Value.int .u64) HOR.out) rfl
    · have HR := Lib.hid (show nextC bs = none by
        have := HN.out
        rw [List.drop_of_length_le (by rw [← HL.out]; omega)] at this
        exact this.symm)
      go_wp2
      go_ret2
      exact ⟨by rw [HR.out]; rfl, rfl⟩

end Go.Proofs.Yteloepccjoikdaa
