/-
  Layer 4, plain: how many bytes the best takes: of alike numbers, of near ones, of few.
-/
import Derived.Test.YteloepccjoikdaaIcw
namespace Go.Proofs.Yteloepccjoikdaa
set_option linter.unusedVariables false
set_option linter.unusedSimpArgs false
open Go.RowKit

theorem best_le (l : List Int) (k : Nat) (h1 : 1 ≤ k) (h2 : k ≤ 4) : (bestN l 4).length ≤ 1 + (kindT (k : Int) l).length := by
  have h := (bestN_ok l 4 (by omega)).2.1 k h1 h2
  rw [List.length_cons] at h
  omega
theorem numC_one (n : Nat) (h : n < 128) : (numC n).length = 1 := by
  unfold numC
  rw [numF, if_pos h]
  rfl
theorem runsT_nil : runsT [] = [] := rfl
theorem best_same (n : Nat) (z : Int) (h1 : 0 < n) (h2 : n < 128) : (bestN (List.replicate n z) 4).length ≤ 12 := by
  have h := best_le (List.replicate n z) 2 (by omega) (by omega)
  have e : kindT ((2 : Nat) : Int) (List.replicate n z) = runsT (List.replicate n z) := rfl
  rw [e] at h
  obtain ⟨m, a, h3, h4, h5, h6, h7, h8, h9, h10⟩ := runsT_step (List.replicate n z) (by rw [List.length_replicate]; exact h1)
  rw [List.length_replicate] at h4
  have ha : a = z := by
    rw [List.getElem?_replicate, if_pos h1] at h6
    exact (Option.some.inj h6).symm
  have hm : m = n := by
    rcases Nat.lt_or_ge m n with h | h
    · exfalso
      apply h8
      rw [List.getElem?_replicate, if_pos h, ha]
    · omega
  subst hm
  rw [h9, List.drop_eq_nil_of_le (by rw [List.length_replicate]; exact Nat.le_refl _), runsT_nil, List.append_nil, List.length_append, numC_one m h2] at h
  have := putT_bound a
  omega
theorem bitLen_4 : ∀ x, x < 16 → Lib.bitLen x ≤ 4 := by decide
theorem best_close (l : List Int) (n : Nat) (C : Int) (hn : l.length = n) (h1 : 0 < n) (hc : ∀ x ∈ l, C ≤ x ∧ x ≤ C + 15) : (bestN l 4).length ≤ 12 + n / 2 + 1 := by
  have h := best_le l 3 (by omega) (by omega)
  have e : kindT ((3 : Nat) : Int) l = frameT l := rfl
  rw [e] at h
  unfold frameT at h
  rw [if_neg (by omega)] at h
  obtain ⟨_, g2, g3⟩ := lo_hi (l := l) (by omega)
  have c2 := hc _ g2
  have c3 := hc _ g3
  have hw : widT l ≤ 4 := bitLen_4 _ (by omega)
  have hp := packB_length (widT l) (diffT l)
  have hd : (diffT l).length = n := by rw [diffT, List.length_map, hn]
  rw [hd] at hp
  have hm : widT l * n ≤ 4 * n := Nat.mul_le_mul_right _ hw
  have ht := putT_bound (loT l)
  rw [List.length_append, List.length_append, List.length_singleton] at h
  omega
theorem up_two {ws : List Int} (hs : ws.Pairwise (· < ·)) (D : Int) (h : ∀ x ∈ ws, x = 0 ∨ x = D) : ws.length ≤ 2 := by
  rcases Nat.lt_or_ge 2 ws.length with hlt | h2
  · exfalso
    have e0 := List.getElem?_eq_getElem (l := ws) (i := 0) (by omega)
    have e1 := List.getElem?_eq_getElem (l := ws) (i := 1) (by omega)
    have e2 := List.getElem?_eq_getElem (l := ws) (i := 2) (by omega)
    have a1 := up_at hs (by omega) e0 e1
    have a2 := up_at hs (by omega) e1 e2
    have b0 := h _ (List.mem_of_getElem? e0)
    have b1 := h _ (List.mem_of_getElem? e1)
    have b2 := h _ (List.mem_of_getElem? e2)
    omega
  · exact h2
theorem best_few (l : List Int) (n : Nat) (D : Int) (hn : l.length = n) (hc : ∀ x ∈ l, x = 0 ∨ x = D) : (bestN l 4).length ≤ 42 + n / 4 + 1 := by
  have h := best_le l 4 (by omega) (by omega)
  have e : kindT ((4 : Nat) : Int) l = dictT l := rfl
  rw [e] at h
  unfold dictT at h
  have hw : (wordsT l).length ≤ 2 := up_two (wordsT_up l) D fun x hx => hc x ((wordsT_mem l x).1 hx)
  have hb : Lib.bitLen ((wordsT l).length - 1) ≤ 1 := by
    rcases (by omega : (wordsT l).length - 1 = 0 ∨ (wordsT l).length - 1 = 1) with e | e <;> rw [e] <;> decide
  have hp := packB_length (Lib.bitLen ((wordsT l).length - 1)) (l.map (placeT (wordsT l)))
  rw [List.length_map, hn] at hp
  have hm : Lib.bitLen ((wordsT l).length - 1) * n ≤ 1 * n := Nat.mul_le_mul_right _ hb
  have ht := plainT_len (wordsT l)
  have hk : (numC (wordsT l).length).length = 1 := numC_one _ (by omega)
  rw [List.length_append, List.length_append, hk] at h
  omega
theorem sq_mod4 (i : Nat) : i * i % 4 = 0 ∨ i * i % 4 = 1 := by
  rw [Nat.mul_mod]
  rcases (by omega : i % 4 = 0 ∨ i % 4 = 1 ∨ i % 4 = 2 ∨ i % 4 = 3) with h | h | h | h <;> rw [h] <;> decide
/-- The best of a column is read as the column. -/
theorem best_dec (l : List Int) (hI : ∀ n ∈ l, I64 n) (hl : l.length ≤ 100) : decT (bestN l 4) (l.length : Int) = some l ∧ (∀ x ∈ bestN l 4, x < 256) ∧ (bestN l 4).length ≤ 10001 := by
  obtain ⟨⟨k, hk1, hk2, hk3⟩, _, _⟩ := bestN_ok l 4 (by omega)
  have e : (k : Int).toNat = k := by omega
  have h1 := dec_tell (k : Int) (by omega) l (by omega) hI
  have h2 := told_lt (k : Int) (by omega) l hI hl
  rw [e] at h1 h2
  rw [hk3]
  exact ⟨h1, h2.1, h2.2⟩
theorem and_lowJ (x : Int) (j : Nat) (hj : j ≤ 40) (m : Int) (hm : m = 2 ^ j - 1) : bits .and .i64 x m = x % 2 ^ j := by
  subst hm
  have hp : (2 ^ j : Int) = ((2 ^ j : Nat) : Int) := by simp
  have hpos : 0 < 2 ^ j := Nat.two_pow_pos j
  have hle : 2 ^ j ≤ 2 ^ 40 := Nat.pow_le_pow_right (by decide) hj
  have h : bits .and .i64 x (2 ^ j - 1) = IntKind.i64.wrap ((BitVec.ofInt 64 x &&& BitVec.ofInt 64 (2 ^ j - 1)).toNat : Int) := rfl
  have e1 : (BitVec.ofInt 64 ((2 : Int) ^ j - 1)).toNat = 2 ^ j - 1 := by
    rw [hp, show (((2 ^ j : Nat) : Int) - 1) = ((2 ^ j - 1 : Nat) : Int) by omega, BitVec.ofInt_natCast, BitVec.toNat_ofNat]
    exact Nat.mod_eq_of_lt (by omega)
  have h1 : (BitVec.ofInt 64 x &&& BitVec.ofInt 64 (2 ^ j - 1)).toNat = (x % 2 ^ j).toNat := by
    rw [BitVec.toNat_and, e1, Nat.and_two_pow_sub_one_eq_mod, BitVec.toNat_ofInt]
    have hd : ((2 ^ j : Nat) : Int) ∣ ((2 ^ 64 : Nat) : Int) := Int.natCast_dvd_natCast.2 (Nat.pow_dvd_pow 2 (by omega))
    have h64 : 0 ≤ x % ((2 ^ 64 : Nat) : Int) := Int.emod_nonneg _ (by decide)
    have hm2 : (x % ((2 ^ 64 : Nat) : Int)) % ((2 ^ j : Nat) : Int) = x % ((2 ^ j : Nat) : Int) := Int.emod_emod_of_dvd x hd
    have : (((x % ((2 ^ 64 : Nat) : Int)).toNat % 2 ^ j : Nat) : Int) = x % ((2 ^ j : Nat) : Int) := by
      rw [Int.natCast_emod, Int.toNat_of_nonneg h64]
      exact hm2
    rw [hp, ← this]
    rfl
  rw [h, h1]
  have h0 : 0 ≤ x % (2 : Int) ^ j := Int.emod_nonneg _ (by rw [hp]; omega)
  have h2 : x % (2 : Int) ^ j < (2 : Int) ^ j := Int.emod_lt_of_pos _ (by rw [hp]; omega)
  rw [Int.toNat_of_nonneg h0]
  exact IntWalk.i64_in _ (by rw [hp] at *; omega)

end Go.Proofs.Yteloepccjoikdaa
