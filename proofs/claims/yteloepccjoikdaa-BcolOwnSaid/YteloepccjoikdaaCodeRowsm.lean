/-
  Plain facts: numbers and bytes one behind the other, and what is read of them when they are cut.
-/
import Derived.Test.YteloepccjoikdaaReadg
namespace Go.Proofs.Yteloepccjoikdaa
set_option linter.unusedVariables false

theorem pow_step (i : Nat) : 2 ^ (7 * (i + 1)) = 128 * 2 ^ (7 * i) := by rw [Nat.mul_add, Nat.pow_add]; omega

theorem group_step (u i : Nat) : u % 128 * 2 ^ (7 * i) + u / 128 * 2 ^ (7 * (i + 1)) = u * 2 ^ (7 * i) := by
  rw [pow_step, ← Nat.mul_assoc, ← Nat.add_mul]
  congr 1
  omega

theorem top_one (u : Nat) (h : u * 2 ^ (7 * 9) < 18446744073709551616) : u ≤ 1 := by
  have e : (2 : Nat) ^ (7 * 9) = 9223372036854775808 := by decide +kernel
  rw [e] at h
  omega

/-- A number's bytes are read as the number, whatever stands behind. -/
theorem nextF_num : ∀ (f i U u : Nat) (rest : List Nat), i + f = 9 → (i = 0 ∨ 0 < u) → u * 2 ^ (7 * i) < 18446744073709551616 →
    nextF i U (numF f u ++ rest) = some (U + u * 2 ^ (7 * i), i + (numF f u).length)
  | f, i, U, u, rest, hf, h0, hu => by
    by_cases hs : u < 128
    · rw [numF_small f u hs, List.singleton_append, nextF]
      have h9 : ¬(i = 9 ∧ 1 < u) := by
        rintro ⟨rfl, h1⟩
        have := top_one u hu
        omega
      rw [if_neg h9, if_neg (by omega), if_neg (by omega), Nat.mod_eq_of_lt hs]
      rfl
    · cases f with
      | zero =>
        obtain rfl : i = 9 := by omega
        have := top_one u hu
        omega
      | succ g =>
        have hq : u / 128 * 2 ^ (7 * (i + 1)) < 18446744073709551616 := by
          have := group_step u i
          omega
        rw [numF_big g u hs, List.cons_append, nextF, if_neg (by omega), if_pos (by omega)]
        have hm : (u % 128 + 128) % 128 = u % 128 := by omega
        rw [hm, nextF_num g (i + 1) _ (u / 128) rest (by omega) (.inr (by omega)) hq, List.length_cons, Nat.add_assoc, group_step]
        congr 2
        omega

/-- Cut, they are none. -/
theorem nextF_cut : ∀ (f i U u q : Nat), i + f = 9 → q < (numF f u).length → nextF i U ((numF f u).take q) = none
  | f, i, U, u, 0, hf, hq => by rw [List.take_zero]; rfl
  | f, i, U, u, q + 1, hf, hq => by
    by_cases hs : u < 128
    · rw [numF_small f u hs] at hq
      simp at hq
    · cases f with
      | zero => rw [numF] at hq; simp at hq
      | succ g =>
        rw [numF_big g u hs] at hq ⊢
        rw [List.take_succ_cons, nextF, if_neg (by omega), if_pos (by omega)]
        exact nextF_cut g (i + 1) _ (u / 128) q (by omega) (by simpa using hq)

theorem nextC_num (u : Nat) (rest : List Nat) (hu : u < 18446744073709551616) : nextC (numC u ++ rest) = some (u, (numC u).length) := by
  unfold nextC numC
  rw [nextF_num 9 0 0 u rest rfl (.inl rfl) (by simpa using hu)]
  simp

/-- What is read of a number, and more, cut behind q bytes. -/
theorem nextC_take (u : Nat) (rest : List Nat) (q : Nat) (hu : u < 18446744073709551616) :
    nextC ((numC u ++ rest).take q) = if (numC u).length ≤ q then some (u, (numC u).length) else none := by
  by_cases h : (numC u).length ≤ q
  · rw [if_pos h]
    have e : (numC u ++ rest).take q = numC u ++ rest.take (q - (numC u).length) := by
      rw [List.take_append, List.take_of_length_le h]
    rw [e, nextC_num u _ hu]
  · rw [if_neg h]
    have e : (numC u ++ rest).take q = (numC u).take q := by
      rw [List.take_append, show q - (numC u).length = 0 by omega, List.take_zero, List.append_nil]
    rw [e]
    exact nextF_cut 9 0 0 u q rfl (by unfold numC at h; omega)

/-- The rows: each number, then the bytes; then a 7. -/
def rowsC (raw : List Nat) : List Nat → List Nat
  | [] => [7]
  | u :: r => numC u ++ (bytesC raw ++ rowsC raw r)

/-- The rows without the 7. -/
def rowsD (raw : List Nat) : List Nat → List Nat
  | [] => []
  | u :: r => (numC u ++ bytesC raw) ++ rowsD raw r

theorem rowsD_snoc (raw : List Nat) : ∀ (l : List Nat) (u : Nat), rowsD raw (l ++ [u]) = (rowsD raw l ++ numC u) ++ bytesC raw
  | [], u => by simp [rowsD]
  | v :: l, u => by simp [rowsD, rowsD_snoc raw l u]

theorem rowsD_end (raw : List Nat) : ∀ l : List Nat, rowsD raw l ++ [7] = rowsC raw l
  | [] => rfl
  | u :: l => by rw [rowsD, rowsC, ← rowsD_end raw l]; simp

theorem numC_len (u : Nat) : (numC u).length ≤ 10 ∧ 0 < (numC u).length := numF_len 9 u

theorem rowsD_len (raw : List Nat) : ∀ l : List Nat, (rowsD raw l).length ≤ l.length * (20 + raw.length)
  | [] => by simp [rowsD]
  | u :: l => by
    have := rowsD_len raw l
    have h1 := (numC_len u).1
    have h2 := (numC_len raw.length).1
    simp only [rowsD, bytesC, List.length_append, List.length_cons, Nat.succ_mul]
    omega

theorem rowsC_lt (raw : List Nat) (hr : ∀ x ∈ raw, x < 256) (hl : raw.length < 18446744073709551616) : ∀ l : List Nat, (∀ u ∈ l, u < 18446744073709551616) → ∀ x ∈ rowsC raw l, x < 256
  | [], _, x, hx => by simp [rowsC] at hx; omega
  | u :: l, h, x, hx => by
    simp only [rowsC, bytesC, List.mem_append] at hx
    rcases hx with hx | (hx | hx) | hx
    · exact numC_lt u (h u List.mem_cons_self) x hx
    · exact numC_lt _ hl x hx
    · exact hr x hx
    · exact rowsC_lt raw hr hl l (fun v hv => h v (List.mem_cons_of_mem _ hv)) x hx

/-- Where a reader of the rows stands, ahead of those of l: cut behind q bytes (all of them, where it is the whole), or it could not read. -/
def AtRows (raw : List Nat) (whole : Bool) (l left : List Nat) (bad : Bool) : Prop :=
  (bad = false ∧ ∃ q, left = (rowsC raw l).take q ∧ (whole = true ↔ (rowsC raw l).length ≤ q)) ∨ (bad = true ∧ left = [] ∧ whole = false)

end Go.Proofs.Yteloepccjoikdaa
