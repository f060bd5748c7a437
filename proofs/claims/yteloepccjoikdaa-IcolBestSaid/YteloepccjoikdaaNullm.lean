/-
  Plain facts: the bytes that bools have, and the bools that bytes begin with.
-/
import Derived.Test.YteloepccjoikdaaCodeRowsm
import Derived.Test.YteloepccjoikdaaBitpm
namespace Go.Proofs.Yteloepccjoikdaa
set_option linter.unusedVariables false

/-- How many are true. -/
def countB : List Bool → Nat
  | [] => 0
  | b :: l => b.toNat + countB l

theorem countB_append (a b : List Bool) : countB (a ++ b) = countB a + countB b := by
  induction a with
  | nil => simp [countB]
  | cons x a ih => simp [countB, ih]; omega

theorem countB_le (l : List Bool) : countB l ≤ l.length := by
  induction l with
  | nil => simp [countB]
  | cons x l ih => cases x <;> simp [countB] <;> omega

theorem countB_take (l : List Bool) (k : Nat) (b : Bool) (h : l[k]? = some b) : countB (l.take (k + 1)) = countB (l.take k) + b.toNat := by
  rw [List.take_add_one, h, countB_append]
  simp [countB]

theorem countB_zero (l : List Bool) (h : countB l = 0) : l = List.replicate l.length false := by
  induction l with
  | nil => rfl
  | cons x l ih =>
    cases x
    · simp [countB] at h
      rw [List.length_cons, List.replicate_succ, ← ih h]
    · exact absurd h (by rw [countB]; simp)

theorem countB_all (l : List Bool) (h : countB l = l.length) : l = List.replicate l.length true := by
  induction l with
  | nil => rfl
  | cons x l ih =>
    cases x
    · have h1 := countB_le l
      rw [countB, List.length_cons] at h
      simp at h
      omega
    · rw [countB, List.length_cons] at h
      simp at h
      rw [List.length_cons, List.replicate_succ, ← ih (by omega)]

theorem countB_replicate_true (n : Nat) : countB (List.replicate n true) = n := by
  induction n with
  | zero => rfl
  | succ n ih => rw [List.replicate_succ, countB, ih]; simp; omega

theorem countB_replicate_false (n : Nat) : countB (List.replicate n false) = 0 := by
  induction n with
  | zero => rfl
  | succ n ih => rw [List.replicate_succ, countB, ih]; rfl

def bitsN (l : List Bool) : List Nat := l.map Bool.toNat

theorem bitsN_lt (l : List Bool) : ∀ x ∈ bitsN l, x < 2 ^ 1 := by
  intro x hx
  obtain ⟨b, _, rfl⟩ := List.mem_map.1 hx
  cases b <;> decide

theorem bitsN_back (l : List Bool) : (bitsN l).map (· == 1) = l := by
  unfold bitsN
  rw [List.map_map]
  conv => rhs; rw [← List.map_id l]
  refine List.map_congr_left fun b _ => ?_
  cases b <;> rfl

/-- The bytes of bools. -/
def encN (l : List Bool) : List Nat :=
  numC l.length ++ (if countB l = 0 then [0] else if countB l = l.length then [1] else 2 :: packB 1 (bitsN l))

/-- The bools that bytes begin with behind how many they are, and what stands behind them. -/
def decK (n : Nat) (kind : Nat) (rest : List Nat) : Option (List Bool × List Nat) :=
  if kind = 0 then some (List.replicate n false, rest)
  else if kind = 1 ∧ 0 < n then some (List.replicate n true, rest)
  else if kind = 2 ∧ (n + 7) / 8 ≤ rest.length then
    match unpackB (rest.take ((n + 7) / 8)) 1 n with
    | none => none
    | some us => if countB (us.map (· == 1)) = 0 ∨ countB (us.map (· == 1)) = n then none else some (us.map (· == 1), rest.drop ((n + 7) / 8))
  else none

/-- The bools that bytes begin with. -/
def decN (b : List Nat) : Option (List Bool × List Nat) :=
  match nextC b with
  | none => none
  | some (n, k) => if 65535 < n then none else
    match b.drop k with
    | [] => none
    | kind :: rest => decK n kind rest

theorem decK_short (n : Nat) (rest : List Nat) (h : rest.length < (n + 7) / 8) : decK n 2 rest = none := by
  unfold decK
  rw [if_neg (by decide), if_neg (by omega), if_neg (by omega)]

theorem decK_none (n : Nat) (rest : List Nat) (h : (n + 7) / 8 ≤ rest.length) (hu : unpackB (rest.take ((n + 7) / 8)) 1 n = none) : decK n 2 rest = none := by
  unfold decK
  rw [if_neg (by decide), if_neg (by omega), if_pos ⟨rfl, h⟩, hu]

theorem decK_some (n : Nat) (rest : List Nat) (us : List Nat) (h : (n + 7) / 8 ≤ rest.length) (hu : unpackB (rest.take ((n + 7) / 8)) 1 n = some us) :
    decK n 2 rest = if countB (us.map (· == 1)) = 0 ∨ countB (us.map (· == 1)) = n then none else some (us.map (· == 1), rest.drop ((n + 7) / 8)) := by
  unfold decK
  rw [if_neg (by decide), if_neg (by omega), if_pos ⟨rfl, h⟩, hu]

theorem dec_enc (l : List Bool) (more : List Nat) (h : l.length ≤ 65535) : decN (encN l ++ more) = some (l, more) := by
  unfold decN encN
  rw [List.append_assoc, nextC_num _ _ (by omega)]
  simp only
  rw [if_neg (by omega), List.drop_left]
  by_cases h0 : countB l = 0
  · rw [if_pos h0]
    simp only [List.singleton_append]
    unfold decK
    rw [if_pos rfl, ← countB_zero l h0]
  · rw [if_neg h0]
    by_cases h1 : countB l = l.length
    · rw [if_pos h1]
      simp only [List.singleton_append]
      unfold decK
      rw [if_neg (by decide), if_pos ⟨rfl, by omega⟩, ← countB_all l h1]
    · rw [if_neg h1]
      simp only [List.cons_append]
      have hl : (packB 1 (bitsN l)).length = (l.length + 7) / 8 := by rw [packB_length]; unfold bitsN; rw [List.length_map, Nat.one_mul]
      have hu := unpack_pack 1 (bitsN l) (by decide) (by unfold bitsN; rw [List.length_map]; exact h) (bitsN_lt l)
      have hb : (bitsN l).length = l.length := by unfold bitsN; rw [List.length_map]
      unfold decK
      rw [if_neg (by decide), if_neg (by omega), if_pos ⟨rfl, by rw [List.length_append, hl]; omega⟩, ← hl, List.take_left, List.drop_left]
      rw [hb] at hu
      rw [show ((1 : Int)) = ((1 : Nat) : Int) from rfl, hu]
      simp only [bitsN_back]
      rw [if_neg (by omega)]

theorem encN_len (l : List Bool) : (encN l).length ≤ 11 + (l.length + 7) / 8 := by
  unfold encN
  have := (numC_len l.length).1
  have hl : (packB 1 (bitsN l)).length = (l.length + 7) / 8 := by rw [packB_length]; unfold bitsN; rw [List.length_map, Nat.one_mul]
  rw [List.length_append]
  split
  · simp; omega
  · split
    · simp; omega
    · rw [List.length_cons, hl]; omega

theorem encN_lt (l : List Bool) (h : l.length < 18446744073709551616) : ∀ x ∈ encN l, x < 256 := by
  intro x hx
  unfold encN at hx
  rw [List.mem_append] at hx
  rcases hx with hx | hx
  · exact numC_lt _ h x hx
  · split at hx
    · simp at hx; omega
    · split at hx
      · simp at hx; omega
      · rw [List.mem_cons] at hx
        rcases hx with rfl | hx
        · decide
        · exact packB_mem _ _ x hx

end Go.Proofs.Yteloepccjoikdaa
