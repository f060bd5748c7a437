/-
  Plain facts: numbers and bytes one behind the other, and what is read of them when they are cut.
  The Reader's calls, told of the rows.
-/
import Derived.Test.YtjcmekhamohbnaaReadg
import Derived.Test.YtjcmekhamohbnaaAwkg
namespace Go.Proofs.Ytjcmekhamohbnaa
set_option linter.unusedVariables false

theorem pow_step (i : Nat) : 2 ^ (7 * (i + 1)) = 128 * 2 ^ (7 * i) := by rw [Nat.mul_add, Nat.pow_add]; omega

theorem group_step (u i : Nat) : u % 128 * 2 ^ (7 * i) + u / 128 * 2 ^ (7 * (i + 1)) = u * 2 ^ (7 * i) := by
  rw [pow_step, ← Nat.mul_assoc, ← Nat.add_mul]
  congr 1
  omega

theorem top_one (u : Nat) (h : u * 2 ^ (7 * 9) < 18446744073709551616) : u ≤ 1 := by
  have e : (2 : Nat) ^ (7 * 9) = 9223372036854775808 := by decide +kernel
  rw [e] at h
  omega

theorem nextF_num : ∀ (f i U u : Nat) (rest : List Nat), i + f = 9 → (i = 0 ∨ 0 < u) → u * 2 ^ (7 * i) < 18446744073709551616 →
    nextF i U (numF f u ++ rest) = some (U + u * 2 ^ (7 * i), i + (numF f u).length)
  | f, i, U, u, rest, hf, h0, hu => by
    by_cases hs : u < 128
    · rw [numF_small f u hs, List.singleton_append, nextF]
      have h9 : ¬(i = 9 ∧ 1 < u) := by
        rintro ⟨rfl, h1⟩
        have := top_one u hu
        omega
      rw [if_neg h9, if_neg (by omega), if_neg (by omega), Nat.mod_eq_of_lt hs]
      rfl
    · cases f with
      | zero =>
        obtain rfl : i = 9 := by omega
        have := top_one u hu
        omega
      | succ g =>
        have hq : u / 128 * 2 ^ (7 * (i + 1)) < 18446744073709551616 := by
          have := group_step u i
          omega
        rw [numF_big g u hs, List.cons_append, nextF, if_neg (by omega), if_pos (by omega)]
        have hm : (u % 128 + 128) % 128 = u % 128 := by omega
        rw [hm, nextF_num g (i + 1) _ (u / 128) rest (by omega) (.inr (by omega)) hq, List.length_cons, Nat.add_assoc, group_step]
        congr 2
        omega

theorem nextC_num (u : Nat) (rest : List Nat) (hu : u < 18446744073709551616) : nextC (numC u ++ rest) = some (u, (numC u).length) := by
  unfold nextC numC
  rw [nextF_num 9 0 0 u rest rfl (.inl rfl) (by simpa using hu)]
  simp

def rowsC (raw : List Nat) : List Nat → List Nat
  | [] => [7]
  | u :: r => numC u ++ (bytesC raw ++ rowsC raw r)

def rowsD (raw : List Nat) : List Nat → List Nat
  | [] => []
  | u :: r => (numC u ++ bytesC raw) ++ rowsD raw r

theorem rowsD_end (raw : List Nat) : ∀ l : List Nat, rowsD raw l ++ [7] = rowsC raw l
  | [] => rfl
  | u :: l => by rw [rowsD, rowsC, ← rowsD_end raw l]; simp

theorem numC_len (u : Nat) : (numC u).length ≤ 10 ∧ 0 < (numC u).length := numF_len 9 u

theorem rowsD_len (raw : List Nat) : ∀ l : List Nat, (rowsD raw l).length ≤ l.length * (20 + raw.length)
  | [] => by simp [rowsD]
  | u :: l => by
    have := rowsD_len raw l
    have h1 := (numC_len u).1
    have h2 := (numC_len raw.length).1
    simp only [rowsD, bytesC, List.length_append, List.length_cons, Nat.succ_mul]
    omega

theorem rowsC_lt (raw : List Nat) (hr : ∀ x ∈ raw, x < 256) (hl : raw.length < 18446744073709551616) : ∀ l : List Nat, (∀ u ∈ l, u < 18446744073709551616) → ∀ x ∈ rowsC raw l, x < 256
  | [], _, x, hx => by simp [rowsC] at hx; omega
  | u :: l, h, x, hx => by
    simp only [rowsC, bytesC, List.mem_append] at hx
    rcases hx with hx | (hx | hx) | hx
    · exact numC_lt u (h u List.mem_cons_self) x hx
    · exact numC_lt _ hl x hx
    · exact hr x hx
    · exact rowsC_lt raw hr hl l (fun v hv => h v (List.mem_cons_of_mem _ hv)) x hx

end Go.Proofs.Ytjcmekhamohbnaa

namespace Go.Proofs.Ytjcmekhamohbnaa
set_option linter.unusedVariables false
open Go.RowKit

theorem rowsC_len (raw : List Nat) (l : List Nat) : (rowsC raw l).length ≤ l.length * (20 + raw.length) + 1 := by
  rw [← rowsD_end raw l, List.length_append]
  have := rowsD_len raw l
  simp
  omega

theorem bytesC_lt (raw : List Nat) (hr : ∀ x ∈ raw, x < 256) (hl : raw.length < 18446744073709551616) : ∀ x ∈ bytesC raw, x < 256 := by
  intro x hx
  unfold bytesC at hx
  rw [List.mem_append] at hx
  rcases hx with hx | hx
  · exact numC_lt _ hl x hx
  · exact hr x hx

structure RowsOk (raw l : List Nat) : Prop where
  raw100 : raw.length ≤ 100
  l20 : l.length ≤ 20
  raw256 : ∀ x ∈ raw, x < 256
  l64 : ∀ u ∈ l, u < 18446744073709551616

theorem RowsOk.tail {raw l : List Nat} {u : Nat} (h : RowsOk raw (u :: l)) : RowsOk raw l :=
  ⟨h.raw100, by have := h.l20; rw [List.length_cons] at this; omega, h.raw256, fun v hv => h.l64 v (List.mem_cons_of_mem _ hv)⟩

theorem RowsOk.len {raw l : List Nat} (h : RowsOk raw l) : (rowsC raw l).length ≤ 2401 := by
  have h1 := rowsC_len raw l
  have h2 : l.length * (20 + raw.length) ≤ 20 * 120 := Nat.mul_le_mul h.l20 (by have := h.raw100; omega)
  omega

theorem RowsOk.lt {raw l : List Nat} (h : RowsOk raw l) : ∀ x ∈ rowsC raw l, x < 256 :=
  rowsC_lt raw h.raw256 (by have := h.raw100; omega) l h.l64

end Go.Proofs.Ytjcmekhamohbnaa
