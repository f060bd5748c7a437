/-
  Plain facts: the reference's GetNulls tells the bools as it has packed them again.
-/
import Derived.Test.YtdelcaijehcaeaaRefg
namespace Go.Proofs.Ytdelcaijehcaeaa
set_option linter.unusedVariables false
open Go.RowKit

theorem nextF_canon : ∀ (l : List Nat) (i U u m : Nat), (∀ x ∈ l, x < 256) → i ≤ 9 → nextF i U l = some (u, m) → ∃ t, u = U + t * 2 ^ (7 * i) ∧ i < m ∧ l.take (m - i) = numF (9 - i) t ∧ (0 < i → 0 < t) := by
  intro l
  induction l with
  | nil => intro i U u m _ _ h; cases h
  | cons x r ih =>
    intro i U u m h256 hi h
    have hx := h256 x (by simp)
    unfold nextF at h
    by_cases h9 : i = 9 ∧ 1 < x
    · rw [if_pos h9] at h; cases h
    · rw [if_neg h9] at h
      by_cases hx128 : 128 ≤ x
      · rw [if_pos hx128] at h
        have hi8 : i ≤ 8 := by omega
        obtain ⟨t, h1, h2, h3, h4⟩ := ih (i + 1) _ u m (fun y hy => h256 y (by simp [hy])) (by omega) h
        refine ⟨x % 128 + 128 * t, ?_, by omega, ?_, fun _ => by have := h4 (by omega); omega⟩
        · rw [h1, Nat.add_mul, Nat.add_assoc, show 7 * (i + 1) = 7 * i + 7 by omega, Nat.pow_add]
          congr 2
          rw [show (2 : Nat) ^ 7 = 128 by decide, Nat.mul_comm 128 t, Nat.mul_assoc, Nat.mul_comm 128]
        · have h5 := h4 (by omega)
          rw [show m - i = (m - (i + 1)) + 1 by omega, List.take_succ_cons, h3, show 9 - i = (9 - (i + 1)) + 1 by omega, numF_big _ _ (by omega)]
          rw [show (x % 128 + 128 * t) % 128 + 128 = x by omega, show (x % 128 + 128 * t) / 128 = t by omega]
      · rw [if_neg hx128] at h
        by_cases hz : x = 0 ∧ 0 < i
        · rw [if_pos hz] at h; cases h
        · rw [if_neg hz] at h
          simp only [Option.some.injEq, Prod.mk.injEq] at h
          obtain ⟨h1, h2⟩ := h
          refine ⟨x, by rw [← h1, Nat.mod_eq_of_lt (by omega)], by omega, ?_, fun _ => by omega⟩
          rw [← h2, show i + 1 - i = 1 by omega, numF_small _ _ (by omega)]
          rfl

/-- A number has one form alone. -/
theorem nextC_canon (b : List Nat) (n k : Nat) (h256 : ∀ x ∈ b, x < 256) (h : nextC b = some (n, k)) : b.take k = numC n := by
  obtain ⟨t, h1, h2, h3, _⟩ := nextF_canon b 0 0 n k h256 (by omega) h
  simp at h1
  subst h1
  exact h3

/-- The bools as the reference reads them. -/
def outB (kind : Nat) (rest : List Nat) (n : Nat) : List Bool := (List.range n).map fun i => decide (kind = 1) || (decide (kind = 2) && bitB rest i)

theorem outB_length (kind : Nat) (rest : List Nat) (n : Nat) : (outB kind rest n).length = n := by simp [outB]

theorem outB_succ (kind : Nat) (rest : List Nat) (n : Nat) : outB kind rest (n + 1) = outB kind rest n ++ [decide (kind = 1) || (decide (kind = 2) && bitB rest n)] := by
  unfold outB; rw [List.range_succ, List.map_append]; rfl

theorem outB_zero (rest : List Nat) (n : Nat) : outB 0 rest n = List.replicate n false := by
  unfold outB
  rw [List.eq_replicate_iff]
  exact ⟨by simp, fun b hb => by obtain ⟨i, _, rfl⟩ := List.mem_map.1 hb; simp⟩

theorem outB_one (rest : List Nat) (n : Nat) : outB 1 rest n = List.replicate n true := by
  unfold outB
  rw [List.eq_replicate_iff]
  exact ⟨by simp, fun b hb => by obtain ⟨i, _, rfl⟩ := List.mem_map.1 hb; simp⟩

theorem bitsN_outB (rest : List Nat) (n : Nat) (h : (n + 7) / 8 ≤ rest.length) : bitsN (outB 2 rest n) = numsB (rest.take ((n + 7) / 8)) 1 n := by
  unfold bitsN outB numsB
  rw [List.map_map]
  refine List.map_congr_left fun i hi => ?_
  have hi' := List.mem_range.1 hi
  have hg : (rest.take ((n + 7) / 8)).getD (i / 8) 0 = rest.getD (i / 8) 0 := by
    rw [List.getD_eq_getElem?_getD, List.getD_eq_getElem?_getD, List.getElem?_take, if_pos (by omega)]
  simp only [Function.comp, numB, bitN, Nat.mul_one, Nat.mul_zero, Nat.zero_add, Nat.add_zero, hg]
  unfold bitB
  rw [Nat.testBit_eq_decide_div_mod_eq]
  have h2 : rest.getD (i / 8) 0 / 2 ^ (7 - i % 8) % 2 = 0 ∨ rest.getD (i / 8) 0 / 2 ^ (7 - i % 8) % 2 = 1 := by omega
  rcases h2 with h2 | h2 <;> rw [h2] <;> rfl

theorem take_front (a : List Nat) (x : Nat) (r : List Nat) (q : Nat) : (a ++ x :: r).take (a.length + 1 + q) = a ++ x :: r.take q := by
  rw [List.take_append, List.take_of_length_le (by omega), show a.length + 1 + q - a.length = q + 1 by omega, List.take_succ_cons]

theorem drop_front (a : List Nat) (x : Nat) (r : List Nat) (q : Nat) : (a ++ x :: r).drop (a.length + 1 + q) = r.drop q := by
  rw [List.drop_append, List.drop_of_length_le (by omega), show a.length + 1 + q - a.length = q + 1 by omega, List.nil_append, List.drop_succ_cons]

theorem get_kind (n kind : Nat) (rest : List Nat) (hn : n ≤ 65535) (hk : kind ≤ 2) (h256 : ∀ i, rest.getD i 0 < 256) (hs : kind = 2 → (n + 7) / 8 ≤ rest.length) :
    (encN (outB kind rest n) = (numC n ++ kind :: rest).take (encN (outB kind rest n)).length →
      (kind = 2 → (n + 7) / 8 + 1 ≤ (encN (outB kind rest n)).length ∧ (encN (outB kind rest n)).getD ((encN (outB kind rest n)).length - (n + 7) / 8 - 1) 0 = 2) ∧
      decK n kind rest = some (outB kind rest n, (numC n ++ kind :: rest).drop (encN (outB kind rest n)).length)) ∧
    (encN (outB kind rest n) ≠ (numC n ++ kind :: rest).take (encN (outB kind rest n)).length → decK n kind rest = none) := by
  have hl1 : ∀ y : Nat, (numC n ++ [y]).length = (numC n).length + 1 + 0 := by intro y; simp
  have h3 : kind = 0 ∨ kind = 1 ∨ kind = 2 := by omega
  rcases h3 with rfl | rfl | rfl
  · have he : encN (outB 0 rest n) = numC n ++ [0] := by
      unfold encN
      rw [outB_length, outB_zero, countB_replicate_false, if_pos rfl]
    rw [he, hl1, take_front, drop_front, List.take_zero, List.drop_zero]
    refine ⟨fun _ => ⟨fun h => by omega, ?_⟩, fun h => absurd rfl h⟩
    unfold decK
    rw [if_pos rfl, outB_zero]
  · by_cases h0 : n = 0
    · subst h0
      have he : encN (outB 1 rest 0) = numC 0 ++ [0] := by
        unfold encN
        rw [outB_length, outB_one, countB_replicate_true, if_pos rfl]
      rw [he, hl1, take_front, List.take_zero]
      refine ⟨fun h => ?_, fun _ => ?_⟩
      · have := List.append_cancel_left h; simp at this
      · unfold decK
        rw [if_neg (by decide), if_neg (by omega), if_neg (by omega)]
    · have he : encN (outB 1 rest n) = numC n ++ [1] := by
        unfold encN
        rw [outB_length, outB_one, countB_replicate_true, if_neg h0, if_pos rfl]
      rw [he, hl1, take_front, drop_front, List.take_zero, List.drop_zero]
      refine ⟨fun _ => ⟨fun h => by omega, ?_⟩, fun h => absurd rfl h⟩
      unfold decK
      rw [if_neg (by decide), if_pos ⟨rfl, by omega⟩, outB_one]
  · have hs' := hs rfl
    obtain ⟨z, hz⟩ : ∃ z, z = (n + 7) / 8 := ⟨_, rfl⟩
    have hbit := bitsN_outB rest n hs'
    have hus := bitsN_back (outB 2 rest n)
    rw [hbit] at hus
    have hpn := pack_nums (bs := rest.take ((n + 7) / 8)) (N := 1) (C := n) (fun i => by
      rw [List.getD_eq_getElem?_getD, List.getElem?_take]
      split
      · rw [← List.getD_eq_getElem?_getD]; exact h256 i
      · decide) (by rw [List.length_take, Nat.one_mul]; omega)
    rw [← hz] at hs' hbit hus hpn ⊢
    have hun : unpackB (rest.take z) 1 (n : Int) = if spareB (rest.take z) (1 * n) = true then some (numsB (rest.take z) 1 n) else none := by
      unfold unpackB
      rw [show heldN 1 = 1 by decide, Int.toNat_natCast]
      by_cases hsp : spareB (rest.take z) (1 * n) = true
      · rw [if_pos ⟨by omega, by omega, by rw [List.length_take, Nat.one_mul]; omega, hsp⟩, if_pos hsp]; rfl
      · rw [if_neg (by rintro ⟨_, _, _, h⟩; exact hsp h), if_neg hsp]
    have hdk : decK n 2 rest = match unpackB (rest.take z) 1 (n : Int) with
      | none => none
      | some us => if countB (us.map (· == 1)) = 0 ∨ countB (us.map (· == 1)) = n then none else some (us.map (· == 1), rest.drop z) := by
      unfold decK
      rw [if_neg (by decide), if_neg (by omega), ← hz, if_pos ⟨rfl, hs'⟩]
      rcases unpackB (List.take z rest) 1 (n : Int) with _ | us <;> rfl
    by_cases hc0 : countB (outB 2 rest n) = 0
    · have he : encN (outB 2 rest n) = numC n ++ [0] := by
        unfold encN
        rw [outB_length, if_pos hc0]
      rw [he, hl1, take_front, List.take_zero]
      refine ⟨fun h => ?_, fun _ => ?_⟩
      · have := List.append_cancel_left h; simp at this
      · rw [hdk, hun]
        split
        · rfl
        · next us heq =>
          split at heq
          · simp only [Option.some.injEq] at heq
            subst heq
            rw [hus, if_pos (.inl hc0)]
          · cases heq
    · by_cases hcn : countB (outB 2 rest n) = n
      · have he : encN (outB 2 rest n) = numC n ++ [1] := by
          unfold encN
          rw [outB_length, if_neg hc0, if_pos hcn]
        rw [he, hl1, take_front, List.take_zero]
        refine ⟨fun h => ?_, fun _ => ?_⟩
        · have := List.append_cancel_left h; simp at this
        · rw [hdk, hun]
          split
          · rfl
          · next us heq =>
            split at heq
            · simp only [Option.some.injEq] at heq
              subst heq
              rw [hus, if_pos (.inr hcn)]
            · cases heq
      · have he : encN (outB 2 rest n) = numC n ++ 2 :: packB 1 (numsB (rest.take z) 1 n) := by
          unfold encN
          rw [outB_length, if_neg hc0, if_neg hcn, hbit]
        have hl : (encN (outB 2 rest n)).length = (numC n).length + 1 + z := by
          rw [he, List.length_append, List.length_cons, packB_length, numsB_length, Nat.one_mul, ← hz]; omega
        rw [hl, take_front, drop_front, he]
        refine ⟨fun h => ⟨fun _ => ⟨by omega, ?_⟩, ?_⟩, fun h => ?_⟩
        · rw [show (numC n).length + 1 + z - z - 1 = (numC n).length by omega, List.getD_eq_getElem?_getD, List.getElem?_append_right (Nat.le_refl _), Nat.sub_self]; rfl
        · have h1 := List.append_cancel_left h
          simp only [List.cons.injEq, true_and] at h1
          have hsp : spareB (rest.take z) (1 * n) = true := by rw [← hpn, h1]; exact beq_self_eq_true _
          rw [hdk, hun, if_pos hsp]
          simp only [hus]
          rw [if_neg (by omega)]
        · have hsp : ¬ spareB (rest.take z) (1 * n) = true := by
            intro hsp
            rw [← hpn, beq_iff_eq] at hsp
            exact h (by rw [hsp])
          rw [hdk, hun, if_neg hsp]

end Go.Proofs.Ytdelcaijehcaeaa
