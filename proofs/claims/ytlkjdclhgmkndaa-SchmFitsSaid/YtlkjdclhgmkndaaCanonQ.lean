/-
  A region that draws its order: every order leaves the same.
-/
import Derived.Test.YtlkjdclhgmkndaaCanonP
namespace Go.Proofs.Ytlkjdclhgmkndaa.Canon
set_option linter.unusedVariables false
set_option linter.unusedSimpArgs false
open Go.RowKit

/-! Masks and the look at pairs. -/
def em (acc : List Nat) (o : Oper) : Nat :=
  o.after.toList.foldl (fun m e => bif Region.binds .any e then Nat.lor m (Nat.lor (Nat.shiftLeft 1 e.on) (match nth acc e.on with | some x => x | none => 0)) else m) 0

theorem em_bits (acc : List Nat) (k : Nat) : ∀ (l : List Edge) (m : Nat),
    (l.foldl (fun m e => bif Region.binds .any e then Nat.lor m (Nat.lor (Nat.shiftLeft 1 e.on) (match nth acc e.on with | some x => x | none => 0)) else m) m).testBit k = true →
    m.testBit k = true ∨ ∃ e ∈ l, Region.binds .any e = true ∧ (e.on = k ∨ ∃ x, acc[e.on]? = some x ∧ x.testBit k = true)
  | [], m, h => .inl h
  | e :: l, m, h => by
    rw [List.foldl_cons] at h
    rcases em_bits acc k l _ h with h1 | ⟨e', h1, h2⟩
    · cases hb : Region.binds .any e with
      | false => rw [hb, cond_false] at h1; exact .inl h1
      | true =>
        rw [hb, cond_true] at h1
        have h2 : (m ||| ((1 <<< e.on) ||| (match nth acc e.on with | some x => x | none => 0))).testBit k = true := h1
        rw [Nat.testBit_or, Nat.testBit_or, Bool.or_eq_true, Bool.or_eq_true] at h2
        rcases h2 with h2 | h2 | h2
        · exact .inl h2
        · rw [Nat.shiftLeft_eq, Nat.one_mul, Nat.testBit_two_pow] at h2
          exact .inr ⟨e, List.mem_cons_self, hb, .inl (by simpa using h2)⟩
        · rw [nth_eq] at h2
          split at h2
          · rename_i x hx
            exact .inr ⟨e, List.mem_cons_self, hb, .inr ⟨x, hx, h2⟩⟩
          · simp at h2
    · exact .inr ⟨e', List.mem_cons_of_mem _ h1, h2⟩

theorem masks_spec : ∀ (rest : List Oper) (acc : List Nat), (masks rest acc).take acc.length = acc ∧ (masks rest acc).length = acc.length + rest.length ∧
    ∀ j o, rest[j]? = some o → (masks rest acc)[acc.length + j]? = some (em ((masks rest acc).take (acc.length + j)) o)
  | [], acc => ⟨by simp [masks], by simp [masks], fun j o h => by simp at h⟩
  | o :: rest, acc => by
    have e : masks (o :: rest) acc = masks rest (acc ++ [em acc o]) := by rw [← app_eq]; rfl
    obtain ⟨h1, h2, h3⟩ := masks_spec rest (acc ++ [em acc o])
    rw [List.length_append, List.length_singleton] at h1 h2 h3
    rw [e]
    have h4 : (masks rest (acc ++ [em acc o])).take acc.length = acc := by
      have := congrArg (List.take acc.length) h1
      rw [List.take_take, Nat.min_eq_left (by omega)] at this
      rw [this]; simp
    refine ⟨h4, by rw [h2, List.length_cons]; omega, fun j o' hj => ?_⟩
    cases j with
    | zero =>
      simp only [List.getElem?_cons_zero, Option.some.injEq] at hj
      subst hj
      rw [Nat.add_zero, h4]
      have := congrArg (fun l => l[acc.length]?) h1
      simp only [List.getElem?_take] at this
      rw [if_pos (by omega)] at this
      rw [this]; simp
    | succ j =>
      have := h3 j o' (by simpa using hj)
      rw [show acc.length + (j + 1) = acc.length + 1 + j by omega]
      exact this

theorem mask_bits {ops : List Oper} {i : Nat} {o : Oper} (hi : ops[i]? = some o) {k : Nat} (h : ((masks ops []).getD i 0).testBit k = true) :
    ∃ e ∈ o.after.toList, Region.binds .any e = true ∧ (e.on = k ∨ ((masks ops []).getD e.on 0).testBit k = true) := by
  obtain ⟨_, _, h3⟩ := masks_spec ops []
  have h4 := h3 i o hi
  rw [List.length_nil, Nat.zero_add] at h4
  rw [List.getD, h4] at h
  simp only [Option.getD_some] at h
  rcases em_bits _ k _ _ h with h5 | ⟨e, h5, h6, h7⟩
  · simp at h5
  · refine ⟨e, h5, h6, h7.imp id fun ⟨x, h8, h9⟩ => ?_⟩
    rw [List.getElem?_take] at h8
    split at h8
    · rw [List.getD, h8]; exact h9
    · cases h8

theorem pairOK_spec {ops : Array Oper} {oj : Oper} {m : Nat} : ∀ (l : List Oper) (i : Nat), pairOK ops oj m l i = true → ∀ k o, l[k]? = some o → m.testBit (i + k) = true ∨ Oper.apart ops o oj = true
  | [], i, h, k, o, hk => by simp at hk
  | x :: l, i, h, k, o, hk => by
    unfold pairOK at h
    have next : pairOK ops oj m l (i + 1) = true → ∀ k', l[k']? = some o → m.testBit (i + (k' + 1)) = true ∨ Oper.apart ops o oj = true := fun hp k' hk' => by
      have := pairOK_spec l (i + 1) hp k' o hk'
      rwa [show i + 1 + k' = i + (k' + 1) by omega] at this
    cases hb : m.testBit i with
    | true =>
      rw [hb, cond_true] at h
      cases k with
      | zero => exact .inl (by rw [Nat.add_zero]; exact hb)
      | succ k => exact next h k (by simpa using hk)
    | false =>
      rw [hb, cond_false] at h
      cases ha : Oper.apart ops x oj with
      | false => rw [ha] at h; cases h
      | true =>
        rw [ha, cond_true] at h
        cases k with
        | zero => simp only [List.getElem?_cons_zero, Option.some.injEq] at hk; subst hk; exact .inr ha
        | succ k => exact next h k (by simpa using hk)

theorem edgesOK_spec {j : Nat} : ∀ (l : List Edge), edgesOK j l = true → ∀ e ∈ l, Region.binds .any e = true → e.on < j
  | [], h, e, he, _ => by cases he
  | x :: l, h, e, he, hb => by
    unfold edgesOK at h
    rcases List.mem_cons.1 he with rfl | he
    · rw [hb, cond_true] at h
      cases hl : Nat.blt e.on j with
      | false => rw [hl] at h; cases h
      | true => rwa [Nat.blt_eq] at hl
    · cases hx : Region.binds .any x with
      | false => rw [hx, cond_false] at h; exact edgesOK_spec l h e he hb
      | true =>
        rw [hx, cond_true] at h
        cases hl : Nat.blt x.on j with
        | false => rw [hl] at h; cases h
        | true => rw [hl, cond_true] at h; exact edgesOK_spec l h e he hb

theorem drawnOK_spec {ops : Array Oper} {M : List Nat} : ∀ (rest : List Oper) (j : Nat), (∀ k, rest[k]? = ops.toList[j + k]?) → j ≤ ops.toList.length → drawnOK ops (ops.toList.take j) rest (M.drop j) j = true →
    ∀ k, j ≤ k → ∀ o, ops.toList[k]? = some o → (∀ e ∈ o.after.toList, Region.binds .any e = true → e.on < k) ∧ ∀ i oi, i < k → ops.toList[i]? = some oi → (M.getD k 0).testBit i = true ∨ Oper.apart ops oi o = true
  | [], j, hj, hle, h, k, hk, o, ho => by
    have := hj (k - j)
    rw [show j + (k - j) = k by omega, ho] at this
    simp at this
  | oj :: rest, j, hj, hle, h, k, hk, o, ho => by
    unfold drawnOK at h
    cases he : edgesOK j oj.after.toList with
    | false => rw [he] at h; cases h
    | true =>
      rw [he, cond_true] at h
      cases hp : pairOK ops oj (headN (M.drop j)) (ops.toList.take j) 0 with
      | false => rw [hp] at h; cases h
      | true =>
        rw [hp, cond_true] at h
        have h0 : ops.toList[j]? = some oj := by have := hj 0; simpa using this.symm
        have hlt : j < ops.toList.length := (List.getElem?_eq_some_iff.1 h0).1
        rcases Nat.lt_or_ge j k with h1 | h1
        · refine drawnOK_spec rest (j + 1) (fun q => ?_) hlt ?_ k h1 o ho
          · have := hj (q + 1)
            rw [List.getElem?_cons_succ] at this
            rw [this]; congr 1; omega
          · rw [tailN_drop, app_eq] at h
            have e : ops.toList.take (j + 1) = ops.toList.take j ++ [oj] := by
              rw [List.take_add_one, h0]; rfl
            rw [e]; exact h
        · obtain rfl : k = j := by omega
          rw [h0] at ho
          simp only [Option.some.injEq] at ho
          subst ho
          refine ⟨edgesOK_spec _ he, fun i oi hi hoi => ?_⟩
          have := pairOK_spec _ _ hp i oi (by rw [List.getElem?_take, if_pos hi]; exact hoi)
          rwa [headN_drop, Nat.zero_add] at this
end Go.Proofs.Ytlkjdclhgmkndaa.Canon
