/-
  Plain: lists put together; two that change places; sorted in blocks
-/
import Derived.Test.YtnfjdoeemnhkbaaSymm
namespace Go.Proofs.Ytnfjdoeemnhkbaa.Sy
set_option linter.unusedVariables false
variable {α : Type}

/-- What stands at a place of a list put together. -/
theorem at_mid (A : List α) (x : α) (B : List α) {k : Nat} (h : k = A.length) : (A ++ x :: B)[k]? = some x := by
  subst h
  rw [List.getElem?_append_right (Nat.le_refl _), Nat.sub_self]
  rfl
theorem split_at {l : List α} {k : Nat} (h : k < l.length) : ∃ A x B, l = A ++ x :: B ∧ A.length = k :=
  ⟨l.take k, l[k], l.drop (k + 1), by rw [← List.drop_eq_getElem_cons h, List.take_append_drop], by rw [List.length_take]; omega⟩
theorem split_le {l : List α} {k : Nat} (h : k ≤ l.length) : ∃ A B, l = A ++ B ∧ A.length = k :=
  ⟨l.take k, l.drop k, (List.take_append_drop ..).symm, by rw [List.length_take]; omega⟩
/-- Two that change places. -/
theorem swap_mid (A M B : List α) (x y : α) {i j : Nat} (hi : i = A.length) (hj : j = A.length + M.length + 1) : ((A ++ x :: (M ++ y :: B)).set i y).set j x = A ++ y :: (M ++ x :: B) := by
  subst hi hj
  rw [List.set_append_right _ _ (Nat.le_refl _), Nat.sub_self, List.set_cons_zero, List.set_append_right _ _ (by omega), show A.length + M.length + 1 - A.length = M.length + 1 by omega, List.set_cons_succ, List.set_append_right _ _ (Nat.le_refl _), Nat.sub_self, List.set_cons_zero]
theorem swap_mid2 (A M B : List α) (x y : α) {i j : Nat} (hi : i = A.length) (hj : j = A.length + M.length + 1) : ((A ++ x :: (M ++ y :: B)).set j x).set i y = A ++ y :: (M ++ x :: B) := by
  rw [List.set_comm _ _ (by omega)]
  exact swap_mid A M B x y hi hj
theorem swap_perm (A M B : List α) (x y : α) : (A ++ y :: (M ++ x :: B)).Perm (A ++ x :: (M ++ y :: B)) := by
  refine List.Perm.append_left A ?_
  refine (List.perm_middle (l₁ := y :: M)).trans ?_
  refine List.Perm.cons x ?_
  exact (List.perm_middle (l₁ := M)).symm
/-- Of sorted ones: all that stand ahead of one that is ahead of x are ahead of x. -/
theorem srt_lo {lt : α → α → Bool} (o : Ord lt) {A B : List α} {y x : α} (h : Srt lt (A ++ y :: B)) (hy : lt y x = true) : ∀ z ∈ A ++ [y], lt z x = true := by
  intro z hz
  cases hc : lt z x with
  | true => rfl
  | false =>
    rcases List.mem_append.1 hz with hz | hz
    · have h1 := (srt_append.1 h).2.2 z hz y (List.mem_cons_self ..)
      have := o.trans x z y hc h1
      rw [hy] at this
      cases this
    · rw [List.mem_singleton.1 hz, hy] at hc
      cases hc
/-- Of sorted ones: none that stands behind one that is not ahead of x is. -/
theorem srt_hi {lt : α → α → Bool} (o : Ord lt) {A B : List α} {y x : α} (h : Srt lt (A ++ y :: B)) (hy : lt y x = false) : ∀ z ∈ y :: B, lt z x = false := by
  intro z hz
  rcases List.mem_cons.1 hz with rfl | hz
  · exact hy
  · exact o.trans x y z hy ((List.pairwise_cons.1 (srt_append.1 h).2.1).1 z hz)
/-- Of sorted ones: x is not ahead of those that stand ahead of one that it is not ahead of. -/
theorem srt_lo2 {lt : α → α → Bool} (o : Ord lt) {A B : List α} {y x : α} (h : Srt lt (A ++ y :: B)) (hy : lt x y = false) : ∀ z ∈ A ++ [y], lt x z = false := by
  intro z hz
  rcases List.mem_append.1 hz with hz | hz
  · exact o.trans z y x ((srt_append.1 h).2.2 z hz y (List.mem_cons_self ..)) hy
  · rw [List.mem_singleton.1 hz]; exact hy
theorem srt_hi2 {lt : α → α → Bool} (o : Ord lt) {A B : List α} {y x : α} (h : Srt lt (A ++ y :: B)) (hy : lt x y = true) : ∀ z ∈ y :: B, lt x z = true := by
  intro z hz
  cases hc : lt x z with
  | true => rfl
  | false =>
    rcases List.mem_cons.1 hz with rfl | hz
    · rw [hy] at hc; cases hc
    · have := o.trans y z x ((List.pairwise_cons.1 (srt_append.1 h).2.1).1 z hz) hc
      rw [hy] at this
      cases this
/-- Sorted in blocks of s. -/
def SrtB (lt : α → α → Bool) (s : Nat) (l : List α) : Prop := ∀ k, Srt lt ((l.drop (k * s)).take s)
theorem srtB_one {lt : α → α → Bool} {s : Nat} {l : List α} (h : SrtB lt s l) (hl : l.length ≤ s) : Srt lt l := by
  have := h 0
  rw [Nat.zero_mul, List.drop_zero, List.take_of_length_le hl] at this
  exact this
theorem srtB_nil (lt : α → α → Bool) (s : Nat) : SrtB lt s [] := fun k => by simp [Srt]
theorem srtB_append {lt : α → α → Bool} {s k : Nat} {D T : List α} (hD : D.length = k * s) (h1 : SrtB lt s D) (h2 : SrtB lt s T) : SrtB lt s (D ++ T) := fun q => by
  by_cases hq : q < k
  · have h3 : q * s + s ≤ D.length := by rw [hD]; have := Nat.mul_le_mul_right s (show q + 1 ≤ k by omega); rw [Nat.succ_mul] at this; exact this
    have := h1 q
    rw [List.drop_append_of_le_length (by omega), List.take_append_of_le_length (by rw [List.length_drop]; omega)]
    exact this
  · have h3 : k * s ≤ q * s := Nat.mul_le_mul_right s (by omega)
    have := h2 (q - k)
    rw [List.drop_append, List.drop_eq_nil_of_le (by omega), List.nil_append, hD, ← Nat.sub_mul]
    exact this
theorem srtB_tail {lt : α → α → Bool} {s : Nat} {C T : List α} (hC : C.length = s) (h : SrtB lt s (C ++ T)) : Srt lt C ∧ SrtB lt s T := by
  refine ⟨?_, fun k => ?_⟩
  · have := h 0
    rw [Nat.zero_mul, List.drop_zero, ← hC, List.take_left] at this
    exact this
  · have := h (k + 1)
    rw [show (k + 1) * s = C.length + k * s by rw [hC, Nat.succ_mul]; omega, ← List.drop_drop, List.drop_left] at this
    exact this
theorem srtB_of {lt : α → α → Bool} {s : Nat} {l : List α} (h : Srt lt l) (hl : l.length ≤ s) : SrtB lt s l := fun k => by
  cases k with
  | zero => rw [Nat.zero_mul, List.drop_zero, List.take_of_length_le hl]; exact h
  | succ k =>
    rw [List.drop_eq_nil_of_le (by rw [Nat.succ_mul]; omega)]
    simp [Srt]
/-- One swap of a swap of ranges. -/
theorem range_step (A Y1 X2 M X1 Y2 B : List α) (x y : α) {i j : Nat} (hi : i = A.length + Y1.length) (hj : j = A.length + Y1.length + 1 + X2.length + M.length + X1.length) :
    ((A ++ (Y1 ++ (x :: X2 ++ (M ++ (X1 ++ (y :: Y2 ++ B)))))).set i y).set j x = A ++ ((Y1 ++ [y]) ++ (X2 ++ (M ++ ((X1 ++ [x]) ++ (Y2 ++ B))))) := by
  have h := swap_mid (A ++ Y1) (X2 ++ (M ++ X1)) (Y2 ++ B) x y (i := i) (j := j) (by rw [List.length_append]; exact hi) (by simp only [List.length_append]; omega)
  simp only [List.append_assoc, List.cons_append, List.nil_append] at h ⊢
  exact h
theorem perm_range (A X M Y B : List α) : (A ++ (Y ++ (M ++ (X ++ B)))).Perm (A ++ (X ++ (M ++ (Y ++ B)))) := by
  refine List.Perm.append_left A ?_
  have h : (Y ++ (M ++ X)).Perm (X ++ (M ++ Y)) := List.perm_append_comm.trans ((List.perm_append_comm.append_right Y).trans (by rw [List.append_assoc]))
  have h2 := h.append_right B
  simp only [List.append_assoc] at h2
  exact h2
/-- Where symMerge's search ends: the four parts. -/
theorem sm_facts {lt : α → α → Bool} {A X Y R L : List α} {a m b N s lo hi mid : Nat} (hL : L = A ++ (X ++ (Y ++ R))) (ha : a = A.length) (hm : m = a + X.length) (hb : b = m + Y.length) (hmid : mid = (a + b) / 2) (hN : N = mid + m)
    (hlh : m ≤ mid ∧ lo = a ∧ hi = m ∨ mid < m ∧ lo + b = N ∧ hi = mid) (h1 : lo ≤ s) (h2 : s ≤ hi)
    (hl : s = lo ∨ ∃ u v, L[s - 1]? = some u ∧ L[N - s]? = some v ∧ lt v u = false) (hr : s = hi ∨ ∃ u v, L[s]? = some u ∧ L[N - 1 - s]? = some v ∧ lt v u = true) (hX : 0 < X.length) (hY : 0 < Y.length) :
    ∃ X1 X2 Y1 Y2 : List α, X = X1 ++ X2 ∧ Y = Y1 ++ Y2 ∧ a + X1.length = s ∧ m + Y1.length + s = N ∧ (∀ x y, Y1.getLast? = some x → X2.head? = some y → lt x y = true) ∧ (∀ x y, X1.getLast? = some x → Y2.head? = some y → lt y x = false) := by
  have lx : ∀ i, a ≤ i → i < m → L[i]? = X[i - a]? := fun i h3 h4 => by
    rw [hL, List.getElem?_append_right (by omega), List.getElem?_append_left (by omega), ← ha]
  have ly : ∀ i, m ≤ i → i < b → L[i]? = Y[i - m]? := fun i h3 h4 => by
    rw [hL, List.getElem?_append_right (by omega), List.getElem?_append_right (by omega), List.getElem?_append_left (by omega)]
    congr 1
    omega
  have hsa : a ≤ s := by omega
  have hsm : s ≤ m := by omega
  have hem : m + s ≤ N := by omega
  have heb : N ≤ b + s := by omega
  refine ⟨X.take (s - a), X.drop (s - a), Y.take (N - s - m), Y.drop (N - s - m), (List.take_append_drop ..).symm, (List.take_append_drop ..).symm, by rw [List.length_take]; omega, by rw [List.length_take]; omega, fun x y hx hy => ?_, fun x y hx hy => ?_⟩
  · rw [List.getLast?_take] at hx
    rw [List.head?_drop] at hy
    by_cases h0 : N - s - m = 0
    · rw [if_pos h0] at hx; cases hx
    · rw [if_neg h0] at hx
      have hyl := (List.getElem?_eq_some_iff.1 hy).1
      have hxl : Y[N - s - m - 1]? = some x := by
        rw [List.getElem?_eq_getElem (by omega)] at hx ⊢
        exact hx
      rcases hr with hr | ⟨u, v, h5, h6, h7⟩
      · omega
      · rw [lx s hsa (by omega), hy] at h5
        rw [ly (N - 1 - s) (by omega) (by omega), show N - 1 - s - m = N - s - m - 1 by omega, hxl] at h6
        cases h5
        cases h6
        exact h7
  · rw [List.getLast?_take] at hx
    rw [List.head?_drop] at hy
    by_cases h0 : s - a = 0
    · rw [if_pos h0] at hx; cases hx
    · rw [if_neg h0] at hx
      have hyl := (List.getElem?_eq_some_iff.1 hy).1
      have hxl : X[s - a - 1]? = some x := by
        rw [List.getElem?_eq_getElem (by omega)] at hx ⊢
        exact hx
      rcases hl with hl | ⟨u, v, h5, h6, h7⟩
      · omega
      · rw [lx (s - 1) (by omega) (by omega), show s - 1 - a = s - a - 1 by omega, hxl] at h5
        rw [ly (N - s) (by omega) (by omega), hy] at h6
        cases h5
        cases h6
        exact h7
end Go.Proofs.Ytnfjdoeemnhkbaa.Sy
