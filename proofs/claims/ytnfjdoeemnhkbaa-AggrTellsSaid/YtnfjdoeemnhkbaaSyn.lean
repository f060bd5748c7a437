import Derived.Test.YtnfjdoeemnhkbaaSymm
set_option linter.unusedVariables false
namespace Go.Proofs.Ytnfjdoeemnhkbaa.Sy
open _root_.List renaming getElem?_append_right -> Qa, take_append_drop -> Qb, length_take -> Qc, set_append_right -> Qf, drop_zero -> Qh, set_cons_zero -> Qj, mem_append -> Qk, mem_cons_self -> Ql, mem_singleton -> Qm, mem_cons -> Qn, pairwise_cons -> Qo, take_of_length_le -> Qp, drop_eq_nil_of_le -> Qr, nil_append -> Qt, length_append -> Qu, getElem?_append_left -> Qv, getLast?_take -> Qw, head?_drop -> Qx, getElem?_eq_some_iff -> Qy, getElem?_eq_getElem -> Qz
open _root_.Nat renaming le_refl -> Qd, sub_self -> Qe, zero_mul -> Qg, succ_mul -> Qi, mul_le_mul_right -> Qq
variable {α : Type}
theorem zB9 (A : List α) (x : α) (B : List α) {k : Nat} (h : k = A.length) : (A ++ x :: B)[k]? = some x := by
 subst h
 rw [Qa (Qd _), Qe]
 rfl
theorem zI7 {l : List α} {k : Nat} (h : k < l.length) : ∃ A x B, l = A ++ x :: B ∧ A.length = k :=
 ⟨l.take k, l[k], l.drop (k + 1), by rw [<- List.drop_eq_getElem_cons h, Qb], by rw [Qc]; omega⟩
theorem zDl {l : List α} {k : Nat} (h : k <= l.length) : ∃ A B, l = A ++ B ∧ A.length = k :=
 ⟨l.take k, l.drop k, (Qb ..).symm, by rw [Qc]; omega⟩
theorem zG0 (A M B : List α) (x y : α) {i j : Nat} (hi : i = A.length) (hj : j = A.length + M.length + 1) : ((A ++ x :: (M ++ y :: B)).set i y).set j x = A ++ y :: (M ++ x :: B) := by
 subst hi hj
 rw [Qf _ _ (Qd _), Qe, Qj, Qf _ _ (by omega), show A.length + M.length + 1 - A.length = M.length + 1 by omega, List.set_cons_succ, Qf _ _ (Qd _), Qe, Qj]
theorem zH7 (A M B : List α) (x y : α) {i j : Nat} (hi : i = A.length) (hj : j = A.length + M.length + 1) : ((A ++ x :: (M ++ y :: B)).set j x).set i y = A ++ y :: (M ++ x :: B) := by
 rw [List.set_comm _ _ (by omega)]
 exact zG0 A M B x y hi hj
theorem zPo {lt : α -> α -> Bool} (o : Ord lt) {A B : List α} {y x : α} (h : Srt lt (A ++ y :: B)) (hy : lt y x = true) : ∀ z ∈ A ++ [y], lt z x = true := by
 intro z hz
 cases hc : lt z x with
 | true => rfl
 | false =>
  rcases Qk.1 hz with hz | hz
  ·have h1 := (zAy.1 h).2.2 z hz y (Ql ..)
   have := o.trans x z y hc h1
   rw [hy] at this
   cases this
  ·rw [Qm.1 hz, hy] at hc
   cases hc
theorem zPp {lt : α -> α -> Bool} (o : Ord lt) {A B : List α} {y x : α} (h : Srt lt (A ++ y :: B)) (hy : lt y x = false) : ∀ z ∈ y :: B, lt z x = false := by
 intro z hz
 rcases Qn.1 hz with rfl | hz
 ·exact hy
 ·exact o.trans x y z hy ((Qo.1 (zAy.1 h).2.1).1 z hz)
theorem zHy {lt : α -> α -> Bool} (o : Ord lt) {A B : List α} {y x : α} (h : Srt lt (A ++ y :: B)) (hy : lt x y = false) : ∀ z ∈ A ++ [y], lt x z = false := by
 intro z hz
 rcases Qk.1 hz with hz | hz
 ·exact o.trans z y x ((zAy.1 h).2.2 z hz y (Ql ..)) hy
 ·rw [Qm.1 hz]; exact hy
theorem zOw {lt : α -> α -> Bool} (o : Ord lt) {A B : List α} {y x : α} (h : Srt lt (A ++ y :: B)) (hy : lt x y = true) : ∀ z ∈ y :: B, lt x z = true := by
 intro z hz
 cases hc : lt x z with
 | true => rfl
 | false =>
  rcases Qn.1 hz with rfl | hz
  ·rw [hy] at hc; cases hc
  ·have := o.trans y z x ((Qo.1 (zAy.1 h).2.1).1 z hz) hc
   rw [hy] at this
   cases this
def SrtB (lt : α -> α -> Bool) (s : Nat) (l : List α) : Prop := ∀ k, Srt lt ((l.drop (k * s)).take s)
theorem zG1 {lt : α -> α -> Bool} {s : Nat} {l : List α} (h : SrtB lt s l) (hl : l.length <= s) : Srt lt l := by
 have := h 0
 rw [Qg, Qh, Qp hl] at this
 exact this
theorem zI8 (lt : α -> α -> Bool) (s : Nat) : SrtB lt s [] := fun k => by simp [Srt]
theorem zCv {lt : α -> α -> Bool} {s k : Nat} {D T : List α} (hD : D.length = k * s) (h1 : SrtB lt s D) (h2 : SrtB lt s T) : SrtB lt s (D ++ T) := fun q => by
 by_cases hq : q < k
 ·have h3 : q * s + s <= D.length := by rw [hD]; have := Qq s (show q + 1 <= k by omega); rw [Qi] at this; exact this
  have := h1 q
  rw [List.drop_append_of_le_length (by omega), List.take_append_of_le_length (by rw [List.length_drop]; omega)]
  exact this
 ·have h3 : k * s <= q * s := Qq s (by omega)
  have := h2 (q - k)
  rw [List.drop_append, Qr (by omega), Qt, hD, <- Nat.sub_mul]
  exact this
theorem zFu {lt : α -> α -> Bool} {s : Nat} {C T : List α} (hC : C.length = s) (h : SrtB lt s (C ++ T)) : Srt lt C ∧ SrtB lt s T := by
 refine ⟨?_, fun k => ?_⟩
 ·have := h 0
  rw [Qg, Qh, <- hC, List.take_left] at this
  exact this
 ·have := h (k + 1)
  rw [show (k + 1) * s = C.length + k * s by rw [hC, Qi]; omega, <- List.drop_drop, List.drop_left] at this
  exact this
theorem zEu {lt : α -> α -> Bool} {s : Nat} {l : List α} (h : Srt lt l) (hl : l.length <= s) : SrtB lt s l := fun k => by
 cases k with
 | zero => rw [Qg, Qh, Qp hl]; exact h
 | succ k =>
  rw [Qr (by rw [Qi]; omega)]
  simp [Srt]
theorem zLb (A Y1 X2 M X1 Y2 B : List α) (x y : α) {i j : Nat} (hi : i = A.length + Y1.length) (hj : j = A.length + Y1.length + 1 + X2.length + M.length + X1.length) :
  ((A ++ (Y1 ++ (x :: X2 ++ (M ++ (X1 ++ (y :: Y2 ++ B)))))).set i y).set j x = A ++ ((Y1 ++ [y]) ++ (X2 ++ (M ++ ((X1 ++ [x]) ++ (Y2 ++ B))))) := by
 have h := zG0 (A ++ Y1) (X2 ++ (M ++ X1)) (Y2 ++ B) x y (i := i) (j := j) (by rw [Qu]; exact hi) (by simp only [Qu]; omega)
 simp only [List.append_assoc, List.cons_append, Qt] at h ⊢
 exact h
theorem zNq {lt : α -> α -> Bool} {A X Y R L : List α} {a m b N s lo hi mid : Nat} (hL : L = A ++ (X ++ (Y ++ R))) (ha : a = A.length) (hm : m = a + X.length) (hb : b = m + Y.length) (hmid : mid = (a + b) / 2) (hN : N = mid + m)
  (hlh : m <= mid ∧ lo = a ∧ hi = m ∨ mid < m ∧ lo + b = N ∧ hi = mid) (h1 : lo <= s) (h2 : s <= hi)
  (hl : s = lo ∨ ∃ u v, L[s - 1]? = some u ∧ L[N - s]? = some v ∧ lt v u = false) (hr : s = hi ∨ ∃ u v, L[s]? = some u ∧ L[N - 1 - s]? = some v ∧ lt v u = true) (hX : 0 < X.length) (hY : 0 < Y.length) :
  ∃ X1 X2 Y1 Y2 : List α, X = X1 ++ X2 ∧ Y = Y1 ++ Y2 ∧ a + X1.length = s ∧ m + Y1.length + s = N ∧ (∀ x y, Y1.getLast? = some x -> X2.head? = some y -> lt x y = true) ∧ (∀ x y, X1.getLast? = some x -> Y2.head? = some y -> lt y x = false) := by
 have lx : ∀ i, a <= i -> i < m -> L[i]? = X[i - a]? := fun i h3 h4 => by
  rw [hL, Qa (by omega), Qv (by omega), <- ha]
 have ly : ∀ i, m <= i -> i < b -> L[i]? = Y[i - m]? := fun i h3 h4 => by
  rw [hL, Qa (by omega), Qa (by omega), Qv (by omega)]
  congr 1
  omega
 have hsa : a <= s := by omega
 have hsm : s <= m := by omega
 have hem : m + s <= N := by omega
 have heb : N <= b + s := by omega
 refine ⟨X.take (s - a), X.drop (s - a), Y.take (N - s - m), Y.drop (N - s - m), (Qb ..).symm, (Qb ..).symm, by rw [Qc]; omega, by rw [Qc]; omega, fun x y hx hy => ?_, fun x y hx hy => ?_⟩
 ·rw [Qw] at hx
  rw [Qx] at hy
  by_cases h0 : N - s - m = 0
  ·rw [if_pos h0] at hx; cases hx
  ·rw [if_neg h0] at hx
   have hyl := (Qy.1 hy).1
   have hxl : Y[N - s - m - 1]? = some x := by
    rw [Qz (by omega)] at hx ⊢
    exact hx
   rcases hr with hr | ⟨u, v, h5, h6, h7⟩
   ·omega
   ·rw [lx s hsa (by omega), hy] at h5
    rw [ly (N - 1 - s) (by omega) (by omega), show N - 1 - s - m = N - s - m - 1 by omega, hxl] at h6
    cases h5
    cases h6
    exact h7
 ·rw [Qw] at hx
  rw [Qx] at hy
  by_cases h0 : s - a = 0
  ·rw [if_pos h0] at hx; cases hx
  ·rw [if_neg h0] at hx
   have hyl := (Qy.1 hy).1
   have hxl : X[s - a - 1]? = some x := by
    rw [Qz (by omega)] at hx ⊢
    exact hx
   rcases hl with hl | ⟨u, v, h5, h6, h7⟩
   ·omega
   ·rw [lx (s - 1) (by omega) (by omega), show s - 1 - a = s - a - 1 by omega, hxl] at h5
    rw [ly (N - s) (by omega) (by omega), hy] at h6
    cases h5
    cases h6
    exact h7
end Go.Proofs.Ytnfjdoeemnhkbaa.Sy
