import Derived.Test.YtnfjdoeemnhkbaaAgm
set_option linter.unusedVariables false
set_option linter.unusedSimpArgs false
namespace Go.Proofs.Ytnfjdoeemnhkbaa
open Go.RowKit
open _root_.List renaming getElem?_eq_some_iff -> Qa, getElem?_eq_getElem -> Qb, length_take -> Qc, take_add_one -> Qd, getElem?_take_of_lt -> Qf, append_nil -> Qg, append_assoc -> Qh, flatten_append -> Qi
open _root_.Nat renaming add_zero -> Qe, lt_or_ge -> Qj
variable {α β : Type}
def SegK (key : α -> β) (R : List α) (q k : Nat) : Prop := ∀ (j : Nat) (x y : α), q <= j -> j < k -> R[j]? = some x -> R[q]? = some y -> key x = key y
def EndK (key : α -> β) (R : List α) (q : Nat) : Prop := ∀ (x y : α), 0 < q -> R[q - 1]? = some x -> R[q]? = some y -> key x ≠ key y
theorem zDn {R : List α} {q k : Nat} {x : α} (hq : q <= k) (hk : R[k]? = some x) : (R.take (k + 1)).drop q = (R.take k).drop q ++ [x] := by
 rw [Qd, hk, Option.toList_some, List.drop_append_of_le_length]
 rw [Qc]
 have := (Qa.1 hk).1
 omega
theorem zHk {f : β -> β -> Int} (hf : Cmp3 f) {key : α -> β} {R : List α} (hs : R.Pairwise fun x y => f (key x) (key y) <= 0) {Qs : List (List α)} {q : Nat} (hp : Parted f key Qs) (hfl : Qs.flatten = R.take q) (he : EndK key R q) : ∀ (d : Nat), q + 1 + d <= R.length -> SegK key R q (q + 1 + d) -> Parted f key (Qs ++ [(R.take (q + 1 + d)).drop q]) ∧ (Qs ++ [(R.take (q + 1 + d)).drop q]).flatten = R.take (q + 1 + d)
 | 0, hd, hg => by
  obtain ⟨x, hx⟩ : ∃ x, R[q]? = some x := ⟨_, Qb (by omega)⟩
  have e : (R.take (q + 1 + 0)).drop q = [x] := by
   rw [Qe, zDn (Nat.le_refl _) hx, List.drop_eq_nil_of_le (by rw [Qc]; omega)]
   rfl
  rw [e]
  refine ⟨zE5 hf hp (fun y hy => ?_) (fun y hy => ?_) ?_, ?_⟩
  ·rw [hfl] at hy
   obtain ⟨i, hi⟩ := List.getElem?_of_mem hy
   have hil := (Qa.1 hi).1
   rw [Qc] at hil
   rw [Qf (by omega)] at hi
   obtain ⟨h1, e1⟩ := Qa.1 hi
   obtain ⟨h2, e2⟩ := Qa.1 hx
   have := List.pairwise_iff_getElem.1 hs i q h1 h2 (by omega)
   rw [e1, e2] at this
   exact this
  ·rw [hfl, List.getLast?_eq_getElem?, Qc] at hy
   have hq : 0 < q := by
    rcases Nat.eq_zero_or_pos q with h | h
    ·rw [h] at hy; simp at hy
    ·exact h
   rw [Nat.min_eq_left (by omega), Qf (by omega)] at hy
   exact he y x hq hy hx
  ·rw [hfl]
   exact hs.sublist (List.take_sublist ..)
  ·rw [Qi, hfl, Qe, Qd, hx]
   simp
 | d + 1, hd, hg => by
  obtain ⟨h1, h2⟩ := zHk hf hs hp hfl he d (by omega) fun j x y a b => hg j x y a (by omega)
  obtain ⟨x, hx⟩ : ∃ x, R[q + 1 + d]? = some x := ⟨_, Qb (by omega)⟩
  obtain ⟨z, hz⟩ : ∃ z, R[q]? = some z := ⟨_, Qb (by omega)⟩
  have e : (R.take (q + 1 + (d + 1))).drop q = (R.take (q + 1 + d)).drop q ++ [x] := by
   rw [show q + 1 + (d + 1) = q + 1 + d + 1 by omega]
   exact zDn (by omega) hx
  rw [e]
  refine ⟨zGj h1 (z := z) ?_ (hg (q + 1 + d) x z (by omega) (by omega) hx hz).symm, ?_⟩
  ·refine List.mem_of_getElem? (i := 0) ?_
   rw [List.getElem?_drop, Qf (by omega), Qe, hz]
  ·rw [Qi, List.flatten_cons, List.flatten_nil, Qg] at h2 ⊢
   rw [show q + 1 + (d + 1) = q + 1 + d + 1 by omega, Qd (i := q + 1 + d), hx, <- Qh, h2]
   rfl
theorem zJh {f : β -> β -> Int} (hf : Cmp3 f) {key : α -> β} {R : List α} (hs : R.Pairwise fun x y => f (key x) (key y) <= 0) {Qs : List (List α)} {q k : Nat} (hp : Parted f key Qs) (hfl : Qs.flatten = R.take q) (he : EndK key R q) (hqk : q < k) (hk : k <= R.length) (hg : SegK key R q k) :
  Parted f key (Qs ++ [(R.take k).drop q]) ∧ (Qs ++ [(R.take k).drop q]).flatten = R.take k := by
 have h := zHk hf hs hp hfl he (k - (q + 1)) (by omega) (by rw [show q + 1 + (k - (q + 1)) = k by omega]; exact hg)
 rw [show q + 1 + (k - (q + 1)) = k by omega] at h
 exact h
theorem zKp {key : α -> β} {R : List α} {q : Nat} : ∀ (d k : Nat), R.length - k = d -> q < k -> k <= R.length -> SegK key R q k -> ∃ k2, q < k2 ∧ k2 <= R.length ∧ SegK key R q k2 ∧ EndK key R k2
 | 0, k, hd, h1, h2, hg => ⟨k, h1, h2, hg, fun x y _ _ hy => by have := (Qa.1 hy).1; omega⟩
 | d + 1, k, hd, h1, h2, hg => by
  classical
  obtain ⟨x, hx⟩ : ∃ x, R[k]? = some x := ⟨_, Qb (by omega)⟩
  obtain ⟨z, hz⟩ : ∃ z, R[q]? = some z := ⟨_, Qb (by omega)⟩
  by_cases he : key x = key z
  ·refine zKp d (k + 1) (by omega) (by omega) (by omega) fun j a b hj hjk ha hb => ?_
   rcases Qj j k with h | h
   ·exact hg j a b hj h ha hb
   ·obtain rfl : j = k := by omega
    rw [hx] at ha
    rw [hz] at hb
    cases ha
    cases hb
    exact he
  ·refine ⟨k, h1, h2, hg, fun a b _ ha hb hab => ?_⟩
   rw [hx] at hb
   cases hb
   exact he (hab.symm.trans (hg (k - 1) a z (by omega) (by omega) ha hz))
theorem zDu {f : β -> β -> Int} (hf : Cmp3 f) {key : α -> β} {R : List α} (hs : R.Pairwise fun x y => f (key x) (key y) <= 0) : ∀ (d : Nat) {Qs : List (List α)} {q : Nat}, R.length - q <= d -> q <= R.length -> Parted f key Qs -> Qs.flatten = R.take q -> EndK key R q -> ∃ Q2, Parted f key (Qs ++ Q2) ∧ (Qs ++ Q2).flatten = R
 | d, Qs, q, hd, hq, hp, hfl, he => by
  rcases Qj q R.length with hlt | hge
  ·obtain ⟨k, h1, h2, h3, h4⟩ := zKp (key := key) (R := R) (q := q) _ (q + 1) rfl (by omega) (by omega) fun j x y a b hx hy => by
    obtain rfl : j = q := by omega
    rw [hx] at hy
    cases hy
    rfl
   obtain ⟨hp2, hf2⟩ := zJh hf hs hp hfl he h1 h2 h3
   match d, hd with
   | 0, hd => omega
   | d + 1, hd =>
    obtain ⟨Q2, h5, h6⟩ := zDu hf hs d (by omega) h2 hp2 hf2 h4
    exact ⟨(R.take k).drop q :: Q2, by rw [Qh] at h5; exact h5, by rw [Qh] at h6; exact h6⟩
  ·exact ⟨[], by rw [Qg]; exact hp, by rw [Qg, hfl, List.take_of_length_le hge]⟩
end Go.Proofs.Ytnfjdoeemnhkbaa
