set_option linter.unusedVariables false
namespace Go.Proofs.Ytnfjdoeemnhkbaa.Sy
open _root_.List renaming append_assoc -> Qa, getElem?_eq_some_iff -> Qb, getElem?_of_mem -> Qc, mem_append -> Qd, getLast?_eq_none_iff -> Qe, head?_eq_none_iff -> Qf, pairwise_cons -> Qg, mem_cons -> Qh
variable {α : Type}
def Srt (lt : α -> α -> Bool) (l : List α) : Prop := l.Pairwise fun x y => lt y x = false
structure Ord (lt : α -> α -> Bool) : Prop where
 asym : ∀ x y, lt x y = true -> lt y x = false
 trans : ∀ x y z, lt y x = false -> lt z y = false -> lt z x = false
theorem zAy {lt : α -> α -> Bool} {a b : List α} : Srt lt (a ++ b) ↔ Srt lt a ∧ Srt lt b ∧ ∀ x ∈ a, ∀ y ∈ b, lt y x = false := by
 unfold Srt
 rw [List.pairwise_append]
theorem zHx {lt : α -> α -> Bool} {a b a' b' : List α} (ha : a'.Perm a) (hb : b'.Perm b) (h : ∀ x ∈ a, ∀ y ∈ b, lt y x = false) : ∀ x ∈ a', ∀ y ∈ b', lt y x = false :=
 fun x hx y hy => h x (ha.mem_iff.1 hx) y (hb.mem_iff.1 hy)
theorem zMh {lt : α -> α -> Bool} (o : Ord lt) {l : List α} (h : Srt lt l) {i j : Nat} {x y : α} (hx : l[i]? = some x) (hy : l[j]? = some y) (hij : i <= j) (hr : lt x x = false) : lt y x = false := by
 rcases Nat.lt_or_ge i j with h1 | h1
 ·obtain ⟨hi, rfl⟩ := Qb.1 hx
  obtain ⟨hj, rfl⟩ := Qb.1 hy
  exact List.pairwise_iff_getElem.1 h i j hi hj h1
 ·obtain rfl : i = j := by omega
  rw [hx] at hy
  cases hy
  exact hr
theorem Ord.irr {lt : α -> α -> Bool} (o : Ord lt) (x : α) : lt x x = false := by
 cases h : lt x x with
 | false => rfl
 | true => have := o.asym x x h; rw [h] at this; cases this
theorem Ord.lt_le {lt : α -> α -> Bool} (o : Ord lt) {x y : α} (h : lt x y = true) : lt y x = false := o.asym x y h
theorem zMi {lt : α -> α -> Bool} (o : Ord lt) {a1 a2 b1 b2 : List α} (hl : Srt lt (a1 ++ a2)) (hr : Srt lt (b1 ++ b2))
  (h1 : ∀ x y, b1.getLast? = some x -> a2.head? = some y -> lt x y = true) (h2 : ∀ x y, a1.getLast? = some x -> b2.head? = some y -> lt y x = false) :
  ∀ x ∈ a1 ++ b1, ∀ y ∈ a2 ++ b2, lt y x = false := by
 have hla := zAy.1 hl
 have hra := zAy.1 hr
 have last_le : ∀ (l : List α) (x z : α), Srt lt l -> l.getLast? = some z -> x ∈ l -> lt z x = false := by
  intro l x z hs hz hx
  obtain ⟨i, hi⟩ := Qc hx
  have hil : i < l.length := (Qb.1 hi).1
  have hzl : l[l.length - 1]? = some z := by rw [<- List.getLast?_eq_getElem?]; exact hz
  exact zMh o hs hi hzl (by omega) (o.irr x)
 have head_le : ∀ (l : List α) (x z : α), Srt lt l -> l.head? = some z -> x ∈ l -> lt x z = false := by
  intro l x z hs hz hx
  obtain ⟨i, hi⟩ := Qc hx
  have hzl : l[0]? = some z := by rw [<- List.head?_eq_getElem?]; exact hz
  exact zMh o hs hzl hi (by omega) (o.irr z)
 intro x hx y hy
 rcases Qd.1 hx with hx | hx <;> rcases Qd.1 hy with hy | hy
 ·exact hla.2.2 x hx y hy
 ·-- a1, b2
  obtain ⟨z, hz⟩ : ∃ z, a1.getLast? = some z := by
   cases ha : a1.getLast? with
   | none => rw [Qe] at ha; rw [ha] at hx; cases hx
   | some z => exact ⟨z, rfl⟩
  obtain ⟨u, hu⟩ : ∃ u, b2.head? = some u := by
   cases ha : b2.head? with
   | none => rw [Qf] at ha; rw [ha] at hy; cases hy
   | some z => exact ⟨z, rfl⟩
  exact o.trans x z y (last_le a1 x z hla.1 hz hx) (o.trans z u y (h2 z u hz hu) (head_le b2 y u hra.2.1 hu hy))
 ·-- b1, a2
  obtain ⟨z, hz⟩ : ∃ z, b1.getLast? = some z := by
   cases ha : b1.getLast? with
   | none => rw [Qe] at ha; rw [ha] at hx; cases hx
   | some z => exact ⟨z, rfl⟩
  obtain ⟨u, hu⟩ : ∃ u, a2.head? = some u := by
   cases ha : a2.head? with
   | none => rw [Qf] at ha; rw [ha] at hy; cases hy
   | some z => exact ⟨z, rfl⟩
  exact o.trans x z y (last_le b1 x z hra.1 hz hx) (o.trans z u y (o.lt_le (h1 z u hz hu)) (head_le a2 y u hla.2.1 hu hy))
 ·exact hra.2.2 x hx y hy
theorem zNo {lt : α -> α -> Bool} (o : Ord lt) {a1 a2 b1 b2 m1 m2 : List α} (hl : Srt lt (a1 ++ a2)) (hr : Srt lt (b1 ++ b2))
  (h1 : ∀ x y, b1.getLast? = some x -> a2.head? = some y -> lt x y = true) (h2 : ∀ x y, a1.getLast? = some x -> b2.head? = some y -> lt y x = false)
  (p1 : m1.Perm (a1 ++ b1)) (p2 : m2.Perm (a2 ++ b2)) (s1 : Srt lt m1) (s2 : Srt lt m2) : Srt lt (m1 ++ m2) ∧ (m1 ++ m2).Perm ((a1 ++ a2) ++ (b1 ++ b2)) := by
 refine ⟨zAy.2 ⟨s1, s2, zHx p1 p2 (zMi o hl hr h1 h2)⟩, (p1.append p2).trans ?_⟩
 rw [Qa, Qa]
 refine List.Perm.append_left a1 ?_
 rw [<- Qa, <- Qa]
 exact (List.perm_append_comm).append_right b2
theorem zNp {lt : α -> α -> Bool} (o : Ord lt) {x : α} {r1 r2 : List α} (hr : Srt lt (r1 ++ r2)) (h1 : ∀ y ∈ r1, lt y x = true) (h2 : ∀ y ∈ r2, lt y x = false) : Srt lt (r1 ++ x :: r2) := by
 have h := zAy.1 hr
 refine zAy.2 ⟨h.1, Qg.2 ⟨h2, h.2.1⟩, fun a ha y hy => ?_⟩
 rcases Qh.1 hy with rfl | hy
 ·exact o.lt_le (h1 a ha)
 ·exact h.2.2 a ha y hy
theorem zDw {lt : α -> α -> Bool} (o : Ord lt) {x : α} {l1 l2 : List α} (hl : Srt lt (l1 ++ l2)) (h1 : ∀ y ∈ l1, lt x y = false) (h2 : ∀ y ∈ l2, lt x y = true) : Srt lt (l1 ++ x :: l2) := by
 have h := zAy.1 hl
 refine zAy.2 ⟨h.1, Qg.2 ⟨fun y hy => o.lt_le (h2 y hy), h.2.1⟩, fun a ha y hy => ?_⟩
 rcases Qh.1 hy with rfl | hy
 ·exact h1 a ha
 ·exact h.2.2 a ha y hy
end Go.Proofs.Ytnfjdoeemnhkbaa.Sy
