import Derived.Test.YtnfjdoeemnhkbaaSyn
import Derived.Test.YtnfjdoeemnhkbaaLsix
set_option linter.unusedVariables false
namespace Go.Proofs.Ytnfjdoeemnhkbaa
open Go.RowKit
open _root_.List renaming mem_singleton -> Qa, mem_append -> Qb, pairwise_append -> Qc, getElem?_eq_some_iff -> Qd, sum_cons -> Qe, pairwise_map -> Qf, pairwise_singleton -> Qg
def atT (r : List Vc) (c : Int) : Vc := if c < 0 then ⟨true, 0, 0, []⟩ else r.getD c.toNat ⟨true, 0, 0, []⟩
def ltC {α β : Type} (f : β -> β -> Int) (key : α -> β) (x y : α) : Bool := decide (f (key x) (key y) < 0)
theorem zHz {α β : Type} {f : β -> β -> Int} (h : Cmp3 f) (key : α -> β) : Sy.Ord (ltC f key) := by
 refine ⟨fun x y h1 => ?_, fun x y z h1 h2 => ?_⟩
 ·unfold ltC at h1 ⊢
  rw [decide_eq_true_eq] at h1
  rw [decide_eq_false_iff_not, h.anti (key x) (key y)]
  omega
 ·unfold ltC at h1 h2 ⊢
  rw [decide_eq_false_iff_not] at h1 h2 ⊢
  have a1 := h.anti (key y) (key x)
  have a2 := h.anti (key z) (key y)
  have a3 := h.anti (key z) (key x)
  have := (h.tr (key x) (key y) (key z) (by omega) (by omega)).1
  omega
theorem zHg {α β : Type} {f : β -> β -> Int} (h : Cmp3 f) {key : α -> β} {l : List α} (hs : Sy.Srt (ltC f key) l) : l.Pairwise fun x y => f (key x) (key y) <= 0 :=
 hs.imp fun {x y} h1 => by
  unfold ltC at h1
  rw [decide_eq_false_iff_not] at h1
  have := h.anti (key x) (key y)
  omega
theorem zNr {α β : Type} {f : β -> β -> Int} (h : Cmp3 f) {key : α -> β} {l1 l2 : List α} (h1 : Sy.Srt (ltC f key) l1) (h2 : Sy.Srt (ltC f key) l2) (hp : (l1.map key).Perm (l2.map key)) : l1.map key = l2.map key := by
 refine hp.eq_of_pairwise (le := fun a b => f a b <= 0) (fun a b _ _ ha hb => ?_) ?_ ?_
 ·have := h.anti a b
  exact (h.eq a b).1 (by omega)
 ·exact Qf.2 (zHg h h1)
 ·exact Qf.2 (zHg h h2)
structure Parted {α β : Type} (f : β -> β -> Int) (key : α -> β) (Ps : List (List α)) : Prop where
 ne : ∀ p ∈ Ps, p ≠ []
 same : ∀ p ∈ Ps, ∀ x ∈ p, ∀ y ∈ p, key x = key y
 rise : Ps.Pairwise fun p q => ∀ x ∈ p, ∀ y ∈ q, f (key x) (key y) < 0
theorem zHh {α β : Type} (f : β -> β -> Int) (key : α -> β) : Parted f key ([] : List (List α)) := ⟨(fun p h => by cases h), (fun p h => by cases h), List.Pairwise.nil⟩
theorem zE5 {α β : Type} {f : β -> β -> Int} (h : Cmp3 f) {key : α -> β} {Ps : List (List α)} {x : α} (hp : Parted f key Ps) (hs : ∀ y ∈ Ps.flatten, f (key y) (key x) <= 0) (hl : ∀ y, Ps.flatten.getLast? = some y -> key y ≠ key x)
  (hsl : Ps.flatten.Pairwise fun x y => f (key x) (key y) <= 0) : Parted f key (Ps ++ [[x]]) := by
 refine ⟨fun p hq => ?_, fun p hq => ?_, ?_⟩
 ·rcases Qb.1 hq with hq | hq
  ·exact hp.ne p hq
  ·rw [Qa.1 hq]; simp
 ·rcases Qb.1 hq with hq | hq
  ·exact hp.same p hq
  ·rw [Qa.1 hq]
   intro a ha b hb
   rw [Qa.1 ha, Qa.1 hb]
 ·refine Qc.2 ⟨hp.rise, Qg .., fun p hq q hq2 y hy z hz => ?_⟩
  rw [Qa.1 hq2] at hz
  rw [Qa.1 hz]
  have hym : y ∈ Ps.flatten := List.mem_flatten.2 ⟨p, hq, hy⟩
  have hle := hs y hym
  obtain ⟨z0, hz0⟩ : ∃ z0, Ps.flatten.getLast? = some z0 := by
   cases hc : Ps.flatten.getLast? with
   | none => rw [List.getLast?_eq_none_iff] at hc; rw [hc] at hym; cases hym
   | some z => exact ⟨z, rfl⟩
  have hne := hl z0 hz0
  obtain ⟨i, hi⟩ := List.getElem?_of_mem hym
  have hil := (Qd.1 hi).1
  rw [List.getLast?_eq_getElem?] at hz0
  have hz0m := List.mem_of_getElem? hz0
  have hle0 := hs z0 hz0m
  have hyz : f (key y) (key z0) <= 0 := by
   rcases Nat.lt_or_ge i (Ps.flatten.length - 1) with hlt | hge
   ·obtain ⟨h1, e1⟩ := Qd.1 hi
    obtain ⟨h2, e2⟩ := Qd.1 hz0
    have := List.pairwise_iff_getElem.1 hsl i _ h1 h2 hlt
    rw [e1, e2] at this
    exact this
   ·have : i = Ps.flatten.length - 1 := by omega
    subst this
    rw [hi] at hz0
    cases hz0
    have := (h.eq (key y) (key y)).2 rfl
    omega
  have ht := h.tr (key y) (key z0) (key x) hyz hle0
  rcases Int.lt_or_eq_of_le ht.1 with h5 | h5
  ·exact h5
  ·exact absurd ((h.eq _ _).1 (ht.2 h5).2) hne
theorem zGj {α β : Type} {f : β -> β -> Int} {key : α -> β} {Ps : List (List α)} {p : List α} {x z : α} (hp : Parted f key (Ps ++ [p])) (hz : z ∈ p) (hk : key z = key x) : Parted f key (Ps ++ [p ++ [x]]) := by
 have hpm : p ∈ Ps ++ [p] := Qb.2 (.inr (Qa.2 rfl))
 have hin : ∀ y ∈ p ++ [x], key y = key z := fun y hy => by
  rcases Qb.1 hy with hy | hy
  ·exact hp.same p hpm y hy z hz
  ·rw [Qa.1 hy, hk]
 refine ⟨fun q hq => ?_, fun q hq => ?_, ?_⟩
 ·rcases Qb.1 hq with hq | hq
  ·exact hp.ne q (Qb.2 (.inl hq))
  ·rw [Qa.1 hq]; simp
 ·rcases Qb.1 hq with hq | hq
  ·exact hp.same q (Qb.2 (.inl hq))
  ·rw [Qa.1 hq]
   intro a ha b hb
   rw [hin a ha, hin b hb]
 ·have h1 := Qc.1 hp.rise
  refine Qc.2 ⟨h1.1, Qg .., fun q hq r hr a ha b hb => ?_⟩
  rw [Qa.1 hr] at hb
  rw [hin b hb]
  exact h1.2.2 q hq p (Qa.2 rfl) a ha z hz
theorem zNs {l1 l2 : List Int} (h : l1.Perm l2) : l1.sum = l2.sum := by
 induction h with
 | nil => rfl
 | cons x _ ih => rw [Qe, Qe, ih]
 | swap x y l => simp only [Qe]; omega
 | trans _ _ ih1 ih2 => exact ih1.trans ih2
def addT (c : Int) (r : List Vc) : Int := if (atT r c).u = true then 0 else (atT r c).n
def sumT (R : List (List Vc)) (c : Int) : Int := (R.map (addT c)).sum
theorem zMj (R : List (List Vc)) (r : List Vc) (c : Int) : sumT (R ++ [r]) c = sumT R c + addT c r := by
 unfold sumT
 rw [List.map_append, List.sum_append_int]
 simp
theorem zMk {R S : List (List Vc)} (h : R.Perm S) (c : Int) : sumT R c = sumT S c := zNs (h.map _)
def extStep (s : Int) (best v : Vc) : Vc := if v.u = true then (if best.u = true then ⟨best.u, v.k, best.n, best.b⟩ else best) else if best.u = true ∨ 0 < cmpT v best * s then v else best
def extT (R : List (List Vc)) (c s : Int) : Vc := R.foldl (fun b r => extStep s b (atT r c)) ⟨true, 0, 0, []⟩
theorem zMl (R : List (List Vc)) (r : List Vc) (c s : Int) : extT (R ++ [r]) c s = extStep s (extT R c s) (atT r c) := by
 unfold extT
 rw [List.foldl_append]
 rfl
def totT (R : List (List Vc)) (k c : Int) : Option Vc :=
 if k = 1 then some ⟨false, 1, R.length, []⟩ else if k = 2 then (if -9223372036854775808 <= sumT R c ∧ sumT R c < 9223372036854775808 then some ⟨false, 1, sumT R c, []⟩ else none)
 else if k = 3 then some (extT R c (-1)) else if k = 4 then some (extT R c 1) else some ⟨false, 0, 0, []⟩
end Go.Proofs.Ytnfjdoeemnhkbaa
