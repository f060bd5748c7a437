/-
  Plain: what keys these predicates name.
-/
import Derived.Test.YtnfjdoeemnhkbaaNkey
import Derived.Test.YtnfjdoeemnhkbaaLpred
namespace Go.Proofs.Ytnfjdoeemnhkbaa
set_option linter.unusedVariables false
set_option linter.unusedSimpArgs false

def kpT (key : Int) : Pt := .mk 2 0 1 ⟨false, 1, key, []⟩ []
def trT : Pt := .mk 1 0 0 zeroV []
theorem nrm_kp (key : Int) : nrm (kpT key) false = some [[kpT key]] := by unfold kpT; rw [nrm]; simp
theorem times_one {x : List Pt} (h : x.length ≤ 32) : timesN [[]] [x] = some [x] := by
  unfold timesN prodL
  simp [fitsB, h]
theorem key_and (key : Int) : keyT (.mk 4 0 0 zeroV [kpT key, trT]) = some key := by
  have h : nrm (.mk 4 0 0 zeroV [kpT key, trT]) false = some [[kpT key]] := by
    rw [prod_or_sum 4 false 0 0 zeroV _ (.inl rfl)]
    simp only [decide_true, Bool.true_bne, Bool.not_false, if_true]
    rw [prodN, nrm_kp]
    simp only
    rw [times_one (by simp)]
    simp only
    rw [prodN, show nrm trT false = some [[]] by unfold trT; rw [nrm]; simp]
    simp only
    rw [show timesN [[kpT key]] [[]] = some [[kpT key]] by unfold timesN prodL; simp [fitsB]]
    simp only
    rw [prodN]
  unfold keyT
  rw [h]
  rfl
theorem key_or (key other : Int) : keyT (.mk 5 0 0 zeroV [kpT key, kpT other]) = none := by
  have h : nrm (.mk 5 0 0 zeroV [kpT key, kpT other]) false = some [[kpT key], [kpT other]] := by
    rw [prod_or_sum 5 false 0 0 zeroV _ (.inr rfl)]
    simp only [show decide ((5 : Int) = 4) = false by decide, bne_self_eq_false, Bool.false_eq_true, if_false]
    rw [sumN, nrm_kp]
    simp only
    rw [if_neg (by simp), sumN, nrm_kp]
    simp only
    rw [if_neg (by simp), sumN]
    rfl
  unfold keyT
  rw [h]
theorem key_not (key : Int) : keyT (.mk 6 0 0 zeroV [kpT key]) = none := by
  have h : nrm (.mk 6 0 0 zeroV [kpT key]) false = some [[.mk 2 0 2 ⟨false, 1, key, []⟩ []]] := by
    rw [nrm]
    simp only [show ¬ (6 : Int) = 1 by decide, show ¬ (6 : Int) = 2 by decide, show ¬ (6 : Int) = 3 by decide, if_false, if_true]
    rw [nrmOne_one]
    unfold kpT
    rw [nrm]
    simp [opN]
  unfold keyT
  rw [h]
  rfl
theorem key_with (key : Int) (p : Pt) {a : List (List Pt)} (h : nrm p false = some a) (hs : a.length ≤ 32) (hl : ∀ x ∈ a, x.length ≤ 31) : keyT (.mk 4 0 0 zeroV [kpT key, p]) = if a.length = 1 then some key else none := by
  have h : nrm (.mk 4 0 0 zeroV [kpT key, p]) false = some (a.map fun x => kpT key :: x) := by
    rw [prod_or_sum 4 false 0 0 zeroV _ (.inl rfl)]
    simp only [decide_true, Bool.true_bne, Bool.not_false, if_true]
    rw [prodN, nrm_kp]
    simp only
    rw [times_one (by simp)]
    simp only
    rw [prodN, h]
    simp only
    have e : timesN [[kpT key]] a = some (a.map fun x => kpT key :: x) := by
      unfold timesN
      rw [if_neg (by simp; omega), if_pos]
      · unfold prodL; simp
      · simp only [List.all_cons, List.all_nil, Bool.and_true]
        unfold fitsB
        rw [List.all_eq_true]
        intro x hx
        have := hl x hx
        simp; omega
    rw [e]
    simp only
    rw [prodN]
  unfold keyT
  rw [h]
  match a with
  | [] => rfl
  | [x] => rfl
  | x :: y :: r => simp

/-- A leaf has a form, of one at most. -/
def SmallLeaf (t : Pt) : Prop := ∀ nt, ∃ b, nrm t nt = some b ∧ b.length ≤ 1 ∧ ∀ x ∈ b, x.length ≤ 1
theorem smallLeaf (cols : List Co) (n k : Int) : SmallLeaf (leafOf cols n k) := by
  intro nt
  unfold leafOf
  split
  · refine ⟨_, by rw [nrm]; simp; rfl, ?_⟩
    cases nt <;> simp
  · split
    · refine ⟨_, by rw [nrm]; simp; rfl, ?_⟩
      simp
    · refine ⟨_, by rw [nrm]; simp; rfl, ?_⟩
      simp
theorem sumN_leaves : ∀ (l : List Pt) (nt : Bool) (out : List (List Pt)), (∀ t ∈ l, SmallLeaf t) → out.length + l.length ≤ 32 → (∀ x ∈ out, x.length ≤ 31) → ∃ a, sumN l nt out = some a ∧ a.length ≤ 32 ∧ ∀ x ∈ a, x.length ≤ 31
  | [], nt, out, _, hl, ho => ⟨out, by rw [sumN], by simpa using hl, ho⟩
  | t :: r, nt, out, ht, hl, ho => by
    obtain ⟨b, h1, h2, h3⟩ := ht t List.mem_cons_self nt
    rw [List.length_cons] at hl
    rw [sumN, h1]
    simp only
    rw [if_neg (by omega)]
    refine sumN_leaves r nt (out ++ b) (fun q hq => ht q (List.mem_cons_of_mem _ hq)) (by rw [List.length_append]; omega) fun x hx => ?_
    rcases List.mem_append.1 hx with h | h
    · exact ho x h
    · have := h3 x h; omega
theorem prodN_leaves : ∀ (l : List Pt) (nt : Bool) (out : List (List Pt)) (m : Nat), (∀ t ∈ l, SmallLeaf t) → out.length ≤ 1 → (∀ x ∈ out, x.length ≤ m) → m + l.length ≤ 31 → ∃ a, prodN l nt out = some a ∧ a.length ≤ 1 ∧ ∀ x ∈ a, x.length ≤ 31
  | [], nt, out, m, _, hl, ho, hm => ⟨out, by rw [prodN], hl, fun x hx => by have := ho x hx; simp at hm; omega⟩
  | t :: r, nt, out, m, ht, hl, ho, hm => by
    obtain ⟨b, h1, h2, h3⟩ := ht t List.mem_cons_self nt
    rw [List.length_cons] at hm
    rw [prodN, h1]
    simp only
    have hmul : out.length * b.length ≤ 1 := Nat.mul_le_mul hl h2
    have e : timesN out b = some (prodL out b) := by
      unfold timesN
      rw [if_neg (by omega), if_pos]
      rw [List.all_eq_true]
      intro x hx
      unfold fitsB
      rw [List.all_eq_true]
      intro y hy
      have h4 := ho x hx
      have h5 := h3 y hy
      simp; omega
    rw [e]
    simp only
    refine prodN_leaves r nt (prodL out b) (m + 1) (fun q hq => ht q (List.mem_cons_of_mem _ hq)) (by rw [prodL_len]; exact hmul) (fun x hx => ?_) (by omega)
    unfold prodL at hx
    obtain ⟨y, hy, hx⟩ := List.mem_flatMap.1 hx
    obtain ⟨z, hz, rfl⟩ := List.mem_map.1 hx
    have h4 := ho y hy
    have h5 := h3 z hz
    rw [List.length_append]
    omega
/-- A predicate of depth two has one. -/
theorem nrm_two (cols : List Co) (l : List Int) (at_ : Nat) : ∃ a, nrm (predOf cols l 2 at_) false = some a ∧ a.length ≤ 32 ∧ ∀ x ∈ a, x.length ≤ 31 := by
  have hleaf : ∀ i, SmallLeaf (predOf cols l 1 i) := fun i => by
    unfold predOf
    have h5 : kOf (nOf l i) 1 ≤ 4 := by unfold kOf; split <;> omega
    split
    · rename_i h
      exact absurd (show kOf (nOf l i) 1 = 5 ∨ kOf (nOf l i) 1 = 6 from h) (by omega)
    · split
      · rename_i h
        exact absurd (show kOf (nOf l i) 1 = 7 from h) (by omega)
      · exact smallLeaf _ _ _
  have hlen : ∀ x : Int, (x % 4).toNat ≤ 3 := fun x => by omega
  unfold predOf
  split
  · rename_i hk
    have hp : ∀ t ∈ (List.range (nOf l at_ / 2048 % 4).toNat).map (fun i => predOf cols l 1 (3 * at_ + i + 1)), SmallLeaf t := fun t ht => by
      obtain ⟨i, _, rfl⟩ := List.mem_map.1 ht
      exact hleaf _
    have hl := hlen (nOf l at_ / 2048)
    rw [prod_or_sum _ false 0 0 nilV _ (by rcases hk with h | h <;> rw [h] <;> decide)]
    split
    · obtain ⟨a, h1, h2, h3⟩ := prodN_leaves _ false [[]] 0 hp (by simp) (by simp) (by rw [List.length_map, List.length_range]; omega)
      exact ⟨a, h1, by omega, h3⟩
    · exact sumN_leaves _ false [] hp (by rw [List.length_map, List.length_range]; simp; omega) (by simp)
  · split
    · rw [nrm]
      simp only [show ¬ (6 : Int) = 1 by decide, show ¬ (6 : Int) = 2 by decide, show ¬ (6 : Int) = 3 by decide, if_false, if_true]
      rw [nrmOne_one]
      obtain ⟨b, h1, h2, h3⟩ := hleaf (3 * at_ + 1) (!false)
      exact ⟨b, h1, by omega, fun x hx => by have := h3 x hx; omega⟩
    · obtain ⟨b, h1, h2, h3⟩ := smallLeaf cols (nOf l at_) (kOf (nOf l at_) (1 + 1)) false
      exact ⟨b, h1, by omega, fun x hx => by have := h3 x hx; omega⟩

/-! How many there are of one. -/
mutual
theorem nodes_cnt : ∀ p : Pt, nodesT p ≤ cntT p + 1
  | .mk k c o v l => by
    have := nodes_cntL l
    rw [nodesT, cntT]
    omega
theorem nodes_cntL : ∀ l : List Pt, nodesL l ≤ cntL l + l.length
  | [] => by simp [nodesL, cntL]
  | q :: r => by
    have h1 := nodes_cnt q
    have h2 := nodes_cntL r
    rw [nodesL, cntL, List.length_cons]
    omega
end

end Go.Proofs.Ytnfjdoeemnhkbaa
