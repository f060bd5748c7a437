/-
  Plain: the predicate of a list of numbers, as layer 7's law lays it; how deep, how much.
  Contract of layer 7's Pred of the law: its leaves.
  Contract of layer 7's Pred of the law: leaves that compare, negations, lists; all of it by induction.
  Contract of layer 7's Pred of the law: negations, lists; all of it by induction.
  Contract of layer 7's Pred of the law: lists.
  Contract of layer 7's Pred of the law, at any depth.
-/
import Derived.Test.YteloepccjoikdaaLseven
import Derived.Test.YteloepccjoikdaaLsix
import Derived.Deep.CutBlock
import Derived.Deep.DeepCutAuto
import Derived.Deep.RegionLaw
namespace Go.Proofs.Yteloepccjoikdaa
set_option linter.unusedVariables false
set_option linter.unusedSimpArgs false
open Go.RowKit

/-- The number at a place. -/
def nOf (l : List Int) (at_ : Nat) : Int := match l[at_]? with
  | some n => n
  | none => IntKind.i64.wrap ((at_ : Int) * 7919)
def kOf (n : Int) (deep : Nat) : Int := if deep ≤ 1 ∧ 4 < n % 8 then n % 8 - 4 else n % 8
def colOf (cols : List Co) (n : Int) : Nat := (n / 8 % 256).toNat % cols.length
def nilV : Vc := ⟨false, 0, 0, []⟩
/-- The value that a leaf compares with. -/
def cmpV (cols : List Co) (n : Int) : Vc := match cols[colOf cols n]? with
  | none => nilV
  | some c => if colOf cols n = 0 then ⟨false, 1, n / 2048 % 16, []⟩ else valOf ⟨c.n, c.k, false⟩ (n / 2048)
def leafOf (cols : List Co) (n k : Int) : Pt :=
  if k = 0 then .mk 1 0 0 nilV [] else if k = 1 then .mk 3 (colOf cols n) 0 nilV [] else .mk 2 (colOf cols n) (n / 131072 % 256 % 6 + 1) (cmpV cols n) []
def predOf (cols : List Co) (l : List Int) : Nat → Nat → Pt
  | 0, at_ => leafOf cols (nOf l at_) (kOf (nOf l at_) 0)
  | d + 1, at_ =>
    if kOf (nOf l at_) (d + 1) = 5 ∨ kOf (nOf l at_) (d + 1) = 6 then
      .mk (4 + kOf (nOf l at_) (d + 1) - 5) 0 0 nilV ((List.range (nOf l at_ / 2048 % 4).toNat).map fun i => predOf cols l d (3 * at_ + i + 1))
    else if kOf (nOf l at_) (d + 1) = 7 then .mk 6 0 0 nilV [predOf cols l d (3 * at_ + 1)]
    else leafOf cols (nOf l at_) (kOf (nOf l at_) (d + 1))

theorem valOf_len (c : Co) (n : Int) : (valOf c n).b.length ≤ 8 := by
  unfold valOf
  split
  · simp
  · split
    · simp
    · simp only [List.length_take, List.length_drop, show abcs.length = 8 from rfl]; omega
theorem cmpV_len (cols : List Co) (n : Int) : (cmpV cols n).b.length ≤ 8 := by
  unfold cmpV
  split
  · simp [nilV]
  · split
    · simp
    · exact valOf_len _ _
theorem depL_le : ∀ {l : List Pt} {d : Nat}, (∀ q ∈ l, depT q ≤ d) → depL l ≤ d
  | [], d, _ => by simp [depL]
  | q :: r, d, h => by
    rw [depL]
    exact Nat.max_le.2 ⟨h q List.mem_cons_self, depL_le fun x hx => h x (List.mem_cons_of_mem _ hx)⟩
theorem cntL_le_mul : ∀ {l : List Pt} {b : Nat}, (∀ q ∈ l, cntT q ≤ b) → cntL l ≤ l.length * b
  | [], b, _ => by simp [cntL]
  | q :: r, b, h => by
    have h1 := h q List.mem_cons_self
    have h2 := cntL_le_mul (l := r) fun x hx => h x (List.mem_cons_of_mem _ hx)
    rw [cntL, List.length_cons, Nat.add_mul]
    omega
theorem leafOf_small (cols : List Co) (n k : Int) : depT (leafOf cols n k) ≤ 1 ∧ cntT (leafOf cols n k) ≤ 8 := by
  have := cmpV_len cols n
  unfold leafOf
  split
  · simp [depT, depL, cntT, cntL, nilV]
  · split
    · simp [depT, depL, cntT, cntL, nilV]
    · simp [depT, depL, cntT, cntL]; exact this
theorem predOf_small (cols : List Co) (l : List Int) : ∀ (d at_ : Nat), depT (predOf cols l d at_) ≤ d + 1 ∧ cntT (predOf cols l d at_) ≤ 8 * 4 ^ d
  | 0, at_ => by unfold predOf; have := leafOf_small cols (nOf l at_) (kOf (nOf l at_) 0); omega
  | d + 1, at_ => by
    have ih := fun a => predOf_small cols l d a
    have hp : 1 ≤ 4 ^ d := Nat.pos_of_ne_zero (by simp)
    have hs : 4 ^ (d + 1) = 4 ^ d * 4 := Nat.pow_succ ..
    unfold predOf
    split
    · have h1 : ∀ q ∈ (List.range (nOf l at_ / 2048 % 4).toNat).map (fun i => predOf cols l d (3 * at_ + i + 1)), depT q ≤ d + 1 ∧ cntT q ≤ 8 * 4 ^ d := fun q hq => by
        obtain ⟨i, _, rfl⟩ := List.mem_map.1 hq
        exact ih _
      have h2 := depL_le fun q hq => (h1 q hq).1
      have h3 := cntL_le_mul fun q hq => (h1 q hq).2
      rw [List.length_map, List.length_range] at h3
      have h4 : (nOf l at_ / 2048 % 4).toNat ≤ 3 := by omega
      have h5 := Nat.mul_le_mul_right (8 * 4 ^ d) h4
      rw [depT, cntT, List.length_map, List.length_range]
      simp only [nilV, List.length_nil]
      omega
    · split
      · have := ih (3 * at_ + 1)
        simp only [depT, depL, cntT, cntL, nilV, List.length_nil, List.length_cons, Nat.max_zero]
        omega
      · have := leafOf_small cols (nOf l at_) (kOf (nOf l at_) (d + 1))
        omega

end Go.Proofs.Yteloepccjoikdaa

namespace Go.Proofs.Yteloepccjoikdaa
set_option linter.unusedVariables false
set_option linter.unusedSimpArgs false
open Go.RowKit

end Go.Proofs.Yteloepccjoikdaa

namespace Go.Proofs.Yteloepccjoikdaa
set_option linter.unusedVariables false
set_option linter.unusedSimpArgs false
open Go.RowKit

theorem rdB_fresh {K : Nat} {w : World} {s : Value} {bs : List Nat} (h : Rd w s (bs.map u8v)) (hf : FreshV K s) : RdB K w s bs := by
  obtain ⟨ao, cap, rfl, hn, hc⟩ := h
  simp only [List.length_map] at hn hc hf ⊢
  refine ⟨ao, cap, rfl, hn, fun hp => ?_⟩
  obtain ⟨b, off, rfl, h3⟩ := hc hp
  refine ⟨b, off, rfl, hf _ _ _ rfl, fun i hi => ?_⟩
  rw [h3 i hi, List.getD_eq_getElem?_getD, List.getD_eq_getElem?_getD, List.getElem?_map, List.getElem?_eq_getElem hi]
  rfl

/-- The entry of the walk: from the call to the switch. -/
theorem tmod_col {m : Nat} {n : Int} (cols : List Co) (hm : m = cols.length) : (n / 8 % 256).tmod (m : Int) = ((colOf cols n : Nat) : Int) := by
  rw [colOf, ← hm, Int.tmod_eq_emod_of_nonneg (by omega)]
  conv => lhs; rw [show n / 8 % 256 = ((n / 8 % 256).toNat : Int) by omega]
  exact (Int.natCast_emod _ m).symm
theorem nOf_in {l : List Int} {at_ : Nat} (h : at_ < l.length) : nOf l at_ = l.getD at_ 0 := by
  unfold nOf
  rw [List.getD_eq_getElem?_getD, List.getElem?_eq_getElem h]
  rfl
theorem nOf_out {l : List Int} {at_ : Nat} (h : ¬ at_ < l.length) (hb : at_ ≤ 100000) : nOf l at_ = (at_ : Int) * 7919 := by
  unfold nOf
  rw [List.getElem?_eq_none (by omega)]
  exact IntWalk.i64_in _ (by omega)
theorem kOf_cases {n D K : Int} {d : Nat} (hD : D = (d : Int)) (h : kOf n d = K) : (¬ (D ≤ 1 ∧ 4 < n % 8) ∧ n % 8 = K) ∨ (D ≤ 1 ∧ 4 < n % 8 ∧ n % 8 = K + 4) := by
  unfold kOf at h
  split at h <;> omega

end Go.Proofs.Yteloepccjoikdaa

namespace Go.Proofs.Yteloepccjoikdaa
set_option linter.unusedVariables false
set_option linter.unusedSimpArgs false
open Go.RowKit

/-- Nothing but the block P, and the one that v owns, has turned. -/
def Part (P : Nat) (v : Value) (w w' : World) : Prop := ∀ i, i < w.heap.size → i ≠ P → v.ownBlock ≠ some i → w'.heap[i]? = w.heap[i]?

/-- What a list holds, one thing more. -/
theorem elems_step {K P g : Nat} {q : Pt} {ls : List Pt} {css : List (List Value)} {cs : List Value} {v v' : Value} {wr w2 w3 w4 w5 : World}
    (hE : ∀ w', Part P v wr w' → RdAs K w' ls css) (hP : P < wr.heap.size) (hvl : ∀ k, v.ownBlock = some k → k < wr.heap.size)
    (hb : Below wr.heap.size wr w2) (ha : RdA1 wr.heap.size w2 q cs) (h3 : ∀ i, i < w2.heap.size → w3.heap[i]? = w2.heap[i]?) (hs3 : w2.heap.size ≤ w3.heap.size)
    (h4 : ∀ i, i < w3.heap.size → v.ownBlock ≠ some i → w4.heap[i]? = w3.heap[i]?) (h5 : ∀ i, i ≠ P → w5.heap[i]? = w4.heap[i]?) (hs5 : w3.heap.size ≤ w5.heap.size) (hK : K ≤ wr.heap.size)
    (hg : v'.ownBlock = some g) (hat : v.ownBlock = some g ∨ g = w3.heap.size) : ∀ w', Part P v' w5 w' → RdAs K w' (ls ++ [q]) (css ++ [cs]) := by
  intro w' hp
  have hs2 := hb.size
  refine RdAs.snoc (RdA1.above (K := wr.heap.size) (w := w2) (fun i h1 h2 => ?_) hK _ ha) (hE w' fun i h1 h2 hv => ?_)
  · have n1 : v.ownBlock ≠ some i := fun e => by have := hvl i e; omega
    have n2 : v'.ownBlock ≠ some i := fun e => by
      rw [hg] at e
      have := Option.some.inj e
      rcases hat with h | h
      · have := hvl g h; omega
      · omega
    rw [hp i (by omega) (by omega) n2, h5 i (by omega), h4 i (by omega) n1, h3 i h2]
  · have n2 : v'.ownBlock ≠ some i := fun e => by
      rw [hg] at e
      have := Option.some.inj e
      subst this
      rcases hat with h | h
      · exact hv h
      · omega
    rw [hp i (by omega) h2 n2, h5 i h2, h4 i (by omega) hv, h3 i (by omega), hb.block i h1]
theorem rdA1_shape {K : Nat} {w : World} {p : Pt} {cs : List Value} (h : RdA1 K w p cs) : ∃ (k c o vk vn : Int) (u : Bool) (a : Option Addr) (n m : Nat) (a2 : Option Addr) (n2 m2 : Nat), cs = [.int .i64 k, .int .i64 c, .int .i64 o, .bool u, .int .i64 vk, .int .i64 vn, .slice a n m, .slice a2 n2 m2] := by
  obtain ⟨k, c, o, v, l⟩ := p
  unfold RdA1 at h
  obtain ⟨s, ls, css, rfl, h1, h2, _⟩ := h
  obtain ⟨a, m, h3⟩ := rdB_shape h1.1
  obtain ⟨a2, m2, h4⟩ := rdS_shape h2.rd
  exact ⟨k, c, o, v.k, v.n, v.u, a, _, m, a2, _, m2, by rw [h3, h4]; rfl⟩
theorem rd_grown {w w' : World} {v : Value} {xs : List Value} (h : Rd w v xs) (hb : Below w.heap.size w w') : Rd w' v xs := h.kept hb
theorem lawp_mul {a d b : Nat} (h : (a + 1) * 4 ^ (d + 1) ≤ 100000) (hi : b + 1 ≤ (a + 1) * 4) : (b + 1) * 4 ^ d ≤ 100000 := by
  have h2 := Nat.mul_le_mul_right (4 ^ d) hi
  have h3 : (a + 1) * 4 * 4 ^ d = (a + 1) * 4 ^ (d + 1) := by rw [Nat.pow_succ, Nat.mul_assoc, Nat.mul_comm 4]
  omega
theorem lawp_le {a d : Nat} (h : (a + 1) * 4 ^ d ≤ 100000) : a ≤ 100000 := by
  have h1 : 1 ≤ 4 ^ d := Nat.pos_of_ne_zero (by simp)
  have h2 := Nat.mul_le_mul_left (a + 1) h1
  omega

end Go.Proofs.Yteloepccjoikdaa

namespace Go.Proofs.Yteloepccjoikdaa
set_option linter.unusedVariables false
set_option linter.unusedSimpArgs false
open Go.RowKit

theorem range_snoc {α : Type} (f : Nat → α) (q : Nat) : (List.range (q + 1)).map f = (List.range q).map f ++ [f q] := by
  rw [List.range_succ, List.map_append]; rfl
theorem own_kept {w w1 : World} {B : Nat} {E : TypeId} {sz : Nat} {v : Value} {n : Nat} {xs : List Value} (h : w.ownsRow B E sz v n xs) (hb : Below w.heap.size w w1) : w1.ownsRow B E sz v n xs := by
  refine h.kept (⟨hb.os, hb.tape, hb.output, hb.size, fun k hk _ => hb.block k hk⟩ : w.grownBy w1 none) ?_
  rcases h.2 with ⟨rfl, _⟩ | ⟨g, cap, cur, rfl, _⟩
  · exact .inl rfl
  · exact .inr (by simp [Value.ownBlock])
theorem part_refl (P : Nat) (v : Value) (w : World) : Part P v w w := fun _ _ _ _ => rfl

end Go.Proofs.Yteloepccjoikdaa

namespace Go.Proofs.Yteloepccjoikdaa
set_option linter.unusedVariables false
set_option linter.unusedSimpArgs false
open Go.RowKit

theorem kOf_range (n : Int) (d : Nat) : 0 ≤ kOf n d ∧ kOf n d ≤ 7 ∧ (d = 0 → kOf n d ≤ 4) := by
  unfold kOf
  split <;> omega
theorem rdB_none (K : Nat) (w : World) : RdB K w (.slice none 0 0) [] := ⟨none, 0, rfl, ⟨fun _ => rfl, by simp⟩, fun h => absurd h (by simp)⟩
theorem rdSK_none (K : Nat) (w : World) (sz : Nat) : RdSK K w sz (.slice none 0 0) [] := ⟨none, 0, rfl, ⟨fun _ => rfl, by simp⟩, fun k t h => by simp at h⟩
/-- A leaf without a value. -/
theorem rdA1_leaf (K : Nat) (w : World) (k c o : Int) : RdA1 K w (.mk k c o nilV []) (cellsP k c o nilV (.slice none 0 0) (.slice none 0 0)) := by
  unfold RdA1
  exact ⟨_, _, [], rfl, ⟨rdB_none K w, fun x hx => by simp [nilV] at hx⟩, rdSK_none K w 8, by unfold RdAs; trivial⟩

end Go.Proofs.Yteloepccjoikdaa
