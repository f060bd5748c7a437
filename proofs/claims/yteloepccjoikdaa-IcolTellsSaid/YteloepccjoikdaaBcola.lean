/-
  Contracts of layer 5: rows of rows of bytes; bytes put behind bytes, and taken of a Reader.
  Contracts of layer 5: what the coder of bytes tells: one behind the other, and runs.
  Contracts of layer 5: bytes read one behind the other: rows of one's own, each of its things one's own, and apart.
  Contract of layer 5: runs of bytes, read.
-/
import Derived.Test.YteloepccjoikdaaIcola
import Derived.Test.YteloepccjoikdaaBcolm
import Derived.Test.YteloepccjoikdaaReadg
import Derived.Test.YteloepccjoikdaaLsix
import Derived.Deep.QuietTactic
import Derived.BigQuiet
import Derived.Test.YteloepccjoikdaaIcole
import Derived.Deep.DeepCutAuto
namespace Go.Proofs.Yteloepccjoikdaa.Bc
set_option linter.unusedVariables false
set_option linter.unusedSimpArgs false
open Go.RowKit

theorem info_sl : (Try.prog.info? 38).map (fun i => (i.zero, i.size, i.bytes)) = some (some (.slice none 0 0), 1, 24) := by kernel_rfl
theorem elmR : Elm Try.prog 67 38 1 24 := elm_of Try.underlying67 info_sl rfl (by decide) (by decide)

abbrev Row := List (Value × By)
def vs (ps : Row) : List Value := ps.map Prod.fst
def xs (ps : Row) : List By := ps.map Prod.snd
def Els (w : World) (ps : Row) : Prop := ∀ p ∈ ps, Rd w p.1 (p.2.map u8v)
theorem Els.kept {w w' : World} {ps : Row} (h : Els w ps) (hb : Below w.heap.size w w') : Els w' ps := fun p hp => (h p hp).kept hb
theorem Els.ones {w : World} {ps : Row} (h : Els w ps) : ∀ u ∈ vs ps, u.oneCell' = true := fun u hu => by
  obtain ⟨p, hp, rfl⟩ := List.mem_map.1 hu
  obtain ⟨ao, cap, hv, _⟩ := h p hp
  rw [hv]
  rfl
def OwnR (base : Nat) (w : World) (v : Value) (ps : Row) : Prop := w.ownsRow base 38 1 v ps.length (vs ps)
theorem OwnR.shape {base : Nat} {w : World} {v : Value} {ps : Row} (h : OwnR base w v ps) : ∃ ao cap, v = .slice ao ps.length cap := own_shape h
theorem OwnR.rd {base : Nat} {w : World} {v : Value} {ps : Row} (h : OwnR base w v ps) : Rd w v (vs ps) := Rd.of_owns h
theorem OwnR.of {base : Nat} {w : World} {v : Value} {n : Nat} {ps : Row} (h : w.ownsRow base 38 1 v n (vs ps)) : OwnR base w v ps := by
  have h1 := h.1
  unfold vs at h1
  rw [List.length_map, Nat.mul_one] at h1
  subst h1
  exact h
theorem ownR_nil (base : Nat) (w : World) : OwnR base w (.slice none 0 0) [] := World.ownsRow_nil ..
theorem ownR_base {base : Nat} {w : World} {v : Value} {ps : Row} (h : OwnR base w v ps) : ∀ k, v.ownBlock = some k → base ≤ k := own_base h
theorem own_keptR {base : Nat} {w w' : World} {v : Value} {ps : Row} (h : OwnR base w v ps) (hb : Below w.heap.size w w') : OwnR base w' v ps :=
  h.kept (grown_of_below hb none) (by cases h : v.ownBlock with | none => exact .inl rfl | some g => exact .inr (by simp))
theorem rdv_cells {w : World} {ao : Option Addr} {len cap : Nat} {ps : Row} (h : Rd w (.slice ao len cap) (vs ps)) :
    len = ps.length ∧ (0 < len → ∃ b off, ao = some ⟨b, off, none⟩ ∧ ∀ (i : Nat) (p : Value × By), ps[i]? = some p → w.cell? ⟨b, off + i, none⟩ = some p.1) := by
  obtain ⟨ao', cap', hv, _, hc⟩ := h
  unfold vs at hv hc
  simp only [List.length_map, Value.slice.injEq] at hv hc
  obtain ⟨rfl, rfl, rfl⟩ := hv
  refine ⟨rfl, fun hp => ?_⟩
  obtain ⟨b, off, ha, hcell⟩ := hc hp
  refine ⟨b, off, ha, fun i p hi => ?_⟩
  have hlt := (List.getElem?_eq_some_iff.1 hi).1
  rw [hcell i hlt, List.getD_eq_getElem?_getD, List.getElem?_map, hi]
  rfl
theorem els_shape {w : World} {p : Value × By} (h : Rd w p.1 (p.2.map u8v)) : ∃ ao cap, p.1 = .slice ao p.2.length cap := by
  obtain ⟨ao, cap, hv, _⟩ := h
  rw [List.length_map] at hv
  exact ⟨ao, cap, hv⟩
theorem len_vs (ps : Row) : (vs ps).length = ps.length := List.length_map ..
theorem len_xs (ps : Row) : (xs ps).length = ps.length := List.length_map ..

end Go.Proofs.Yteloepccjoikdaa.Bc

namespace Go.Proofs.Yteloepccjoikdaa.Bc
set_option linter.unusedVariables false
set_option linter.unusedSimpArgs false
open Go.RowKit

theorem take_xs {ps : Row} {q : Nat} {p : Value × By} (h : ps[q]? = some p) : (xs ps).take (q + 1) = (xs ps).take q ++ [p.2] := by
  obtain ⟨hq, rfl⟩ := List.getElem?_eq_some_iff.1 h
  rw [List.take_succ_eq_append_getElem (by rw [len_xs]; exact hq)]
  simp [xs]
theorem xs_at {ps : Row} {q : Nat} {p : Value × By} (h : ps[q]? = some p) : (xs ps)[q]? = some p.2 := by
  unfold xs
  rw [List.getElem?_map, h]
  rfl
theorem row_at {w : World} {ps : Row} {q : Nat} (he : Els w ps) (hq : q < ps.length) : ∃ va vc x, ps[q]? = some (Value.slice va (List.length x) vc, x) ∧ Rd w (Value.slice va (List.length x) vc) (x.map u8v) := by
  have h := List.getElem?_eq_getElem hq
  obtain ⟨p, hp⟩ : ∃ p, p = ps[q] := ⟨_, rfl⟩
  rw [← hp] at h
  have h1 := he p (List.mem_of_getElem? h)
  obtain ⟨v, x⟩ := p
  obtain ⟨va, vc, hv⟩ := els_shape h1
  have hv2 : v = .slice va (List.length x) vc := hv
  clear hv hp
  subst hv2
  exact ⟨va, vc, x, h, h1⟩
theorem vs_drop (ps : Row) (p : Nat) : vs (ps.drop p) = (vs ps).drop p := by unfold vs; rw [List.map_drop]
theorem Els.drop {w : World} {ps : Row} (h : Els w ps) (k : Nat) : Els w (ps.drop k) := fun p hp => h p (List.mem_of_mem_drop hp)

def Lead (l : List By) (n : Nat) : Prop := 0 < n ∧ n ≤ l.length ∧ (∀ j, j < n → l[j]? = l[0]?) ∧ (l[n]? ≠ l[0]?)
theorem lead_one {l : List By} {m n : Nat} (hm : Lead l m) (hn : Lead l n) : m = n := by
  obtain ⟨h1, h2, h3, h4⟩ := hm
  obtain ⟨g1, g2, g3, g4⟩ := hn
  rcases Nat.lt_trichotomy m n with h | h | h
  · exact absurd (g3 m h) h4
  · exact h
  · exact absurd (h3 n h) g4
end Go.Proofs.Yteloepccjoikdaa.Bc

namespace Go.Proofs.Yteloepccjoikdaa.Bc
set_option linter.unusedVariables false
set_option linter.unusedSimpArgs false
open Go.RowKit

def Apart (l : List Value) : Prop := ∀ (i j : Nat) (a b : Value) (g : Nat), l[i]? = some a → l[j]? = some b → a.ownBlock = some g → b.ownBlock = some g → i = j
theorem Apart.snoc {l : List Value} {u : Value} (h : Apart l) (hu : ∀ g, u.ownBlock = some g → ∀ a ∈ l, a.ownBlock ≠ some g) : Apart (l ++ [u]) := by
  intro i j a b g hi hj ha hb
  rcases Nat.lt_or_ge i l.length with h1 | h1 <;> rcases Nat.lt_or_ge j l.length with h2 | h2
  · rw [List.getElem?_append_left h1] at hi
    rw [List.getElem?_append_left h2] at hj
    exact h i j a b g hi hj ha hb
  · rw [List.getElem?_append_left h1] at hi
    rw [List.getElem?_append_right h2] at hj
    have e := List.mem_singleton.1 (List.mem_of_getElem? hj)
    subst e
    exact absurd ha (hu g hb a (List.mem_of_getElem? hi))
  · rw [List.getElem?_append_right h1] at hi
    rw [List.getElem?_append_left h2] at hj
    have e := List.mem_singleton.1 (List.mem_of_getElem? hi)
    subst e
    exact absurd hb (hu g ha b (List.mem_of_getElem? hj))
  · rw [List.getElem?_append_right h1] at hi
    rw [List.getElem?_append_right h2] at hj
    have l1 := (List.getElem?_eq_some_iff.1 hi).1
    have l2 := (List.getElem?_eq_some_iff.1 hj).1
    rw [List.length_singleton] at l1 l2
    omega
theorem Apart.set {l : List Value} {k : Nat} {u : Value} (h : Apart l) (hu : ∀ g, u.ownBlock = some g → ∀ i a, i ≠ k → l[i]? = some a → a.ownBlock ≠ some g) : Apart (l.set k u) := by
  intro i j a b g hi hj ha hb
  rw [List.getElem?_set] at hi hj
  by_cases h1 : k = i <;> by_cases h2 : k = j
  · omega
  · rw [if_pos h1] at hi
    rw [if_neg h2] at hj
    split at hi
    · cases hi
      exact absurd hb (hu g ha j b (fun e => h2 e.symm) hj)
    · cases hi
  · rw [if_neg h1] at hi
    rw [if_pos h2] at hj
    split at hj
    · cases hj
      exact absurd ha (hu g hb i a (fun e => h1 e.symm) hi)
    · cases hj
  · rw [if_neg h1] at hi
    rw [if_neg h2] at hj
    exact h i j a b g hi hj ha hb
structure OwnE (base : Nat) (w : World) (v : Value) (ps : Row) : Prop where
  row : OwnR base w v ps
  els : ∀ p ∈ ps, OwnB base w p.1 p.2
  apart : Apart (v :: vs ps)
theorem own_lt {base : Nat} {w : World} {T : TypeId} {sz n g : Nat} {v : Value} {l : List Value} (h : w.ownsRow base T sz v n l) (hg : v.ownBlock = some g) : g < w.heap.size := by
  rcases h.2 with ⟨rfl, _⟩ | ⟨g', cap, cur, rfl, _, hh, _⟩
  · cases hg
  · cases hg
    exact (Array.getElem?_eq_some_iff.1 hh).1
theorem OwnE.blocks {base : Nat} {w : World} {v : Value} {ps : Row} (h : OwnE base w v ps) : ∀ u ∈ v :: vs ps, ∀ g, u.ownBlock = some g → base ≤ g ∧ g < w.heap.size := by
  intro u hu g hg
  rcases List.mem_cons.1 hu with rfl | hu
  · exact ⟨ownR_base h.row g hg, own_lt h.row hg⟩
  · obtain ⟨p, hp, rfl⟩ := List.mem_map.1 hu
    exact ⟨ownB_base (h.els p hp) g hg, own_lt (h.els p hp) hg⟩
theorem OwnE.Els {base : Nat} {w : World} {v : Value} {ps : Row} (h : OwnE base w v ps) : Els w ps := fun p hp => (h.els p hp).rd
theorem OwnE.kept {base : Nat} {w w' : World} {v : Value} {ps : Row} {row : Option Nat} (h : OwnE base w v ps) (hg : w.grownBy w' row) (hne : ∀ u ∈ v :: vs ps, u.ownBlock = none ∨ u.ownBlock ≠ row) : OwnE base w' v ps :=
  ⟨World.ownsRow.kept h.row hg (hne v List.mem_cons_self), fun p hp => World.ownsRow.kept (h.els p hp) hg (hne p.1 (List.mem_cons_of_mem _ (List.mem_map.2 ⟨p, hp, rfl⟩))), h.apart⟩
theorem OwnE.keptR {base r : Nat} {w w' : World} {v : Value} {ps : Row} (h : OwnE base w v ps) (hg : w.grownBy w' (some r)) (hr : r < base) : OwnE base w' v ps :=
  h.kept hg fun u hu => .inr fun e => by have := (h.blocks u hu r e).1; omega
theorem OwnE.keptB {base : Nat} {w w' : World} {v : Value} {ps : Row} (h : OwnE base w v ps) (hb : Below w.heap.size w w') : OwnE base w' v ps :=
  h.kept (grown_of_below hb none) fun u _ => by cases h : u.ownBlock with | none => exact .inl rfl | some g => exact .inr (by simp)
theorem OwnE.mono {base base' : Nat} {w : World} {v : Value} {ps : Row} (h : OwnE base w v ps) (hb : base' ≤ base) : OwnE base' w v ps :=
  ⟨own_mono h.row hb, fun p hp => own_mono (h.els p hp) hb, h.apart⟩
theorem ownE_nil (base : Nat) (w : World) : OwnE base w (.slice none 0 0) [] := ⟨ownR_nil _ _, fun p hp => by simp at hp, fun i j a b g hi hj ha hb => by
  have l1 := (List.getElem?_eq_some_iff.1 hi).1
  have l2 := (List.getElem?_eq_some_iff.1 hj).1
  simp [vs] at l1 l2
  omega⟩
theorem vs_snoc (ps : Row) (u : Value) (x : By) : vs (ps ++ [(u, x)]) = vs ps ++ [u] := by simp [vs]
theorem xs_snoc (ps : Row) (u : Value) (x : By) : xs (ps ++ [(u, x)]) = xs ps ++ [x] := by simp [xs]
theorem OwnE.snoc {base B : Nat} {w w' : World} {v v' u : Value} {ps : Row} {x : By} (h : OwnE base w v ps) (hu : OwnB B w u x) (hB : base ≤ B) (hf : ∀ a ∈ v :: vs ps, ∀ g, a.ownBlock = some g → g < B)
    (h9 : w'.ownsRow base 38 1 v' (ps.length + 1) (vs ps ++ [u])) (hg : w.grownBy w' v.ownBlock) (hn : ∀ g, v'.ownBlock = some g → v.ownBlock = some g ∨ w.heap.size ≤ g) : OwnE base w' v' (ps ++ [(u, x)]) := by
  have hap := h.apart
  have hnv : ∀ p ∈ ps, p.1.ownBlock = none ∨ p.1.ownBlock ≠ v.ownBlock := fun p hp => by
    obtain ⟨i, hi⟩ := List.getElem?_of_mem hp
    cases e : p.1.ownBlock with
    | none => exact .inl rfl
    | some g =>
      right
      intro e2
      have := hap 0 (i + 1) v p.1 g rfl (by rw [List.getElem?_cons_succ]; unfold vs; rw [List.getElem?_map, hi]; rfl) e2.symm e
      omega
  refine ⟨OwnR.of (n := ps.length + 1) (by rw [vs_snoc]; exact h9), fun p hp => ?_, ?_⟩
  · rcases List.mem_append.1 hp with hp | hp
    · exact World.ownsRow.kept (h.els p hp) hg (hnv p hp)
    · obtain rfl := List.mem_singleton.1 hp
      refine World.ownsRow.kept (own_mono hu hB) hg ?_
      cases e : u.ownBlock with
      | none => exact .inl rfl
      | some g =>
        right
        intro e2
        have h1 := hf v List.mem_cons_self g e2.symm
        have h2 := ownB_base hu g e
        omega
  · rw [vs_snoc, ← List.cons_append]
    have h1 : Apart (v' :: vs ps) := by
      have := h.apart.set (k := 0) (u := v') (fun g hg2 i a hi ha e => by
        rcases hn g hg2 with h3 | h3
        · have := hap i 0 a v g ha rfl e h3
          omega
        · have := (h.blocks a (List.mem_of_getElem? ha) g e).2
          omega)
      exact this
    refine h1.snoc fun g hg2 a ha e => ?_
    have hbg := ownB_base hu g hg2
    have hlt := own_lt hu hg2
    rcases List.mem_cons.1 ha with rfl | ha
    · rcases hn g e with h3 | h3
      · have := hf v List.mem_cons_self g h3
        omega
      · omega
    · have := hf a (List.mem_cons_of_mem _ ha) g e
      omega

theorem ones_one (u : Value) (h : u.oneCell' = true) : Ones 1 [[u]] := fun t ht => by rw [List.mem_singleton.1 ht]; exact ⟨rfl, fun a ha => by rw [List.mem_singleton.1 ha]; exact h⟩
end Go.Proofs.Yteloepccjoikdaa.Bc

namespace Go.Proofs.Yteloepccjoikdaa.Bc
set_option linter.unusedVariables false
set_option linter.unusedSimpArgs false
open Go.RowKit

end Go.Proofs.Yteloepccjoikdaa.Bc
