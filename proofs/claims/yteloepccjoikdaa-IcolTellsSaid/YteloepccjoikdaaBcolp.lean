/-
  Contracts of layer 5: whether there is one too long; Tell.
  Contracts of layer 5: the bytes of what is told; Encode.
  Layer 5: rows of slices whose bytes lie apart from the row; a string as bytes; how many bytes the best takes.
-/
import Derived.Test.YteloepccjoikdaaBcoli
import Derived.Test.YteloepccjoikdaaIcolu
import Derived.Lib.ConvBytes
namespace Go.Proofs.Yteloepccjoikdaa.Bc
set_option linter.unusedVariables false
set_option linter.unusedSimpArgs false
open Go.RowKit

end Go.Proofs.Yteloepccjoikdaa.Bc

namespace Go.Proofs.Yteloepccjoikdaa.Bc
set_option linter.unusedVariables false
set_option linter.unusedSimpArgs false
open Go.RowKit

theorem runsT_lt : ∀ (m : Nat) (l : List By), l.length ≤ m → l.length ≤ 100000 → (∀ n ∈ l, Fit n) → ∀ x ∈ runsT l, x < 256
  | 0, l, h0, _, _, x, hx => by
    have : l = [] := List.length_eq_zero_iff.1 (by omega)
    subst this
    simp [runsT, grp] at hx
  | m + 1, l, h0, hl, hI, x, hx => by
    by_cases hp : 0 < l.length
    · obtain ⟨n, a, h1, h2, h3, h4, h5, h6, h7, h8⟩ := runsT_step l hp
      rw [h7, List.mem_append, List.mem_append] at hx
      rcases hx with (hx | hx) | hx
      · exact numC_lt n (by omega) x hx
      · exact putT_lt (hI a (List.mem_of_getElem? h4)) x hx
      · exact runsT_lt m (l.drop n) (by rw [List.length_drop]; omega) (by rw [List.length_drop]; omega) (fun z hz => hI z (List.mem_of_mem_drop hz)) x hx
    · have : l = [] := List.length_eq_zero_iff.1 (by omega)
      subst this
      simp [runsT, grp] at hx
theorem kindT_lt (k : Int) (l : List By) (hI : ∀ n ∈ l, Fit n) (h : l.length ≤ 65535) : ∀ x ∈ kindT k l, x < 256 := by
  intro x hx
  unfold kindT at hx
  split at hx
  · exact plainT_lt hI x hx
  · split at hx
    · exact runsT_lt _ l (Nat.le_refl _) (by omega) hI x hx
    · unfold dictT at hx
      have h0 := wordsT_len l
      rw [List.mem_append, List.mem_append] at hx
      rcases hx with (hx | hx) | hx
      · exact numC_lt _ (by omega) x hx
      · exact plainT_lt (fun z hz => hI z ((wordsT_mem l z).1 hz)) x hx
      · exact packB_mem_lt _ _ x hx
end Go.Proofs.Yteloepccjoikdaa.Bc

namespace Go.Proofs.Yteloepccjoikdaa.Bc
set_option linter.unusedVariables false
set_option linter.unusedSimpArgs false
open Go.RowKit

theorem grown_next {a b c : World} {r r' : Option Nat} (h : a.grownBy b r) (k : b.grownBy c r') (hr : ∀ g, r' = some g → r = some g ∨ a.heap.size ≤ g) : a.grownBy c r :=
  ⟨k.os.trans h.os, k.tape.trans h.tape, k.output.trans h.output, Nat.le_trans h.size k.size, fun i hi hne => (k.block i (Nat.lt_of_lt_of_le hi h.size) (fun e => by
    rcases hr i e.symm with h1 | h1
    · exact hne h1.symm
    · omega)).trans (h.block i hi hne)⟩
structure Far (base : Nat) (w : World) (v : Value) (ps : Row) : Prop where
  row : OwnR base w v ps
  far : ∀ w', w.grownBy w' v.ownBlock → Els w' ps
theorem far_nil (base : Nat) (w : World) : Far base w (.slice none 0 0) [] := ⟨ownR_nil _ _, fun _ _ p hp => by simp at hp⟩
theorem Far.els {base : Nat} {w : World} {v : Value} {ps : Row} (h : Far base w v ps) : Els w ps := h.far w (World.grownBy.refl _ _)
theorem Far.kept {base : Nat} {w w' : World} {v : Value} {ps : Row} (h : Far base w v ps) (hb : Below w.heap.size w w') : Far base w' v ps :=
  ⟨own_keptR h.row hb, fun w2 hg => h.far w2 (grown_trans (grown_of_below hb _) hg)⟩
theorem Far.snoc {base : Nat} {w w2 w9 : World} {v v' u : Value} {ps : Row} {x : By} (h : Far base w v ps) (hb : Below w.heap.size w w2) (hu : ∀ w'', w2.grownBy w'' v.ownBlock → Rd w'' u (x.map u8v))
    (h9 : w9.ownsRow base 38 1 v' (ps.length + 1) (vs ps ++ [u])) (hg : w2.grownBy w9 v.ownBlock) (hn : ∀ g, v'.ownBlock = some g → v.ownBlock = some g ∨ w2.heap.size ≤ g) : Far base w9 v' (ps ++ [(u, x)]) := by
  refine ⟨OwnR.of (n := ps.length + 1) (by rw [vs_snoc]; exact h9), fun w'' hw p hp => ?_⟩
  have h1 := grown_next hg hw hn
  rcases List.mem_append.1 hp with hp | hp
  · exact h.far w'' (grown_trans (grown_of_below hb _) h1) p hp
  · obtain rfl := List.mem_singleton.1 hp
    exact hu w'' h1
theorem far_old {w w0 : World} {v u : Value} {x : By} {g : Nat} (hb : Below w0.heap.size w0 w) (hu : Rd w0 u (x.map u8v)) {row : Option Nat} (hr : ∀ g, row = some g → w0.heap.size ≤ g) : ∀ w'', w.grownBy w'' row → Rd w'' u (x.map u8v) :=
  fun w'' hg => hu.kept (hb.grown hg hb.size hr)
end Go.Proofs.Yteloepccjoikdaa.Bc
