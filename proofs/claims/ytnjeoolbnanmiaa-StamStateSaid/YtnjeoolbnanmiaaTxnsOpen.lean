/-
  Transactions that came in, as the frame tells of them, read as a list.
-/
import Derived.Test.YtnjeoolbnanmiaaStam
import Derived.ProofKit
import Derived.Deep.Slices
import Derived.ChangeSame
namespace Go.Proofs.Ytnjeoolbnanmiaa
set_option linter.unusedVariables false
open Go.RowKit Go.ChangeShapes Go.WideShapes Go.Deep

theorem cells26 : Try.prog.cellsOf 26 = 4 := by kernel_rfl
theorem cells3 : Try.prog.cellsOf 3 = 1 := by kernel_rfl

theorem one_of {cs : List Value} {j : Nat} {v : Value} (h : (cs.drop j).take 1 = [v]) : cs[j]? = some v := by
  have h1 : ((cs.drop j).take 1)[0]? = some v := by rw [h]; rfl
  rw [List.getElem?_take, if_pos (by decide), List.getElem?_drop] at h1
  exact h1

theorem txns_open {H : Type} {enc : TypeId × Value → H} {w : World} {base : Nat} {spare : Nat → Bool} {held : Bool} {fuel : Nat} {a0 : Option Addr} {len0 cap0 : Nat} {x : DataW H × List MemPlace}
    (h : DataW.trod enc Try.prog w base spare held fuel 22 [.slice a0 len0 cap0] = some x) : ∃ l : List Ti, l.length = len0 ∧ RdT w (.slice a0 len0 cap0) l ∧ (a0 = none → len0 = 0 ∧ cap0 = 0) := by
  rcases open_slice Try.underlying22 h with ⟨hcs, _⟩ | ⟨a, len, cap, m, n, D, Pl, hcs, _, hl, hm, hmm, _, hi⟩
  · simp only [List.cons.injEq, Value.slice.injEq, and_true] at hcs
    obtain ⟨rfl, rfl, rfl⟩ := hcs
    exact ⟨[], rfl, ⟨none, 0, rfl, fun k t ht => by cases ht⟩, fun _ => ⟨rfl, rfl⟩⟩
  · simp only [List.cons.injEq, Value.slice.injEq, and_true] at hcs
    obtain ⟨rfl, rfl, rfl⟩ := hcs
    have hlm : len0 ≤ m := by rw [hmm]; split <;> omega
    have each : ∀ i, i < len0 → ∃ t : Ti, ∀ j, j < 4 → w.cell? (a.add (i * 4 + j)) = t.cells[j]? := fun i hil => by
      obtain ⟨cs', hc, ht'⟩ := hi i (by omega)
      rw [cells26] at hc
      obtain ⟨_, hcl, hat⟩ := World.cells?_some hc
      obtain ⟨ys, n', _, _, _, hyl, hf⟩ := DataW.trod_struct Try.underlying26 ht'
      have f0 := hf 0 _ rfl
      have f1 := hf 1 _ rfl
      have f2 := hf 2 _ rfl
      have f3 := hf 3 _ rfl
      have hy : ∀ j, j < 4 → ∃ y, ys[j]? = some y := fun j hj => ⟨_, List.getElem?_eq_getElem (by rw [hyl]; exact hj)⟩
      obtain ⟨y0, e0⟩ := hy 0 (by decide)
      obtain ⟨y1, e1⟩ := hy 1 (by decide)
      obtain ⟨y2, e2⟩ := hy 2 (by decide)
      obtain ⟨y3, e3⟩ := hy 3 (by decide)
      rw [e0] at f0
      rw [e1] at f1
      rw [e2] at f2
      rw [e3] at f3
      obtain ⟨n0, g0, _⟩ := DataW.trod_int Try.underlying3 f0
      obtain ⟨n1, g1, _⟩ := DataW.trod_int Try.underlying3 f1
      obtain ⟨n2, g2, _⟩ := DataW.trod_int Try.underlying3 f2
      obtain ⟨n3, g3, _⟩ := DataW.trod_int Try.underlying3 f3
      have k0 : (cs'.drop 0).take (Try.prog.cellsOf 3) = [.int .i64 n0] := g0
      have k1 : (cs'.drop 1).take (Try.prog.cellsOf 3) = [.int .i64 n1] := g1
      have k2 : (cs'.drop 2).take (Try.prog.cellsOf 3) = [.int .i64 n2] := g2
      have k3 : (cs'.drop 3).take (Try.prog.cellsOf 3) = [.int .i64 n3] := g3
      rw [cells3] at k0 k1 k2 k3
      refine ⟨⟨n0, n1, n2, n3⟩, fun j hj => ?_⟩
      rw [← Go.Deep.add_add, hat j (by omega)]
      have hj4 : j = 0 ∨ j = 1 ∨ j = 2 ∨ j = 3 := by omega
      rcases hj4 with rfl | rfl | rfl | rfl
      · exact one_of k0
      · exact one_of k1
      · exact one_of k2
      · exact one_of k3
    obtain ⟨f, hf⟩ : ∃ f : Nat → Ti, ∀ i, i < len0 → ∀ j, j < 4 → w.cell? (a.add (i * 4 + j)) = (f i).cells[j]? :=
      ⟨fun i => if h : i < len0 then Classical.choose (each i h) else Ti.zero, fun i hil => by
        dsimp only; rw [dif_pos hil]; exact Classical.choose_spec (each i hil)⟩
    refine ⟨(List.range len0).map f, by simp, ⟨some a, cap0, by simp, fun k t ht => ?_⟩, fun h => by cases h⟩
    have hk : k < len0 := by
      have := (List.getElem?_eq_some_iff.1 ht).1
      simpa using this
    have htk : f k = t := by
      rw [List.getElem?_map, List.getElem?_range hk] at ht
      simpa using ht
    obtain ⟨b, off, spot⟩ := a
    have h0 : w.cell? ((⟨b, off, spot⟩ : Addr).add (0 * 4 + 0)) = some (.int .i64 (f 0).i) := hf 0 (by omega) 0 (by decide)
    have hspot : spot = none := by simpa [Addr.add] using World.cell?_spot h0
    subst hspot
    refine ⟨b, off, rfl, fun j hj => ?_⟩
    have h1 := hf k hk j hj
    rw [htk] at h1
    rw [← h1]
    congr 1
    unfold Addr.add
    split
    · rename_i h2; rw [Nat.add_assoc, h2]; rfl
    · rw [Nat.add_assoc]

end Go.Proofs.Ytnjeoolbnanmiaa
