/-
  A slice of slices of bytes that came in, as the frame tells of it, reads as a row of rows of bytes.
-/
import Derived.Test.YtjcmekhamohbnaaBcola
import Derived.Test.YtjcmekhamohbnaaLone
import Derived.ProofKit
import Derived.Deep.Slices
import Derived.ChangeSame
namespace Go.Proofs.Ytjcmekhamohbnaa.Bc
set_option linter.unusedVariables false
open Go.RowKit Go.ChangeShapes Go.WideShapes Go.Deep

theorem rows_open {H : Type} {enc : TypeId × Value → H} {w : World} {base : Nat} {spare : Nat → Bool} {held : Bool} {fuel : Nat} {a0 : Option Addr} {len0 cap0 : Nat} {x : DataW H × List MemPlace}
    (h : DataW.trod enc Try.prog w base spare held fuel 22 [.slice a0 len0 cap0] = some x) : ∃ ps : Row, ps.length = len0 ∧ Rd w (.slice a0 len0 cap0) (vs ps) ∧ Els w ps ∧ ∀ y ∈ xs ps, ∀ a ∈ y, a < 256 := by
  rcases open_slice1 Try.underlying22 (by kernel_rfl) h with ⟨hcs, _⟩ | ⟨a, len, cap, m, n, V, D, Pl, hcs, _, hl, hm, hmm, _, hi⟩
  · simp only [List.cons.injEq, Value.slice.injEq, and_true] at hcs
    obtain ⟨rfl, rfl, rfl⟩ := hcs
    exact ⟨[], rfl, Rd.nil _, (fun p hp => by simp at hp), fun y hy => by simp [xs] at hy⟩
  · simp only [List.cons.injEq, Value.slice.injEq, and_true] at hcs
    obtain ⟨rfl, rfl, rfl⟩ := hcs
    have hlm : len0 ≤ m := by rw [hmm]; split <;> omega
    have each : ∀ i, i < len0 → ∃ y : By, Rd w (V i) (y.map u8v) ∧ ∀ b ∈ y, b < 256 := fun i hil => by
      obtain ⟨_, ht⟩ := hi i (by omega)
      rcases open_ints Try.underlying24 Try.underlying5 (by kernel_rfl) ht with ⟨hv, _⟩ | ⟨a', l', c', zs, hv, _, hl', hm', hz', _, hcell, hwz⟩
      · simp only [List.cons.injEq, and_true] at hv
        rw [hv]
        exact ⟨[], Rd.nil _, fun b hb => by simp at hb⟩
      · simp only [List.cons.injEq, and_true] at hv
        rw [hv]
        have hz2 : l' ≤ zs.length := by rw [hz']; split <;> omega
        refine ⟨(zs.take l').map Int.toNat, ?_, fun b hb => ?_⟩
        · have hlen : ((((zs.take l').map Int.toNat)).map u8v).length = l' := by simp; omega
          refine ⟨some a', c', by rw [hlen], ⟨(fun h => by cases h), by rw [hlen]; exact hl'⟩, fun hp => ?_⟩
          rw [hlen] at hp ⊢
          obtain ⟨b, off, spot⟩ := a'
          have h0 := hcell 0 (by omega)
          have hspot : spot = none := by simpa [Addr.add] using World.cell?_spot h0
          subst hspot
          refine ⟨b, off, rfl, fun k hk => ?_⟩
          have h1 := hcell k (by omega)
          have e : (⟨b, off, none⟩ : Addr).add k = ⟨b, off + k, none⟩ := by simp [Addr.add]
          rw [e] at h1
          have hkz : k < zs.length := by omega
          have hw1 := wf_u8 (hwz _ (List.getElem_mem hkz))
          rw [h1]
          simp only [List.getD_eq_getElem?_getD, List.getElem?_map, List.getElem?_take, if_pos hk, List.getElem?_eq_getElem hkz, Option.map_some, Option.getD_some]
          congr 2
          omega
        · obtain ⟨z, hz, rfl⟩ := List.mem_map.1 hb
          have := wf_u8 (hwz z (List.mem_of_mem_take hz))
          omega
    obtain ⟨f, hf⟩ : ∃ f : Nat → By, ∀ i, i < len0 → Rd w (V i) ((f i).map u8v) ∧ ∀ b ∈ f i, b < 256 :=
      ⟨fun i => if h : i < len0 then Classical.choose (each i h) else [], fun i hil => by
        dsimp only; rw [dif_pos hil]; exact Classical.choose_spec (each i hil)⟩
    refine ⟨(List.range len0).map fun i => (V i, f i), by simp, ?_, fun p hp => ?_, fun y hy => ?_⟩
    · have hlen : (vs ((List.range len0).map fun i => (V i, f i))).length = len0 := by simp [vs]
      refine ⟨some a, cap0, by rw [hlen], ⟨(fun h => by cases h), by rw [hlen]; exact hl⟩, fun hp => ?_⟩
      rw [hlen] at hp ⊢
      obtain ⟨b, off, spot⟩ := a
      have h0 := (hi 0 (by omega)).1
      have hspot : spot = none := by simpa [Addr.add] using World.cell?_spot h0
      subst hspot
      refine ⟨b, off, rfl, fun k hk => ?_⟩
      have h1 := (hi k (by omega)).1
      have e : (⟨b, off, none⟩ : Addr).add k = ⟨b, off + k, none⟩ := by simp [Addr.add]
      rw [e] at h1
      rw [h1]
      unfold vs
      simp only [List.getD_eq_getElem?_getD, List.getElem?_map, List.map_map, List.getElem?_range hk, Option.map_some, Option.getD_some, Function.comp]
    · obtain ⟨i, hi2, rfl⟩ := List.mem_map.1 hp
      exact (hf i (List.mem_range.1 hi2)).1
    · unfold xs at hy
      rw [List.map_map] at hy
      obtain ⟨i, hi2, rfl⟩ := List.mem_map.1 hy
      exact (hf i (List.mem_range.1 hi2)).2

end Go.Proofs.Ytjcmekhamohbnaa.Bc
