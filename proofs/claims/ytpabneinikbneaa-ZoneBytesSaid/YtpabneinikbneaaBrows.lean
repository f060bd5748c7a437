/-
  Slices of slices of bytes, as they read; such as came in.
-/
import Derived.Test.YtpabneinikbneaaLsix
import Derived.ProofKit
import Derived.Deep.Matrix
import Derived.ChangeSame
namespace Go.Proofs.Ytpabneinikbneaa
set_option linter.unusedVariables false
set_option linter.unusedSimpArgs false
open Go.RowKit Go.ChangeShapes Go.WideShapes Go.Deep

/-- v is a slice of slices of bytes that are these. -/
def RdBs (w : World) (v : Value) (bss : List (List Nat)) : Prop :=
  ∃ sls, Rd w v sls ∧ sls.length = bss.length ∧ ∀ (i : Nat) (s : Value) (bs : List Nat), sls[i]? = some s → bss[i]? = some bs → Rd w s (bs.map u8v) ∧ ∀ x ∈ bs, x < 256
theorem RdBs.kept {w w' : World} {v : Value} {bss : List (List Nat)} (h : RdBs w v bss) (hb : Below w.heap.size w w') : RdBs w' v bss := by
  obtain ⟨sls, h1, h2, h3⟩ := h
  exact ⟨sls, h1.kept hb, h2, fun i s bs hs hl => ⟨(h3 i s bs hs hl).1.kept hb, (h3 i s bs hs hl).2⟩⟩
theorem rdBs_shape {w : World} {v : Value} {bss : List (List Nat)} (h : RdBs w v bss) : ∃ ao cap, v = .slice ao bss.length cap := by
  obtain ⟨sls, h1, h2, _⟩ := h
  obtain ⟨ao, cap, hv, _⟩ := h1
  exact ⟨ao, cap, by rw [← h2]; exact hv⟩
theorem RdBs.at {w : World} {ao : Option Addr} {n cap : Nat} {bss : List (List Nat)} (h : RdBs w (.slice ao n cap) bss) {k : Nat} {bs : List Nat} (hk : bss[k]? = some bs) :
    ∃ b off sa sc, ao = some ⟨b, off, none⟩ ∧ w.cell? ⟨b, off + k, none⟩ = some (.slice sa bs.length sc) ∧ Rd w (.slice sa bs.length sc) (bs.map u8v) ∧ ∀ x ∈ bs, x < 256 := by
  obtain ⟨sls, h1, h2, h3⟩ := h
  obtain ⟨ao', cap', hv, _, hc⟩ := h1
  simp only [Value.slice.injEq] at hv
  have hkl := (List.getElem?_eq_some_iff.1 hk).1
  obtain ⟨b, off, ha, hcell⟩ := hc (by omega)
  have hks : k < sls.length := by omega
  have hcl := hcell k hks
  obtain ⟨h4, h5⟩ := h3 k sls[k] bs (List.getElem?_eq_getElem hks) hk
  obtain ⟨sa, sc, hs, _⟩ := id h4
  rw [List.length_map] at hs
  rw [List.getD_eq_getElem?_getD, List.getElem?_eq_getElem hks] at hcl
  refine ⟨b, off, sa, sc, hv.1.trans ha, ?_, ?_, h5⟩
  · rw [← hs]; exact hcl
  · rw [← hs]; exact h4

theorem brows_open {H : Type} {enc : TypeId × Value → H} {w : World} {base : Nat} {held : Bool} {fuel : Nat} {a0 : Option Addr} {len0 cap0 : Nat} {x : DataW H × List MemPlace}
    (h : DataW.trod enc Try.prog w base (fun _ => true) held fuel 60 [.slice a0 len0 cap0] = some x) : ∃ bss : List (List Nat), bss.length = len0 ∧ RdBs w (.slice a0 len0 cap0) bss := by
  rcases open_int_rows Try.underlying60 Try.underlying26 Try.underlying5 (by kernel_rfl) (by kernel_rfl) h with ⟨hcs, _⟩ | ⟨a, len, cap, A, L, C, Z, hcs, _, hl, hm, _, hr⟩
  · simp only [List.cons.injEq, Value.slice.injEq, and_true] at hcs
    obtain ⟨rfl, rfl, rfl⟩ := hcs
    exact ⟨[], rfl, [], Rd.nil w, rfl, fun i s bs h1 => by simp at h1⟩
  · simp only [List.cons.injEq, Value.slice.injEq, and_true] at hcs
    obtain ⟨rfl, rfl, rfl⟩ := hcs
    have each : ∀ r, r < len0 → ∃ us : List Nat, us.length = L r ∧ Rd w (.slice (A r) (L r) (C r)) (us.map u8v) ∧ ∀ x ∈ us, x < 256 := fun r hrl => by
      obtain ⟨h1, h2, h3, h4, h5, h6, h7⟩ := hr r (by omega)
      have hrow : IsRow .u8 w (A r) (L r) (C r) (Z r) := by
        cases hA : A r with
        | none =>
          have hc := h6 hA
          exact .inl ⟨rfl, by omega, hc, List.length_eq_zero_iff.1 (by rw [h4, hc])⟩
        | some a' => exact .inr ⟨a', rfl, h2, h3, h4, fun i hi => (h7 a' hA).2 i (by rw [← h4]; exact hi), h5⟩
      exact isRow_u8 hrow
    obtain ⟨f, hf⟩ := choose_lt each
    refine ⟨(List.range len0).map f, by simp, (List.range len0).map fun r => .slice (A r) (L r) (C r), ⟨some a, cap0, by simp, ⟨(fun h => by cases h), by simpa using hl⟩, fun hp => ?_⟩, by simp, fun i s bs h1 h2 => ?_⟩
    · have hp0 : 0 < len0 := by simpa using hp
      obtain ⟨b, off, spot⟩ := a
      have hspot : spot = none := by
        have := World.cell?_spot (hr 0 (by omega)).1
        simpa [Addr.add] using this
      subst hspot
      refine ⟨b, off, rfl, fun i hi => ?_⟩
      have hi' : i < len0 := by simpa using hi
      have h1 := (hr i (by omega)).1
      have e : (⟨b, off, none⟩ : Addr).add i = ⟨b, off + i, none⟩ := by simp [Addr.add]
      rw [e] at h1
      rw [h1, List.getD_eq_getElem?_getD, List.getElem?_map, List.getElem?_range hi']
      rfl
    · have hi : i < len0 := by
        have := (List.getElem?_eq_some_iff.1 h2).1
        simpa using this
      rw [List.getElem?_map, List.getElem?_range hi] at h1 h2
      cases h1
      cases h2
      obtain ⟨h3, h4, h5⟩ := hf i hi
      exact ⟨h4, h5⟩

end Go.Proofs.Ytpabneinikbneaa
