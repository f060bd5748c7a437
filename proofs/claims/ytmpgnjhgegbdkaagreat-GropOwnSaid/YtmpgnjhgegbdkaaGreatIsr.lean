/-
  Slices that came in, as the frames tell of them, read as lists.
-/
import Derived.Test.YtmpgnjhgegbdkaaGreatLone
set_option linter.unusedVariables false
namespace Go.Proofs.YtmpgnjhgegbdkaaGreat
open Go.RowKit
open _root_.List renaming length_take -> Qa
def IsRow (k : IntKind) (w : World) (a : Option Addr) (len cap : Nat) (zs : List Int) : Prop :=
 (a = none ∧ len = 0 ∧ cap = 0 ∧ zs = []) ∨
 ∃ x, a = some x ∧ len <= cap ∧ cap <= maxLen ∧ zs.length = cap ∧ (∀ i, i < zs.length -> w.cell? (x.add i) = some (.int k (zs.getD i 0))) ∧ ∀ n ∈ zs, (Lit.int k n).wf = true
theorem isRow_rd {k : IntKind} {w : World} {a : Option Addr} {len cap : Nat} {zs : List Int} (h : IsRow k w a len cap zs) :
  ∃ xs : List Int, xs.length = len ∧ Rd w (.slice a len cap) (xs.map (Value.int k)) ∧ ∀ n ∈ xs, (Lit.int k n).wf = true := by
 rcases h with ⟨rfl, rfl, rfl, rfl⟩ | ⟨x, rfl, hl, hm, hz, hc, hw⟩
 ·exact ⟨[], rfl, Rd.nil _, fun n hn => by cases hn⟩
 ·refine ⟨zs.take len, by rw [Qa]; omega, ?_, fun n hn => hw n (List.mem_of_mem_take hn)⟩
  have hl2 : ((zs.take len).map (Value.int k)).length = len := by rw [List.length_map, Qa]; omega
  refine ⟨some x, cap, by rw [hl2], ⟨(fun h => by cases h), by rw [hl2]; exact hl⟩, fun hp => ?_⟩
  rw [hl2] at hp ⊢
  obtain ⟨b, off, spot⟩ := x
  have h0 := hc 0 (by omega)
  have hspot : spot = none := by simpa [Addr.add] using World.cell?_spot h0
  subst hspot
  refine ⟨b, off, rfl, fun i hi => ?_⟩
  have h1 := hc i (by omega)
  have e : (⟨b, off, none⟩ : Addr).add i = ⟨b, off + i, none⟩ := by simp [Addr.add]
  rw [e] at h1
  rw [h1]
  simp only [List.getD_eq_getElem?_getD, List.getElem?_map, List.getElem?_take, if_pos hi, List.getElem?_eq_getElem (show i < zs.length by omega)]
  rfl
end Go.Proofs.YtmpgnjhgegbdkaaGreat
