/-
  What the walks stand on.
-/
import Derived.Test.YtlkjdclhgmkndaaRows
import Derived.Test.YtlkjdclhgmkndaaWorld
import Derived.Test.YtlkjdclhgmkndaaIsRow
import Derived.WalkSpells
import Derived.WalkLawsBesides
import Derived.BigQuiet
import Derived.IntWalk
import Derived.Lib.Hide
import Derived.OwnWalk
import Derived.Deep.RegionHeld3
import Derived.Deep.AppendLies
import Derived.Deep.RegionLaw
import Derived.BigRegion
import Derived.RegionTactic
import Derived.Shelf.Slices.Clone
import Derived.StillTactics
import Derived.Laws.Pointers
namespace Go.Proofs.Ytlkjdclhgmkndaa
set_option linter.unusedVariables false
open Go.RowKit


theorem own_base {w : World} {B : Nat} {E : TypeId} {size n : Nat} {v : Value} {xs : List Value} (h : w.ownsRow B E size v n xs) : ∀ k, v.ownBlock = some k → B ≤ k := by
  intro k hk
  rcases h.2 with ⟨rfl, _⟩ | ⟨g, cap, cur, rfl, hbg, _⟩
  · cases hk
  · have h2 : g = k := by simpa [Value.ownBlock] using hk
    omega

theorem rdz_cells {w : World} {ao : Option Addr} {len cap : Nat} {xs : List Int} (h : Rd w (.slice ao len cap) (xs.map (Value.int .i64))) :
    len = xs.length ∧ (0 < len → ∃ b off, ao = some ⟨b, off, none⟩ ∧ ∀ i, i < len → w.cell? ⟨b, off + i, none⟩ = some (.int .i64 (xs.getD i 0))) := by
  obtain ⟨ao', cap', hv, _, hc⟩ := h
  simp only [List.length_map, Value.slice.injEq] at hv hc
  obtain ⟨rfl, hl, rfl⟩ := hv
  refine ⟨hl, fun hp => ?_⟩
  obtain ⟨b, off, ha, hcell⟩ := hc (by omega)
  refine ⟨b, off, ha, fun i hi => ?_⟩
  have := hcell i (by omega)
  rw [this, List.getD_eq_getElem?_getD, List.getElem?_map, List.getD_eq_getElem?_getD, List.getElem?_eq_getElem (show i < xs.length by omega)]
  rfl

theorem and_some (a M : Int) (m : Nat) (hM : M = (m : Int)) (hm : m ≤ 1000000) : ∃ c : Nat, bits .and .i64 a M = (c : Int) ∧ c ≤ m := by
  subst hM
  have h : bits .and .i64 a (m : Int) = IntKind.i64.wrap ((BitVec.ofInt 64 a &&& BitVec.ofInt 64 (m : Int)).toNat : Int) := rfl
  have h1 : (BitVec.ofInt 64 a &&& BitVec.ofInt 64 (m : Int)).toNat ≤ m := by
    rw [BitVec.toNat_and]
    refine Nat.le_trans Nat.and_le_right ?_
    rw [BitVec.ofInt_natCast, BitVec.toNat_ofNat]
    exact Nat.mod_le _ _
  refine ⟨(BitVec.ofInt 64 a &&& BitVec.ofInt 64 (m : Int)).toNat, ?_, h1⟩
  rw [h, IntWalk.i64_in _ (by omega)]

theorem below_own_any {w a b : World} {E : TypeId} {sz : Nat} {v : Value} {n : Nat} {xs : List Value} (hB : Below w.heap.size w a) (HO : a.ownsRow w.heap.size E sz v n xs) (hg : a.grownBy b v.ownBlock) : Below w.heap.size w b :=
  hB.grown hg hB.size (own_base HO)

end Go.Proofs.Ytlkjdclhgmkndaa
