import Derived.Test.YtnfjdoeemnhkbaaFrAp
import Derived.Test.YtnfjdoeemnhkbaaRefk
import Derived.Test.YtnfjdoeemnhkbaaLseven
import Derived.Deep.CutBlock
import Derived.Deep.DeepCutAuto
import Derived.Deep.RegionLaw
set_option linter.unusedVariables false
set_option linter.unusedSimpArgs false
namespace Go.Proofs.Ytnfjdoeemnhkbaa
open Go.RowKit
open _root_.List renaming getElem?_eq_getElem -> Qa
structure Zv where
 n : Int
 lo : Vc × Value
 hi : Vc × Value
def cellsZ (z : Zv) : List Value := .int .i64 z.n :: (cellsV z.lo ++ cellsV z.hi)
def OkZ (w : World) (z : Zv) : Prop := OkV w z.lo ∧ OkV w z.hi
theorem OkZ.kept {w w' : World} {z : Zv} (h : OkZ w z) (hb : Below w.heap.size w w') : OkZ w' z := ⟨h.1.kept hb, h.2.kept hb⟩
def RdRs (w : World) (v : Value) (L : List (List (Vc × Value))) : Prop :=
 ∃ sls, Rd w v sls ∧ sls.length = L.length ∧ ∀ (i : Nat) (s : Value) (l : List (Vc × Value)), sls[i]? = some s -> L[i]? = some l -> RdP w s l
theorem RdRs.kept {w w' : World} {v : Value} {L : List (List (Vc × Value))} (h : RdRs w v L) (hb : Below w.heap.size w w') : RdRs w' v L := by
 obtain ⟨sls, h1, h2, h3⟩ := h
 exact ⟨sls, h1.kept hb, h2, fun i s l hs hl => (h3 i s l hs hl).kept hb⟩
theorem RdRs.at {w : World} {ao : Option Addr} {n cap : Nat} {L : List (List (Vc × Value))} (h : RdRs w (.slice ao n cap) L) {k : Nat} {l : List (Vc × Value)} (hk : L[k]? = some l) :
  ∃ b off sa sc, ao = some ⟨b, off, none⟩ ∧ w.cell? ⟨b, off + k, none⟩ = some (.slice sa l.length sc) ∧ RdP w (.slice sa l.length sc) l := by
 obtain ⟨sls, h1, h2, h3⟩ := h
 obtain ⟨ao', cap', hv, _, hc⟩ := h1
 cases hv
 have hlt : k < sls.length := by rw [h2]; exact (List.getElem?_eq_some_iff.1 hk).1
 obtain ⟨b, off, rfl, hcell⟩ := hc (by omega)
 have h4 := h3 k _ l (Qa hlt) hk
 obtain ⟨sa, sc, h5⟩ := zBe h4
 refine ⟨b, off, sa, sc, rfl, ?_, h5 ▸ h4⟩
 rw [hcell k hlt, List.getD_eq_getElem?_getD, Qa hlt, <- h5]
 rfl
structure Zt where
 n : Int
 lo : Vc
 hi : Vc
def Zv.t (z : Zv) : Zt := ⟨z.n, z.lo.1, z.hi.1⟩
def OkZA (K : Nat) (w : World) (z : Zv) : Prop := (RdB K w z.lo.2 z.lo.1.b ∧ ∀ x ∈ z.lo.1.b, x < 256) ∧ (RdB K w z.hi.2 z.hi.1.b ∧ ∀ x ∈ z.hi.1.b, x < 256)
theorem OkZA.above {K K0 : Nat} {w w' : World} {z : Zv} (h : OkZA K w z) (ha : Above K w w') (hk : K0 <= K) : OkZA K0 w' z := ⟨⟨h.1.1.above ha hk, h.1.2⟩, ⟨h.2.1.above ha hk, h.2.2⟩⟩
theorem OkZA.ok {K : Nat} {w : World} {z : Zv} (h : OkZA K w z) : OkZ w z := ⟨⟨h.1.1.rd (Above.refl _ _), h.1.2⟩, ⟨h.2.1.rd (Above.refl _ _), h.2.2⟩⟩
def RdZA (K : Nat) (w : World) (v : Value) (zs : List Zv) : Prop := RdSK K w 9 v (zs.map cellsZ) ∧ ∀ z ∈ zs, OkZA K w z
def RdZ (w : World) (v : Value) (ts : List Zt) : Prop := ∃ zs : List Zv, zs.map Zv.t = ts ∧ RdS w 9 v (zs.map cellsZ) ∧ ∀ z ∈ zs, OkZ w z
theorem RdZA.rd {K : Nat} {w : World} {v : Value} {zs : List Zv} (h : RdZA K w v zs) : RdZ w v (zs.map Zv.t) := ⟨zs, rfl, h.1.rd, fun z hz => (h.2 z hz).ok⟩
theorem RdZ.kept {w w' : World} {v : Value} {ts : List Zt} (h : RdZ w v ts) (hb : Below w.heap.size w w') : RdZ w' v ts := by
 obtain ⟨zs, h1, h2, h3⟩ := h
 exact ⟨zs, h1, h2.kept hb, fun z hz => (h3 z hz).kept hb⟩
end Go.Proofs.Ytnfjdoeemnhkbaa
