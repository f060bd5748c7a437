/-
  Contract of zone.ofCol.
-/
import Derived.Test.YtnfjdoeemnhkbaaZwid
import Derived.Deep.RegionLaw
namespace Go.Proofs.Ytnfjdoeemnhkbaa
set_option linter.unusedVariables false
set_option linter.unusedSimpArgs false
open Go.RowKit

/-- v is a slice of rows that read as these. -/
def RdRs (w : World) (v : Value) (L : List (List (Vc × Value))) : Prop :=
  ∃ sls, Rd w v sls ∧ sls.length = L.length ∧ ∀ (i : Nat) (s : Value) (l : List (Vc × Value)), sls[i]? = some s → L[i]? = some l → RdP w s l
theorem RdRs.kept {w w' : World} {v : Value} {L : List (List (Vc × Value))} (h : RdRs w v L) (hb : Below w.heap.size w w') : RdRs w' v L := by
  obtain ⟨sls, h1, h2, h3⟩ := h
  exact ⟨sls, h1.kept hb, h2, fun i s l hs hl => (h3 i s l hs hl).kept hb⟩
theorem rdRs_shape {w : World} {v : Value} {L : List (List (Vc × Value))} (h : RdRs w v L) : ∃ ao cap, v = .slice ao L.length cap := by
  obtain ⟨sls, h1, h2, _⟩ := h
  obtain ⟨ao, cap, hv, _⟩ := h1
  exact ⟨ao, cap, by rw [← h2]; exact hv⟩
theorem RdRs.at {w : World} {ao : Option Addr} {n cap : Nat} {L : List (List (Vc × Value))} (h : RdRs w (.slice ao n cap) L) {k : Nat} {l : List (Vc × Value)} (hk : L[k]? = some l) :
    ∃ b off sa sc, ao = some ⟨b, off, none⟩ ∧ w.cell? ⟨b, off + k, none⟩ = some (.slice sa l.length sc) ∧ RdP w (.slice sa l.length sc) l := by
  obtain ⟨sls, h1, h2, h3⟩ := h
  obtain ⟨ao', cap', hv, _, hc⟩ := h1
  cases hv
  have hlt : k < sls.length := by rw [h2]; exact (List.getElem?_eq_some_iff.1 hk).1
  obtain ⟨b, off, rfl, hcell⟩ := hc (by omega)
  have h4 := h3 k _ l (List.getElem?_eq_getElem hlt) hk
  obtain ⟨sa, sc, h5⟩ := rdP_shape h4
  refine ⟨b, off, sa, sc, rfl, ?_, h5 ▸ h4⟩
  rw [hcell k hlt, List.getD_eq_getElem?_getD, List.getElem?_eq_getElem hlt, ← h5]
  rfl

/-- From where to where: how many nulls, the least, the greatest. -/
structure Zt where
  n : Int
  lo : Vc
  hi : Vc
def Zv.t (z : Zv) : Zt := ⟨z.n, z.lo.1, z.hi.1⟩
def widenT (z : Zt) (v : Vc) : Zt := if v.u = true then ⟨z.n + 1, z.lo, z.hi⟩ else ⟨z.n, if z.lo.u = true ∨ cmpT v z.lo < 0 then v else z.lo, if z.hi.u = true ∨ 0 < cmpT v z.hi then v else z.hi⟩
theorem widen_t (z : Zv) (v : Vc × Value) : (widen z v).t = widenT z.t v.1 := by
  unfold widen widenT Zv.t loW hiW
  split
  · rfl
  · simp only
    congr 1
    · split <;> rfl
    · split <;> rfl
def stepV (c : Nat) (z : Zv) (r : List (Vc × Value)) : Zv := match r[c]? with
  | some v => widen z v
  | none => z
def stepT (c : Nat) (z : Zt) (r : List Vc) : Zt := match r[c]? with
  | some v => widenT z v
  | none => z
theorem step_t (c : Nat) (z : Zv) (r : List (Vc × Value)) : (stepV c z r).t = stepT c z.t (r.map Prod.fst) := by
  unfold stepV stepT
  rw [List.getElem?_map]
  cases r[c]? with
  | none => rfl
  | some v => exact widen_t z v
def noneV (kind : Int) : Vc := ⟨true, kind, 0, []⟩
def zone0 (kind : Int) : Zt := ⟨0, noneV kind, noneV kind⟩
/-- The zone of a column. -/
def zoneT (kind : Int) (c : Nat) (rows : List (List Vc)) : Zt := rows.foldl (stepT c) (zone0 kind)
def zoneV0 (kind : Int) : Zv := ⟨0, (noneV kind, .slice none 0 0), (noneV kind, .slice none 0 0)⟩
def zoneV (kind : Int) (c : Nat) (L : List (List (Vc × Value))) : Zv := L.foldl (stepV c) (zoneV0 kind)
theorem zoneV_t (kind : Int) (c : Nat) (L : List (List (Vc × Value))) : (zoneV kind c L).t = zoneT kind c (L.map fun l => l.map Prod.fst) := by
  have h : ∀ (L : List (List (Vc × Value))) (z : Zv), (L.foldl (stepV c) z).t = (L.map fun l => l.map Prod.fst).foldl (stepT c) z.t := by
    intro L
    induction L with
    | nil => intro z; rfl
    | cons x r ih => intro z; rw [List.foldl_cons, ih, step_t, List.map_cons, List.foldl_cons]
  exact h L _
theorem zoneV_succ {kind : Int} {c : Nat} {L : List (List (Vc × Value))} {q : Nat} {l : List (Vc × Value)} (h : L[q]? = some l) : zoneV kind c (L.take (q + 1)) = stepV c (zoneV kind c (L.take q)) l := by
  unfold zoneV
  rw [List.take_add_one, h, List.foldl_append]
  rfl
/-- Its values are of the rows. -/
theorem zoneV_all {Q : Vc × Value → Prop} {kind : Int} {c : Nat} (h0 : Q (noneV kind, .slice none 0 0)) : ∀ (L : List (List (Vc × Value))), (∀ l ∈ L, ∀ t ∈ l, Q t) → Q (zoneV kind c L).lo ∧ Q (zoneV kind c L).hi ∧ 0 ≤ (zoneV kind c L).n ∧ (zoneV kind c L).n ≤ L.length := by
  have h : ∀ (L : List (List (Vc × Value))) (z : Zv) (k : Nat), (∀ l ∈ L, ∀ t ∈ l, Q t) → Q z.lo → Q z.hi → 0 ≤ z.n → z.n ≤ k → Q (L.foldl (stepV c) z).lo ∧ Q (L.foldl (stepV c) z).hi ∧ 0 ≤ (L.foldl (stepV c) z).n ∧ (L.foldl (stepV c) z).n ≤ k + L.length := by
    intro L
    induction L with
    | nil => intro z k _ h1 h2 h3 h4; exact ⟨h1, h2, h3, by simpa using h4⟩
    | cons x r ih =>
      intro z k hl h1 h2 h3 h4
      rw [List.foldl_cons]
      have hx : Q (stepV c z x).lo ∧ Q (stepV c z x).hi ∧ 0 ≤ (stepV c z x).n ∧ (stepV c z x).n ≤ ((k + 1 : Nat) : Int) := by
        unfold stepV
        cases hc : x[c]? with
        | none => exact ⟨h1, h2, h3, by show z.n ≤ _; omega⟩
        | some v =>
          have hv := hl x List.mem_cons_self v (List.mem_of_getElem? hc)
          simp only
          unfold widen
          split
          · exact ⟨h1, h2, by show 0 ≤ z.n + 1; omega, by show z.n + 1 ≤ _; omega⟩
          · refine ⟨?_, ?_, h3, by show z.n ≤ _; omega⟩
            · show Q (loW z.lo v)
              unfold loW
              split
              · exact hv
              · exact h1
            · show Q (hiW z.hi v)
              unfold hiW
              split
              · exact hv
              · exact h2
      have := ih _ (k + 1) (fun l h => hl l (List.mem_cons_of_mem _ h)) hx.1 hx.2.1 hx.2.2.1 hx.2.2.2
      rw [List.length_cons]
      exact ⟨this.1, this.2.1, this.2.2.1, by have := this.2.2.2; omega⟩
  intro L hl
  have := h L (zoneV0 kind) 0 hl h0 h0 (by show (0 : Int) ≤ 0; omega) (by show (0 : Int) ≤ 0; omega)
  exact ⟨this.1, this.2.1, this.2.2.1, by have := this.2.2.2; unfold zoneV; omega⟩

theorem set_far9 (w : World) (X Y : Nat) (b0 b1 b2 b3 b4 b5 b6 b7 b8 : Value) (h : Y ≠ X) : (((((((((w.setCell ⟨X, 0, none⟩ b0).setCell ⟨X, 1, none⟩ b1).setCell ⟨X, 2, none⟩ b2).setCell ⟨X, 3, none⟩ b3).setCell ⟨X, 4, none⟩ b4).setCell ⟨X, 5, none⟩ b5).setCell ⟨X, 6, none⟩ b6).setCell ⟨X, 7, none⟩ b7).setCell ⟨X, 8, none⟩ b8).heap[Y]? = w.heap[Y]? := by
  rw [set_far _ _ _ _ _ _ _ _ _ _ _ h, set_far _ _ _ _ _ _ _ _ _ _ _ h, heap_setCell_other _ _ _ _ h]
theorem sets9 {w wx : World} {B X : Nat} (h : Below B w wx) (hx : B ≤ X) (b0 b1 b2 b3 b4 b5 b6 b7 b8 : Value) : Below B w (((((((((wx.setCell ⟨X, 0, none⟩ b0).setCell ⟨X, 1, none⟩ b1).setCell ⟨X, 2, none⟩ b2).setCell ⟨X, 3, none⟩ b3).setCell ⟨X, 4, none⟩ b4).setCell ⟨X, 5, none⟩ b5).setCell ⟨X, 6, none⟩ b6).setCell ⟨X, 7, none⟩ b7).setCell ⟨X, 8, none⟩ b8) :=
  sets4 (sets4 (h.setCell (p := ⟨X, 0, none⟩) hx b0) hx _ _ _ _ _ _ _ _) hx _ _ _ _ _ _ _ _

end Go.Proofs.Ytnfjdoeemnhkbaa
