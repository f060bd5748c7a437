/-
  What DeltOwn's loops keep (plain): rows that are written into.
-/
import Derived.Test.YteloepccjoikdaaDltd
namespace Go.Proofs.Yteloepccjoikdaa
set_option linter.unusedVariables false
set_option linter.unusedSimpArgs false
open Go.RowKit

theorem own_same {w w' : World} {K : Nat} {E : TypeId} {sz n : Nat} {v : Value} {xs : List Value} (h : w.ownsRow K E sz v n xs) (hs : ∀ g, v.ownBlock = some g → w'.heap[g]? = w.heap[g]?) : w'.ownsRow K E sz v n xs := by
  rcases h.2 with ⟨h1, h2⟩ | ⟨g, cap, cur, h1, h2, h3, h4⟩
  · exact ⟨h.1, .inl ⟨h1, h2⟩⟩
  · exact ⟨h.1, .inr ⟨g, cap, cur, h1, h2, (hs g (by rw [h1]; rfl)).trans h3, h4⟩⟩
/-- A block of so many cells of one type. -/
def Blk (w : World) (b : Nat) (T : TypeId) (N : Nat) : Prop := ∃ cur : Array Value, w.heap[b]? = some (.cells cur T (0, 0)) ∧ N ≤ cur.size
theorem Blk.set {w : World} {b : Nat} {T : TypeId} {N : Nat} (h : Blk w b T N) (c i : Nat) (v : Value) : Blk (w.setCell ⟨c, i, none⟩ v) b T N := by
  obtain ⟨cur, h1, h2⟩ := h
  by_cases e : b = c
  · subst e
    exact ⟨_, heap_setCell_same w b i _ _ v h1, by simpa using h2⟩
  · exact ⟨cur, (heap_setCell_other w ⟨c, i, none⟩ b v e).trans h1, h2⟩
theorem Blk.at {w : World} {b : Nat} {T : TypeId} {N : Nat} (h : Blk w b T N) {i : Nat} (hi : i < N) : (∃ u, w.cell? ⟨b, i, none⟩ = some u) ∧ w.frozen? ⟨b, i, none⟩ = false := by
  obtain ⟨cur, h1, h2⟩ := h
  refine ⟨⟨cur[i], ?_⟩, frozen_of_row w b i _ _ h1⟩
  rw [cell_of_row w b i _ _ _ h1]
  exact Array.getElem?_eq_getElem (by omega)
theorem own_blk {w : World} {K g : Nat} {E : TypeId} {sz n cap : Nat} {xs : List Value} (h : w.ownsRow K E sz (.slice (some ⟨g, 0, none⟩) n cap) n xs) : Blk w g E (n * sz) := by
  rcases h.2 with ⟨h1, h2⟩ | ⟨g', cap', cur, h1, h2, h3, h4⟩
  · cases h1
  · simp only [Value.slice.injEq, Option.some.injEq, Addr.mk.injEq] at h1
    obtain ⟨⟨rfl, _⟩, _, rfl⟩ := h1
    refine ⟨cur, h3, ?_⟩
    have hl := h.1
    rcases Nat.lt_or_ge cur.size (n * sz) with hlt | hge
    · exfalso
      have h5 := h.cellAt cur.size (by omega)
      rw [cell_of_row w g _ _ _ _ h3, Array.getElem?_eq_none (Nat.le_refl _), List.getElem?_eq_getElem (by omega)] at h5
      cases h5
    · exact hge

/-- What the law's second loop keeps: the version's block, its row's, its values'. -/
structure L2 (K : Nat) (w0 : World) (vb rb : Nat) (l : List (Vc × Value)) (row : Array Value) (wr : World) : Prop where
  vb : wr.heap[vb]? = some (.cells row 36 (0, 0))
  rw : ∃ cur : Array Value, wr.heap[rb]? = some (.cells cur 40 (0, 0)) ∧ ∀ (k : Nat) (t : Vc × Value), l[k]? = some t → (∃ m, cur[k * 4 + 2]? = some (.int .i64 m)) ∧ cur[k * 4 + 3]? = some t.2
  bt : ∀ t ∈ l, 0 < t.1.b.length → ∃ gb c, t.2 = .slice (some ⟨gb, 0, none⟩) t.1.b.length c ∧ K ≤ gb ∧ ∃ cur : Array Value, wr.heap[gb]? = some (.cells cur 5 (0, 0)) ∧ ∀ i, i < t.1.b.length → ∃ m, cur[i]? = some (.int .u8 m)
  kr : K ≤ rb
  bel : Below K w0 wr
theorem L2.int {K : Nat} {w0 wr : World} {vb rb : Nat} {l : List (Vc × Value)} {row : Array Value} (h : L2 K w0 vb rb l row wr) (k : Nat) (m : Int) (hk : k < l.length) : L2 K w0 vb rb l row (wr.setCell ⟨rb, k * 4 + 2, none⟩ (.int .i64 m)) := by
  obtain ⟨hv, ⟨cur, hr, hc⟩, hb, hk1, hbel⟩ := h
  have hne : vb ≠ rb := by
    intro e
    subst e
    rw [hv] at hr
    simp at hr
  refine ⟨(heap_setCell_other wr ⟨rb, k * 4 + 2, none⟩ vb _ hne).trans hv, ⟨_, heap_setCell_same wr rb _ _ _ _ hr, fun j t ht => ?_⟩, fun t ht hp => ?_, hk1, hbel.setCell (p := ⟨rb, k * 4 + 2, none⟩) hk1 _⟩
  · obtain ⟨⟨m', h1⟩, h2⟩ := hc j t ht
    refine ⟨?_, ?_⟩
    · by_cases e : k * 4 + 2 = j * 4 + 2
      · refine ⟨m, ?_⟩
        rw [← e, Array.getElem?_setIfInBounds_self_of_lt]
        rw [e]
        exact (Array.getElem?_eq_some_iff.1 h1).1
      · exact ⟨m', by rw [Array.getElem?_setIfInBounds_ne e]; exact h1⟩
    · rw [Array.getElem?_setIfInBounds_ne (by omega)]
      exact h2
  · obtain ⟨gb, c, e1, e2, cur', e3, e4⟩ := hb t ht hp
    refine ⟨gb, c, e1, e2, cur', ?_, e4⟩
    have : gb ≠ rb := by
      intro e
      subst e
      rw [e3] at hr
      simp at hr
    exact (heap_setCell_other wr ⟨rb, k * 4 + 2, none⟩ gb _ this).trans e3
theorem L2.byte {K : Nat} {w0 wr : World} {vb rb : Nat} {l : List (Vc × Value)} {row : Array Value} (h : L2 K w0 vb rb l row wr) {gb c i : Nat} {t : Vc × Value} (ht : t ∈ l) (hi : i < t.1.b.length) (hs : t.2 = .slice (some ⟨gb, 0, none⟩) t.1.b.length c) (m : Int) : L2 K w0 vb rb l row (wr.setCell ⟨gb, i, none⟩ (.int .u8 m)) := by
  obtain ⟨hv, ⟨cur, hr, hc⟩, hb, hk1, hbel⟩ := h
  obtain ⟨gb', c', e1, e2, cu, e3, e4⟩ := hb t ht (by omega)
  rw [hs] at e1
  simp only [Value.slice.injEq, Option.some.injEq, Addr.mk.injEq] at e1
  obtain ⟨⟨rfl, _⟩, _, rfl⟩ := e1
  have hne : vb ≠ gb := by
    intro e
    subst e
    rw [hv] at e3
    simp at e3
  have hne2 : rb ≠ gb := by
    intro e
    subst e
    rw [hr] at e3
    simp at e3
  refine ⟨(heap_setCell_other wr ⟨gb, i, none⟩ vb _ hne).trans hv, ⟨cur, (heap_setCell_other wr ⟨gb, i, none⟩ rb _ hne2).trans hr, hc⟩, fun t' ht' hp' => ?_, hk1, hbel.setCell (p := ⟨gb, i, none⟩) e2 _⟩
  obtain ⟨g2, c2, f1, f2, cu2, f3, f4⟩ := hb t' ht' hp'
  by_cases e : g2 = gb
  · subst e
    rw [e3] at f3
    simp only [Option.some.injEq, Obj.cells.injEq] at f3
    obtain ⟨rfl, _⟩ := f3
    refine ⟨g2, c2, f1, f2, _, heap_setCell_same wr g2 i _ _ _ e3, fun j hj => ?_⟩
    obtain ⟨m', h1⟩ := f4 j hj
    by_cases ej : i = j
    · subst ej
      exact ⟨m, by rw [Array.getElem?_setIfInBounds_self_of_lt (Array.getElem?_eq_some_iff.1 h1).1]⟩
    · exact ⟨m', by rw [Array.getElem?_setIfInBounds_ne ej]; exact h1⟩
  · exact ⟨g2, c2, f1, f2, cu2, (heap_setCell_other wr ⟨gb, i, none⟩ g2 _ e).trans f3, f4⟩
theorem L2.cell {K : Nat} {w0 wr : World} {vb rb : Nat} {l : List (Vc × Value)} {r0 r1 r2 r3 r4 r5 : Value} (h : L2 K w0 vb rb l #[r0, r1, r2, r3, r4, r5] wr) : wr.cell? ⟨vb, 1, none⟩ = some r1 := by
  rw [cell_of_row wr vb 1 _ _ _ h.vb]; rfl
theorem L2.at {K : Nat} {w0 wr : World} {vb rb : Nat} {l : List (Vc × Value)} {row : Array Value} (h : L2 K w0 vb rb l row wr) {k : Nat} {t : Vc × Value} (hk : l[k]? = some t) : (∃ m, wr.cell? ⟨rb, k * 4 + 2, none⟩ = some (.int .i64 m)) ∧ wr.cell? ⟨rb, k * 4 + 3, none⟩ = some t.2 ∧ wr.frozen? ⟨rb, k * 4 + 2, none⟩ = false := by
  obtain ⟨cur, hr, hc⟩ := h.rw
  obtain ⟨⟨m, h1⟩, h2⟩ := hc k t hk
  exact ⟨⟨m, by rw [cell_of_row wr rb _ _ _ _ hr]; exact h1⟩, by rw [cell_of_row wr rb _ _ _ _ hr]; exact h2, frozen_of_row wr rb _ _ _ hr⟩
theorem L2.atb {K : Nat} {w0 wr : World} {vb rb : Nat} {l : List (Vc × Value)} {row : Array Value} (h : L2 K w0 vb rb l row wr) {t : Vc × Value} (ht : t ∈ l) {i : Nat} (hi : i < t.1.b.length) : ∃ gb c m, t.2 = .slice (some ⟨gb, 0, none⟩) t.1.b.length c ∧ wr.cell? ⟨gb, i, none⟩ = some (.int .u8 m) ∧ wr.frozen? ⟨gb, i, none⟩ = false := by
  obtain ⟨gb, c, e1, _, cur, e3, e4⟩ := h.bt t ht (by omega)
  obtain ⟨m, h1⟩ := e4 i hi
  exact ⟨gb, c, m, e1, by rw [cell_of_row wr gb _ _ _ _ e3]; exact h1, frozen_of_row wr gb _ _ _ e3⟩
theorem l2_start {K : Nat} {w w0 : World} {vb rb n cap : Nat} {l : List (Vc × Value)} {row : Array Value} (hv : w.heap[vb]? = some (.cells row 36 (0, 0))) (hr : RdRA K w (.slice (some ⟨rb, 0, none⟩) n cap) l) (hn : n = l.length) (hb : Below K w0 w) : L2 K w0 vb rb l row w := by
  have ho := hr.2.2.1
  rw [← hn] at ho
  have hkr := own_base ho rb rfl
  refine ⟨hv, ?_, fun t ht hp => ?_, hkr, hb⟩
  · rcases ho.2 with ⟨h1, h2⟩ | ⟨g', cap', cur, h1, h2, h3, h4⟩
    · cases h1
    · have h1' := h1
      simp only [Value.slice.injEq, Option.some.injEq, Addr.mk.injEq] at h1
      obtain ⟨⟨rfl, _⟩, _, rfl⟩ := h1
      refine ⟨cur, h3, fun k t hk => ?_⟩
      have hkl := (List.getElem?_eq_some_iff.1 hk).1
      have hc : ∀ j u, j < 4 → (cellsV t)[j]? = some u → cur[k * 4 + j]? = some u := fun j u hj hu => by
        have h5 := ho.cellAt (k * 4 + j) (by omega)
        rw [cell_of_row w rb _ _ _ _ h3] at h5
        rw [h5]
        exact flatten_at (l.map cellsV) 4 (fun t ht => by obtain ⟨x, _, rfl⟩ := List.mem_map.1 ht; rfl) k (cellsV t) j u (by rw [List.getElem?_map, hk]; rfl) hu
      exact ⟨⟨t.1.n, hc 2 _ (by decide) rfl⟩, hc 3 _ (by decide) rfl⟩
  · have hb := hr.2.2.2 t ht
    rcases hb.2 with ⟨h1, h2⟩ | ⟨g', cap', cur, h1, h2, h3, h4⟩
    · omega
    · refine ⟨g', cap', h1, h2, cur, h3, fun i hi => ?_⟩
      have hb' := hb
      rw [h1] at hb'
      have h5 := hb'.cellAt i (by omega)
      rw [cell_of_row w g' _ _ _ _ h3, List.getElem?_map, List.getElem?_eq_getElem hi] at h5
      exact ⟨_, h5⟩

end Go.Proofs.Yteloepccjoikdaa
