/-
  What lies from a block on; contracts of bytes.Clone and fresh.Val.
-/
import Derived.Test.YtlkjdclhgmkndaaPt
namespace Go.Proofs.Ytlkjdclhgmkndaa
set_option linter.unusedVariables false
set_option linter.unusedSimpArgs false
open Go.RowKit

/-- From block K on w' is as w was. -/
def Above (K : Nat) (w w' : World) : Prop := ∀ b, K ≤ b → b < w.heap.size → w'.heap[b]? = w.heap[b]?
theorem Above.refl (K : Nat) (w : World) : Above K w w := fun _ _ _ => rfl
theorem Above.trans {K : Nat} {a b c : World} (h : Above K a b) (hs : a.heap.size ≤ b.heap.size) (k : Above K b c) : Above K a c := fun x h1 h2 => (k x h1 (Nat.lt_of_lt_of_le h2 hs)).trans (h x h1 h2)
theorem Above.mono {K K' : Nat} {w w' : World} (h : Above K w w') (hk : K ≤ K') : Above K' w w' := fun x h1 h2 => h x (Nat.le_trans hk h1) h2
theorem above_below {K : Nat} {w w' : World} (h : Below w.heap.size w w') : Above K w w' := fun x _ h2 => h.block x h2
theorem above_grown {K lb : Nat} {w w' : World} (h : w.grownBy w' (some lb)) (hk : lb < K) : Above K w w' := fun x h1 h2 => h.block x h2 (fun e => by cases e; omega)
theorem above_cell {K b i : Nat} {w w' : World} {u : Value} (h : Above K w w') (hb : K ≤ b) (hc : w.cell? ⟨b, i, none⟩ = some u) : w'.cell? ⟨b, i, none⟩ = some u := by
  have hlt := World.block_lt_of_cell? w _ hc
  have := h b hb hlt
  rw [← hc]
  simp only [World.cell?, this]

/-- These bytes lie from K on. -/
def RdB (K : Nat) (w : World) (s : Value) (bs : List Nat) : Prop := ∃ ao cap, s = .slice ao bs.length cap ∧ ((ao = none → cap = 0) ∧ bs.length ≤ cap) ∧ (0 < bs.length → ∃ b off, ao = some ⟨b, off, none⟩ ∧ K ≤ b ∧ ∀ i, i < bs.length → w.cell? ⟨b, off + i, none⟩ = some (u8v (bs.getD i 0)))
theorem RdB.rd {K : Nat} {w w' : World} {s : Value} {bs : List Nat} (h : RdB K w s bs) (ha : Above K w w') : Rd w' s (bs.map u8v) := by
  obtain ⟨ao, cap, hv, hn, hc⟩ := h
  refine ⟨ao, cap, by rw [List.length_map]; exact hv, by rw [List.length_map]; exact hn, fun hp => ?_⟩
  rw [List.length_map] at hp
  obtain ⟨b, off, h1, h2, h3⟩ := hc hp
  refine ⟨b, off, h1, fun i hi => ?_⟩
  rw [List.length_map] at hi
  rw [above_cell ha h2 (h3 i hi), List.getD_eq_getElem?_getD, List.getD_eq_getElem?_getD, List.getElem?_map, List.getElem?_eq_getElem hi]
  rfl

theorem RdB.above {K K0 : Nat} {w w' : World} {s : Value} {bs : List Nat} (h : RdB K w s bs) (ha : Above K w w') (hk : K0 ≤ K) : RdB K0 w' s bs := by
  obtain ⟨ao, cap, hv, hn, hc⟩ := h
  refine ⟨ao, cap, hv, hn, fun hp => ?_⟩
  obtain ⟨b, off, h1, h2, h3⟩ := hc hp
  exact ⟨b, off, h1, Nat.le_trans hk h2, fun i hi => above_cell ha h2 (h3 i hi)⟩
theorem rdB_shape {K : Nat} {w : World} {s : Value} {bs : List Nat} (h : RdB K w s bs) : ∃ ao cap, s = .slice ao bs.length cap := by
  obtain ⟨ao, cap, hv, _⟩ := h
  exact ⟨ao, cap, hv⟩
/-- Cells below K written. -/
theorem above_set {K : Nat} {w w1 : World} (h : Above K w w1) (a : Addr) (v : Value) (ha : a.block < K) : Above K w (w1.setCell a v) := fun x h1 h2 => by
  rw [heap_setCell_other w1 a x v (by omega)]
  exact h x h1 h2

theorem info8v : (Try.prog.info? 5).map (fun i => (i.zero, i.size, i.bytes)) = some (some (.int .u8 0), 1, 1) := by kernel_rfl

theorem rd_bytes {w : World} {ao : Option Addr} {len cap : Nat} {bs : List Nat} (h : Rd w (.slice ao len cap) (bs.map u8v)) :
    len = bs.length ∧ (0 < len → ∃ b off, ao = some ⟨b, off, none⟩ ∧ ∀ i, i < len → w.cell? ⟨b, off + i, none⟩ = some (.int .u8 (bs.getD i 0 : Nat))) := by
  obtain ⟨ao', cap', hv, _, hc⟩ := h
  simp only [List.length_map, Value.slice.injEq] at hv hc
  obtain ⟨rfl, hl, rfl⟩ := hv
  refine ⟨hl, fun hp => ?_⟩
  obtain ⟨b, off, ha, hcell⟩ := hc (by omega)
  refine ⟨b, off, ha, fun i hi => ?_⟩
  have := hcell i (by omega)
  rw [this, List.getD_eq_getElem?_getD, List.getElem?_map, List.getD_eq_getElem?_getD, List.getElem?_eq_getElem (show i < bs.length by omega)]
  rfl

theorem rdB_own {w : World} {B : Nat} {E : TypeId} {v : Value} {n : Nat} {bs : List Nat} (h : w.ownsRow B E 1 v n (bs.map u8v)) : RdB B w v bs := by
  have hl : bs.length = n := by simpa using h.1
  rcases h.2 with ⟨rfl, rfl⟩ | ⟨g, cap, cur, rfl, hbg, hh, r⟩
  · have : bs = [] := List.length_eq_zero_iff.1 hl
    subst this
    exact ⟨none, 0, rfl, ⟨fun _ => rfl, by simp⟩, fun h => absurd h (by simp)⟩
  · refine ⟨some ⟨g, 0, none⟩, cap, by rw [hl], ⟨(fun h => by cases h), by rw [hl]; exact r.1⟩, fun _ => ⟨g, 0, rfl, hbg, fun i hi => ?_⟩⟩
    have := h.cellAt i (by omega)
    rw [Nat.zero_add, this, List.getElem?_map, List.getElem?_eq_getElem hi, List.getD_eq_getElem?_getD, List.getElem?_eq_getElem hi]; rfl

set_option maxHeartbeats 1000000 in
theorem bcl_any (v : Value) (bs : List Nat) (w : World) (hr : Rd w v (bs.map u8v)) (hbig : bs.length ≤ 140737488355328) :
    Calls Try.prog 123 #[v] w fun e w' => ∃ s, e = .returned s ∧ RdB w.heap.size w' s bs ∧ Below w.heap.size w w' := by
  have q22 : ∀ (w : World) (a : Option Addr) (n c n' c' : Nat), (binOp .eql 29 (.slice a n c) (.slice none n' c')).run Try.prog w = .ok (.bool a.isNone) w := fun w a n c n' c' => Lib.run_eql_slice_nil w _ _ a n c n' c' Try.underlying29
  have hr0 := hr
  obtain ⟨ao, cap, hv, _⟩ := hr
  rw [List.length_map] at hv
  subst hv
  have hc := (rd_bytes hr0).2
  obtain ⟨n, hn⟩ : ∃ n, n = bs.length := ⟨_, rfl⟩
  rw [← hn] at hc hbig hr0 ⊢
  have HN := Lib.hid hn
  have HR := Lib.hid hr0
  clear hr0 hn
  rcases ao with _ | a
  · have h0 : n = 0 := by
      rcases Nat.eq_zero_or_pos n with h | h
      · exact h
      · obtain ⟨b, off, h1, _⟩ := hc h; cases h1
    have hb : bs = [] := List.length_eq_zero_iff.1 (by rw [← HN.out]; exact h0)
    clear hc
    go_enter Try.func123, Try.ntmps123
    go_wp2
    go_ret
    subst hb
    exact ⟨.slice none 0 0, rfl, ⟨none, 0, rfl, ⟨fun _ => rfl, by simp⟩, fun h => absurd h (by simp)⟩, Below.refl _ _⟩
  · clear hc
    have H1 := Lib.hid (show (bs.map u8v).length = n * 1 by rw [List.length_map, Nat.mul_one]; exact HN.out.symm)
    have H2 := Lib.hid (rd_news (HR.out.kept (below_alloc w (.cells #[] 5))))
    have H3 := Lib.hid (ones_u8 bs)
    obtain ⟨i0, hi, hz0, hz1, hz2⟩ := info_parts info8v
    go_enter Try.func123, Try.ntmps123
    go_wp2_with (at_builtin; refine wpList_append_own _ rfl _ _ 29 rfl w.heap.size 5 i0 (.int .u8 0) 1 1 Try.underlying29 hi hz0 hz1 hz2 rfl (by decide) _ _ _ rfl (World.ownsRow_made w #[] 0 (Nat.le_refl _) (Nat.zero_le _) rfl) a n cap (bs.map u8v) rfl H1.out H2.out H3.out (by unfold maxLen; omega) (by omega) (by simp) ?_)
    intro v' w1 hown hgrow hnil
    go_wp2
    go_ret
    have hown' : w1.ownsRow w.heap.size 5 1 v' n (bs.map u8v) := by simpa using hown
    have hbl : Below w.heap.size w w1 := ((Below.refl _ w).alloc (Nat.le_refl _) _).grown hgrow (by simp) (by intro k hk; simp [Value.ownBlock] at hk; omega)
    exact ⟨v', rfl, rdB_own hown', hbl⟩

theorem four_heap' {w : World} {X : Nat} {a b c d a' b' c' d' : Value} {T : TypeId} (h : w.heap[X]? = some (.cells #[a, b, c, d] T (0, 0))) :
    ((((w.setCell ⟨X, 0, none⟩ a').setCell ⟨X, 1, none⟩ b').setCell ⟨X, 2, none⟩ c').setCell ⟨X, 3, none⟩ d').heap[X]? = some (.cells #[a', b', c', d'] T (0, 0)) := by
  have h0 := heap_setCell_same w X 0 _ _ a' h
  have h1 := heap_setCell_same (w.setCell ⟨X, 0, none⟩ a') X 1 _ _ b' h0
  have h2 := heap_setCell_same _ X 2 _ _ c' h1
  have h3 := heap_setCell_same _ X 3 _ _ d' h2
  rw [h3]
  simp
theorem infoVal4' : (Try.prog.info? 31).map (·.size) = some 4 := by kernel_rfl

set_option maxRecDepth 100000 in
set_option maxHeartbeats 1000000 in
theorem fval_any (p : Vc × Value) (w : World) (hp : OkV w p) (hbig : p.1.b.length ≤ 1000000) :
    Calls Try.prog 107 #[aggV p] w fun e w' => ∃ s, e = .returned (aggV (p.1, s)) ∧ RdB w.heap.size w' s p.1.b ∧ Below w.heap.size w w' := by
  obtain ⟨sa, sc, hs⟩ := rd_shape8 hp.1
  obtain ⟨⟨u, k, n, b⟩, s⟩ := p
  simp only at hs hbig
  subst hs
  have HC := fun w' (h : Below w.heap.size w w') => Lib.hid (bcl_any (.slice sa b.length sc) b w' (hp.1.kept h) (by omega))
  have H256 := Lib.hid hp.2
  unfold aggV
  simp only
  clear hp
  go_enter Try.func107, Try.ntmps107
  go_wp2_with fail
  refine (HC _ (below2 w _ _)).out.mono ?_
  rintro e w2 ⟨s2, rfl, hr2, hb2⟩
  have h1 : w2.heap[w.heap.size]? = some (.cells #[.bool u, .int .i64 k, .int .i64 n, .slice sa b.length sc] 31 (0, 0)) := (hb2.block w.heap.size (by simp; omega)).trans ((heap_alloc_old _ _ (by simp)).trans (heap_alloc_new w _))
  have h2 : w2.heap[w.heap.size + 1]? = some (.cells #[.bool false, .int .i64 0, .int .i64 0, .slice none 0 0] 31 (0, 0)) := (hb2.block (w.heap.size + 1) (by simp)).trans (heap2 w _ _)
  obtain ⟨ta, tc, ht⟩ := rdB_shape hr2
  subst ht
  have HR2 := Lib.hid hr2
  have HB2 := Lib.hid (below_then (below2 w _ _) hb2)
  have HS2 := Lib.hid (show ((w.alloc (.cells #[.bool u, .int .i64 k, .int .i64 n, .slice sa b.length sc] 31)).alloc (.cells #[.bool false, .int .i64 0, .int .i64 0, .slice none 0 0] 31)).heap.size = w.heap.size + 2 by simp)
  have H2 := Lib.hid h2
  obtain ⟨X, hX⟩ : ∃ X, X = w.heap.size := ⟨_, rfl⟩
  obtain ⟨Y, hY⟩ : ∃ Y, Y = w.heap.size + 1 := ⟨_, rfl⟩
  have HX := Lib.hid hX
  have HY := Lib.hid hY
  rw [← hX] at h1
  rw [← hY] at h2 H2 ⊢
  rw [← hX]
  have c0 : w2.cell? ⟨X, 0, none⟩ = some (.bool u) := by rw [cell_of_row w2 X 0 _ _ _ h1]; rfl
  have c1 : w2.cell? ⟨X, 1, none⟩ = some (.int .i64 k) := by rw [cell_of_row w2 X 1 _ _ _ h1]; rfl
  have c2 : w2.cell? ⟨X, 2, none⟩ = some (.int .i64 n) := by rw [cell_of_row w2 X 2 _ _ _ h1]; rfl
  have c3 : w2.cell? ⟨X, 3, none⟩ = some (.slice sa b.length sc) := by rw [cell_of_row w2 X 3 _ _ _ h1]; rfl
  have f3 : w2.frozen? ⟨X, 3, none⟩ = false := frozen_of_row w2 X 3 _ _ h1
  have g0 : w2.cell? ⟨Y, 0, none⟩ = some (.bool false) := by rw [cell_of_row w2 Y 0 _ _ _ h2]; rfl
  have g1 : w2.cell? ⟨Y, 1, none⟩ = some (.int .i64 0) := by rw [cell_of_row w2 Y 1 _ _ _ h2]; rfl
  have g2 : w2.cell? ⟨Y, 2, none⟩ = some (.int .i64 0) := by rw [cell_of_row w2 Y 2 _ _ _ h2]; rfl
  have g3 : w2.cell? ⟨Y, 3, none⟩ = some (.slice none 0 0) := by rw [cell_of_row w2 Y 3 _ _ _ h2]; rfl
  have e0 : w2.frozen? ⟨Y, 0, none⟩ = false := frozen_of_row w2 Y 0 _ _ h2
  have e1 : w2.frozen? ⟨Y, 1, none⟩ = false := frozen_of_row w2 Y 1 _ _ h2
  have e2 : w2.frozen? ⟨Y, 2, none⟩ = false := frozen_of_row w2 Y 2 _ _ h2
  have e3 : w2.frozen? ⟨Y, 3, none⟩ = false := frozen_of_row w2 Y 3 _ _ h2
  have hne : X ≠ Y := by omega
  have hne2 : Y ≠ X := by omega
  clear hr2 hb2 h1 h2 hX hY HC
  go_wp2_with fail
  refine bodyPost_ret (results_cell_row rfl _ _ Y _ _ (0, 0) _ rfl (four_heap' (show (w2.setCell ⟨X, 3, none⟩ (.slice ta b.length tc)).heap[Y]? = _ from (heap_setCell_other w2 ⟨X, 3, none⟩ Y _ hne2).trans H2.out)) Try.underlying31 rfl infoVal4') rfl ?_
  have hx := HX.out
  have hy := HY.out
  refine ⟨.slice ta b.length tc, rfl, HR2.out.above ?_ (by rw [HS2.out]; omega), ?_⟩
  · rw [HS2.out]
    exact above_set (above_set (above_set (above_set (above_set (Above.refl _ _) _ _ (by show X < _; omega)) _ _ (by show Y < _; omega)) _ _ (by show Y < _; omega)) _ _ (by show Y < _; omega)) _ _ (by show Y < _; omega)
  · exact ((((HB2.out.setCell (p := ⟨X, 3, none⟩) (by show _ ≤ X; omega) _).setCell (p := ⟨Y, 0, none⟩) (by show _ ≤ Y; omega) _).setCell (p := ⟨Y, 1, none⟩) (by show _ ≤ Y; omega) _).setCell (p := ⟨Y, 2, none⟩) (by show _ ≤ Y; omega) _).setCell (p := ⟨Y, 3, none⟩) (by show _ ≤ Y; omega) _

end Go.Proofs.Ytlkjdclhgmkndaa
