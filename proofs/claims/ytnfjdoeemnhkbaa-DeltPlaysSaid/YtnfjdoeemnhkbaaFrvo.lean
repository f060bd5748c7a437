/-
  bytes.Clone and fresh.Val: what comes back is one's own row.
-/
import Derived.Test.YtnfjdoeemnhkbaaLseven
namespace Go.Proofs.Ytnfjdoeemnhkbaa
set_option linter.unusedVariables false
set_option linter.unusedSimpArgs false
open Go.RowKit

theorem own_above {K K0 : Nat} {w w' : World} {E : TypeId} {sz n : Nat} {v : Value} {xs : List Value} (h : w.ownsRow K E sz v n xs) (ha : Above K w w') (hk : K0 ≤ K) : w'.ownsRow K0 E sz v n xs := by
  rcases h.2 with ⟨h1, h2⟩ | ⟨g, cap, cur, h1, h2, h3, h4⟩
  · exact ⟨h.1, .inl ⟨h1, h2⟩⟩
  · exact ⟨h.1, .inr ⟨g, cap, cur, h1, Nat.le_trans hk h2, (ha g h2 (Array.getElem?_eq_some_iff.1 h3).1).trans h3, h4⟩⟩
theorem own_shp {K : Nat} {w : World} {E : TypeId} {sz n : Nat} {v : Value} {xs : List Value} (h : w.ownsRow K E sz v n xs) : ∃ ao cap, v = .slice ao n cap := by
  rcases h.2 with ⟨h1, h2⟩ | ⟨g, cap, cur, h1, _⟩
  · exact ⟨none, 0, by rw [h1, h2]⟩
  · exact ⟨_, _, h1⟩

set_option maxHeartbeats 1000000 in
theorem bcl_own (v : Value) (bs : List Nat) (w : World) (hr : Rd w v (bs.map u8v)) (hbig : bs.length ≤ 140737488355328) :
    Calls Try.prog 112 #[v] w fun e w' => ∃ s, e = .returned s ∧ w'.ownsRow w.heap.size 5 1 s bs.length (bs.map u8v) ∧ Below w.heap.size w w' := by
  have q22 : ∀ (w : World) (a : Option Addr) (n c n' c' : Nat), (binOp .eql 34 (.slice a n c) (.slice none n' c')).run Try.prog w = .ok (.bool a.isNone) w := fun w a n c n' c' => Lib.run_eql_slice_nil w _ _ a n c n' c' Try.underlying34
  have hr0 := hr
  obtain ⟨ao, cap, hv, _⟩ := hr
  rw [List.length_map] at hv
  subst hv
  have hc := (rd_bytes hr0).2
  obtain ⟨n, hn⟩ : ∃ n, n = bs.length := ⟨_, rfl⟩
  rw [← hn] at hc hbig hr0 ⊢
  have HN := Lib.hid hn
  have HR := Lib.hid hr0
  clear hr0 hn
  rcases ao with _ | a
  · have h0 : n = 0 := by
      rcases Nat.eq_zero_or_pos n with h | h
      · exact h
      · obtain ⟨b, off, h1, _⟩ := hc h; cases h1
    have hb : bs = [] := List.length_eq_zero_iff.1 (by rw [← HN.out]; exact h0)
    clear hc
    go_enter Try.func112, Try.ntmps112
    go_wp2
    go_ret
    subst hb
    exact ⟨.slice none 0 0, rfl, World.ownsRow_nil .., Below.refl _ _⟩
  · clear hc
    have H1 := Lib.hid (show (bs.map u8v).length = n * 1 by rw [List.length_map, Nat.mul_one]; exact HN.out.symm)
    have H2 := Lib.hid (rd_news (HR.out.kept (below_alloc w (.cells #[] 5))))
    have H3 := Lib.hid (ones_u8 bs)
    obtain ⟨i0, hi, hz0, hz1, hz2⟩ := info_parts info8v
    go_enter Try.func112, Try.ntmps112
    go_wp2_with (at_builtin; refine wpList_append_own _ rfl _ _ 34 rfl w.heap.size 5 i0 (.int .u8 0) 1 1 Try.underlying34 hi hz0 hz1 hz2 rfl (by decide) _ _ _ rfl (World.ownsRow_made w #[] 0 (Nat.le_refl _) (Nat.zero_le _) rfl) a n cap (bs.map u8v) rfl H1.out H2.out H3.out (by unfold maxLen; omega) (by omega) (by simp) ?_)
    intro v' w1 hown hgrow hnil
    go_wp2
    go_ret
    have hown' : w1.ownsRow w.heap.size 5 1 v' n (bs.map u8v) := by simpa using hown
    have hbl : Below w.heap.size w w1 := ((Below.refl _ w).alloc (Nat.le_refl _) _).grown hgrow (by simp) (by intro k hk; simp [Value.ownBlock] at hk; omega)
    exact ⟨v', rfl, hown', hbl⟩

set_option maxRecDepth 100000 in
set_option maxHeartbeats 1000000 in
theorem fval_own (p : Vc × Value) (w : World) (hp : OkV w p) (hbig : p.1.b.length ≤ 1000000) :
    Calls Try.prog 84 #[aggV p] w fun e w' => ∃ s, e = .returned (aggV (p.1, s)) ∧ w'.ownsRow w.heap.size 5 1 s p.1.b.length (p.1.b.map u8v) ∧ Below w.heap.size w w' := by
  obtain ⟨sa, sc, hs⟩ := rd_shape8 hp.1
  obtain ⟨⟨u, k, n, b⟩, s⟩ := p
  simp only at hs hbig
  subst hs
  have HC := fun w' (h : Below w.heap.size w w') => Lib.hid (bcl_own (.slice sa b.length sc) b w' (hp.1.kept h) (by omega))
  have H256 := Lib.hid hp.2
  unfold aggV
  simp only
  clear hp
  go_enter Try.func84, Try.ntmps84
  go_wp2_with fail
  refine (HC _ (below2 w _ _)).out.mono ?_
  rintro e w2 ⟨s2, rfl, hr2, hb2⟩
  have h1 : w2.heap[w.heap.size]? = some (.cells #[.bool u, .int .i64 k, .int .i64 n, .slice sa b.length sc] 36 (0, 0)) := (hb2.block w.heap.size (by simp; omega)).trans ((heap_alloc_old _ _ (by simp)).trans (heap_alloc_new w _))
  have h2 : w2.heap[w.heap.size + 1]? = some (.cells #[.bool false, .int .i64 0, .int .i64 0, .slice none 0 0] 36 (0, 0)) := (hb2.block (w.heap.size + 1) (by simp)).trans (heap2 w _ _)
  obtain ⟨ta, tc, ht⟩ := own_shp hr2
  subst ht
  have HR2 := Lib.hid hr2
  have HB2 := Lib.hid (below_then (below2 w _ _) hb2)
  have HS2 := Lib.hid (show ((w.alloc (.cells #[.bool u, .int .i64 k, .int .i64 n, .slice sa b.length sc] 36)).alloc (.cells #[.bool false, .int .i64 0, .int .i64 0, .slice none 0 0] 36)).heap.size = w.heap.size + 2 by simp)
  have H2 := Lib.hid h2
  obtain ⟨X, hX⟩ : ∃ X, X = w.heap.size := ⟨_, rfl⟩
  obtain ⟨Y, hY⟩ : ∃ Y, Y = w.heap.size + 1 := ⟨_, rfl⟩
  have HX := Lib.hid hX
  have HY := Lib.hid hY
  rw [← hX] at h1
  rw [← hY] at h2 H2 ⊢
  rw [← hX]
  have c0 : w2.cell? ⟨X, 0, none⟩ = some (.bool u) := by rw [cell_of_row w2 X 0 _ _ _ h1]; rfl
  have c1 : w2.cell? ⟨X, 1, none⟩ = some (.int .i64 k) := by rw [cell_of_row w2 X 1 _ _ _ h1]; rfl
  have c2 : w2.cell? ⟨X, 2, none⟩ = some (.int .i64 n) := by rw [cell_of_row w2 X 2 _ _ _ h1]; rfl
  have c3 : w2.cell? ⟨X, 3, none⟩ = some (.slice sa b.length sc) := by rw [cell_of_row w2 X 3 _ _ _ h1]; rfl
  have f3 : w2.frozen? ⟨X, 3, none⟩ = false := frozen_of_row w2 X 3 _ _ h1
  have g0 : w2.cell? ⟨Y, 0, none⟩ = some (.bool false) := by rw [cell_of_row w2 Y 0 _ _ _ h2]; rfl
  have g1 : w2.cell? ⟨Y, 1, none⟩ = some (.int .i64 0) := by rw [cell_of_row w2 Y 1 _ _ _ h2]; rfl
  have g2 : w2.cell? ⟨Y, 2, none⟩ = some (.int .i64 0) := by rw [cell_of_row w2 Y 2 _ _ _ h2]; rfl
  have g3 : w2.cell? ⟨Y, 3, none⟩ = some (.slice none 0 0) := by rw [cell_of_row w2 Y 3 _ _ _ h2]; rfl
  have e0 : w2.frozen? ⟨Y, 0, none⟩ = false := frozen_of_row w2 Y 0 _ _ h2
  have e1 : w2.frozen? ⟨Y, 1, none⟩ = false := frozen_of_row w2 Y 1 _ _ h2
  have e2 : w2.frozen? ⟨Y, 2, none⟩ = false := frozen_of_row w2 Y 2 _ _ h2
  have e3 : w2.frozen? ⟨Y, 3, none⟩ = false := frozen_of_row w2 Y 3 _ _ h2
  have hne : X ≠ Y := by omega
  have hne2 : Y ≠ X := by omega
  clear hr2 hb2 h1 h2 hX hY HC
  go_wp2_with fail
  refine bodyPost_ret (results_cell_row rfl _ _ Y _ _ (0, 0) _ rfl (four_heap' (show (w2.setCell ⟨X, 3, none⟩ (.slice ta b.length tc)).heap[Y]? = _ from (heap_setCell_other w2 ⟨X, 3, none⟩ Y _ hne2).trans H2.out)) Try.underlying36 rfl infoVal4') rfl ?_
  have hx := HX.out
  have hy := HY.out
  refine ⟨.slice ta b.length tc, rfl, own_above HR2.out ?_ (by rw [HS2.out]; omega), ?_⟩
  · rw [HS2.out]
    exact above_set (above_set (above_set (above_set (above_set (Above.refl _ _) _ _ (by show X < _; omega)) _ _ (by show Y < _; omega)) _ _ (by show Y < _; omega)) _ _ (by show Y < _; omega)) _ _ (by show Y < _; omega)
  · exact ((((HB2.out.setCell (p := ⟨X, 3, none⟩) (by show _ ≤ X; omega) _).setCell (p := ⟨Y, 0, none⟩) (by show _ ≤ Y; omega) _).setCell (p := ⟨Y, 1, none⟩) (by show _ ≤ Y; omega) _).setCell (p := ⟨Y, 2, none⟩) (by show _ ≤ Y; omega) _).setCell (p := ⟨Y, 3, none⟩) (by show _ ≤ Y; omega) _


end Go.Proofs.Ytnfjdoeemnhkbaa
