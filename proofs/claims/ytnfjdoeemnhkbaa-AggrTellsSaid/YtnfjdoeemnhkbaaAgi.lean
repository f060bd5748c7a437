import Derived.Test.YtnfjdoeemnhkbaaAgh
set_option linter.unusedVariables false
set_option linter.unusedSimpArgs false
set_option maxRecDepth 100000
set_option maxHeartbeats 8000000
open Go.Lib (hid)
namespace Go.Proofs.Ytnfjdoeemnhkbaa
open Go.RowKit Sy
open _root_.List renaming length_map -> Qa
open Go renaming cell_of_row -> Qb, frozen_of_row -> Qc
theorem OkV.bare {w : World} {u : Bool} {k n : Int} {s : Value} (h : OkV w (⟨u, k, n, []⟩, s)) (w' : World) : OkV w' (⟨u, k, n, []⟩, s) := by
 obtain ⟨⟨ao, cap, hv, hn, hc⟩, _⟩ := h
 exact ⟨⟨ao, cap, hv, hn, fun hp => by simp at hp⟩, fun x hx => by cases hx⟩
theorem zJ6 (E : List El) (hE : E.length <= 1000000) (v : Value) (c : Int) (w : World) (hv : Rd w v (E.map Prod.fst)) :
  Calls Try.prog 46 #[v, .agg #[.int .i64 1, .int .i64 c]] w fun e w' => RetTot (totT (E.map El.row) 1 c) e w' ∧ Below w.heap.size w w' := by
 obtain ⟨ao, cap, hvs⟩ : ∃ ao cap, v = .slice ao (E.map Prod.fst).length cap := by obtain ⟨ao, cap, h, _⟩ := hv; exact ⟨ao, cap, h⟩
 subst hvs
 obtain ⟨n, hN⟩ : ∃ n, n = E.length := ⟨_, rfl⟩
 have HT := hid (show totT (E.map El.row) 1 c = some ⟨false, 1, (n : Int), []⟩ by unfold totT; rw [if_pos rfl, Qa, hN])
 rw [Qa, <- hN]
 obtain ⟨W, hW⟩ : ∃ W : World, W = (w.alloc (.cells #[.int .i64 1, .int .i64 c] 32)).alloc (.cells #[.bool false, .int .i64 0, .int .i64 0, .slice none 0 0] 36) := ⟨_, rfl⟩
 obtain ⟨Y, hY⟩ : ∃ Y, Y = w.heap.size := ⟨_, rfl⟩
 obtain ⟨X, hX⟩ : ∃ X, X = w.heap.size + 1 := ⟨_, rfl⟩
 have HY := hid (show W.heap[Y]? = some (.cells #[.int .i64 1, .int .i64 c] 32 (0, 0)) by rw [hW, hY]; exact (heap_alloc_old _ _ (by simp)).trans (heap_alloc_new w _))
 have HX := hid (show W.heap[X]? = some (.cells #[.bool false, .int .i64 0, .int .i64 0, .slice none 0 0] 36 (0, 0)) by rw [hW, hX]; exact zDd w _ _)
 have HBW := hid (show Below w.heap.size w W by rw [hW]; exact zAw w _ _)
 have HXE := hid hX
 have d0 : W.cell? ⟨Y, 0, none⟩ = some (.int .i64 1) := by rw [Qb W Y 0 _ _ _ HY.out]; rfl
 have d1 : W.cell? ⟨Y, 1, none⟩ = some (.int .i64 c) := by rw [Qb W Y 1 _ _ _ HY.out]; rfl
 have c0 : W.cell? ⟨X, 0, none⟩ = some (.bool false) := by rw [Qb W X 0 _ _ _ HX.out]; rfl
 have c1 : W.cell? ⟨X, 1, none⟩ = some (.int .i64 0) := by rw [Qb W X 1 _ _ _ HX.out]; rfl
 have c2 : W.cell? ⟨X, 2, none⟩ = some (.int .i64 0) := by rw [Qb W X 2 _ _ _ HX.out]; rfl
 have c3 : W.cell? ⟨X, 3, none⟩ = some (.slice none 0 0) := by rw [Qb W X 3 _ _ _ HX.out]; rfl
 have f0 : W.frozen? ⟨X, 0, none⟩ = false := Qc W X 0 _ _ HX.out
 have f1 : W.frozen? ⟨X, 1, none⟩ = false := Qc W X 1 _ _ HX.out
 have f2 : W.frozen? ⟨X, 2, none⟩ = false := Qc W X 2 _ _ HX.out
 have f3 : W.frozen? ⟨X, 3, none⟩ = false := Qc W X 3 _ _ HX.out
 have HBF := hid (fun a b d e => (((HBW.out.setCell (p := ⟨X, 0, none⟩) (by show _ <= X; have := HXE.out; omega) a).setCell (p := ⟨X, 1, none⟩) (by show _ <= X; have := HXE.out; omega) b).setCell (p := ⟨X, 2, none⟩) (by show _ <= X; have := HXE.out; omega) d).setCell (p := ⟨X, 3, none⟩) (by show _ <= X; have := HXE.out; omega) e)
 clear hN hv
 go_enter Try.func46, Try.ntmps46
 go_upto_region 1 with (fail)
 rw [<- hW, <- hX, <- hY]
 clear hW hX hY
 go_wp2_with fail
 (try simp only [Exit.inBlock, Exit.then])
 refine bodyPost_ret (zAp rfl _ _ X _ _ (0, 0) _ _ rfl rfl (zAu HX.out) Try.underlying36 rfl zAz) rfl ?_
 rw [HT.out]
 exact ⟨⟨.slice none 0 0, rfl, Rd.nil _, fun x hx => by cases hx⟩, HBF.out _ _ _ _⟩
theorem zMm (E : List El) (hE : E.length <= 1000000) (v : Value) (c : Int) (w : World) (hv : Rd w v (E.map Prod.fst)) (hr : ∀ x ∈ E, RdP w x.1 x.2 ∧ x.2.length <= 1000000) (hi : ∀ x ∈ E, ∀ t ∈ x.2, I64 t.1.n) :
  Calls Try.prog 46 #[v, .agg #[.int .i64 2, .int .i64 c]] w fun e w' => RetTot (totT (E.map El.row) 2 c) e w' ∧ Below w.heap.size w w' := by
 obtain ⟨ao, cap, hvs⟩ : ∃ ao cap, v = .slice ao (E.map Prod.fst).length cap := by obtain ⟨ao, cap, h, _⟩ := hv; exact ⟨ao, cap, h⟩
 subst hvs
 obtain ⟨n, hN⟩ : ∃ n, n = E.length := ⟨_, rfl⟩
 obtain ⟨W, hW⟩ : ∃ W : World, W = (w.alloc (.cells #[.int .i64 2, .int .i64 c] 32)).alloc (.cells #[.bool false, .int .i64 0, .int .i64 0, .slice none 0 0] 36) := ⟨_, rfl⟩
 obtain ⟨Y, hY⟩ : ∃ Y, Y = w.heap.size := ⟨_, rfl⟩
 obtain ⟨X, hX⟩ : ∃ X, X = w.heap.size + 1 := ⟨_, rfl⟩
 have HY := hid (show W.heap[Y]? = some (.cells #[.int .i64 2, .int .i64 c] 32 (0, 0)) by rw [hW, hY]; exact (heap_alloc_old _ _ (by simp)).trans (heap_alloc_new w _))
 have HX := hid (show W.heap[X]? = some (.cells #[.bool false, .int .i64 0, .int .i64 0, .slice none 0 0] 36 (0, 0)) by rw [hW, hX]; exact zDd w _ _)
 have HBW := hid (show Below w.heap.size w W by rw [hW]; exact zAw w _ _)
 have HXE := hid hX
 have d0 : W.cell? ⟨Y, 0, none⟩ = some (.int .i64 2) := by rw [Qb W Y 0 _ _ _ HY.out]; rfl
 have d1 : W.cell? ⟨Y, 1, none⟩ = some (.int .i64 c) := by rw [Qb W Y 1 _ _ _ HY.out]; rfl
 have HS := hid (zOx E hE (.slice ao (E.map Prod.fst).length cap) c W (hv.kept HBW.out) (fun x hx => ⟨(hr x hx).1.kept HBW.out, (hr x hx).2⟩) hi)
 rw [Qa, <- hN] at HS ⊢
 obtain ⟨ot, hot⟩ : ∃ ot, ot = totT (E.map El.row) 2 c := ⟨_, rfl⟩
 rw [<- hot] at HS ⊢
 have HT2 := hid (show ∀ x, ot = some x -> x.b = [] from fun x hx => by
  rw [hot] at hx
  unfold totT at hx
  rw [if_neg (by decide), if_pos rfl] at hx
  split at hx
  ·cases hx; rfl
  ·cases hx)
 clear hot hN hv hr hi
 go_enter Try.func46, Try.ntmps46
 go_upto_region 1 with (fail)
 rw [<- hW, <- hX, <- hY]
 clear hW hX hY
 go_wp2_with fail
 refine HS.out.mono ?_
 rintro e w2 ⟨hret, hb2⟩
 have HX2 := hid ((hb2.block X (Array.getElem?_eq_some_iff.1 HX.out).1).trans HX.out)
 have c0 : w2.cell? ⟨X, 0, none⟩ = some (.bool false) := by rw [Qb w2 X 0 _ _ _ HX2.out]; rfl
 have c1 : w2.cell? ⟨X, 1, none⟩ = some (.int .i64 0) := by rw [Qb w2 X 1 _ _ _ HX2.out]; rfl
 have c2 : w2.cell? ⟨X, 2, none⟩ = some (.int .i64 0) := by rw [Qb w2 X 2 _ _ _ HX2.out]; rfl
 have c3 : w2.cell? ⟨X, 3, none⟩ = some (.slice none 0 0) := by rw [Qb w2 X 3 _ _ _ HX2.out]; rfl
 have f0 : w2.frozen? ⟨X, 0, none⟩ = false := Qc w2 X 0 _ _ HX2.out
 have f1 : w2.frozen? ⟨X, 1, none⟩ = false := Qc w2 X 1 _ _ HX2.out
 have f2 : w2.frozen? ⟨X, 2, none⟩ = false := Qc w2 X 2 _ _ HX2.out
 have f3 : w2.frozen? ⟨X, 3, none⟩ = false := Qc w2 X 3 _ _ HX2.out
 have HB2 := hid (zAa HBW.out hb2)
 have HBF := hid (fun a b d e => (((HB2.out.setCell (p := ⟨X, 0, none⟩) (by show _ <= X; have := HXE.out; omega) a).setCell (p := ⟨X, 1, none⟩) (by show _ <= X; have := HXE.out; omega) b).setCell (p := ⟨X, 2, none⟩) (by show _ <= X; have := HXE.out; omega) d).setCell (p := ⟨X, 3, none⟩) (by show _ <= X; have := HXE.out; omega) e)
 have HB3 := hid hb2
 clear hb2 d0 d1
 cases ot with
 | some x =>
  obtain ⟨s, rfl, hok⟩ := hret
  obtain ⟨sa, sc, hs⟩ := zAo hok.1
  obtain ⟨u, k, m, b⟩ := x
  simp only at hs
  subst hs
  have hb0 : b = [] := HT2.out _ rfl
  subst hb0
  unfold aggV
  simp only [List.length_nil]
  have HOK := hid hok
  clear hok
  go_wp2_with fail
  (try simp only [Exit.inBlock, Exit.then])
  refine bodyPost_ret (zAp rfl _ _ X _ _ (0, 0) _ _ rfl rfl (zAu HX2.out) Try.underlying36 rfl zAz) rfl ?_
  exact ⟨⟨_, rfl, HOK.out.bare _⟩, HBF.out _ _ _ _⟩
 | none =>
  obtain rfl := hret
  go_wp2_with fail
  (try simp only [Exit.inBlock, Exit.then])
  refine bodyPost_ret (zAp rfl _ _ X _ _ (0, 0) _ _ rfl rfl (zAu HX2.out) Try.underlying36 rfl zAz) rfl ?_
  exact ⟨rfl, HBF.out _ _ _ _⟩
end Go.Proofs.Ytnfjdoeemnhkbaa
