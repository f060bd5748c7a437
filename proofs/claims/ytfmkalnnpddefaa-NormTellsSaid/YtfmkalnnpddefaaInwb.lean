/-
  Contract of the reference's inwards, at leaves.
-/
import Derived.Test.YtfmkalnnpddefaaInwa
import Derived.Test.YtfmkalnnpddefaaNormKeys
namespace Go.Proofs.Ytfmkalnnpddefaa
set_option linter.unusedVariables false
set_option linter.unusedSimpArgs false
open Go.RowKit

/-- inwards answers so. -/
def InwOK (p : Pt) : Prop := ∀ (nt : Bool) (cs : List Value) (w0 w : World), RdT1 w0 p cs → Below w0.heap.size w0 w → w0.heap.size ≤ w.heap.size →
  Calls Try.prog 70 #[.agg cs.toArray, .bool nt] w fun e w' => ∃ cs' : List Value, e = .returned (.agg cs'.toArray) ∧ (∀ w'', Below w0.heap.size w0 w'' → Above w.heap.size w' w'' → RdT1 w'' (inwT p nt) cs') ∧ Below w.heap.size w w'

theorem rdT1_empty (w : World) (k : Int) : RdT1 w (.mk k 0 0 zeroV []) (cellsP k 0 0 zeroV (.slice none 0 0) (.slice none 0 0)) := by
  unfold RdT1
  exact ⟨_, _, [], rfl, ⟨Rd.nil w, fun x h => by cases h⟩, RdS.nil w 8, by unfold RdTs; trivial⟩

theorem free_below {X : Nat → Prop} {w w' : World} {P : World → Prop} (h : Free X w P) (hb : Below w.heap.size w w') : Free X w' P :=
  h.to (agree_below hb hb.size) (fun i h1 h2 => by omega) (fun i _ h => h)
theorem rdS_at (w : World) (LB : Nat) (cs : Array Value) (E : TypeId) (sz n : Nat) (css : List (List Value)) (hh : w.heap[LB]? = some (.cells cs E (0, 0))) (h : cs.toList = css.flatten) (hl : ∀ t ∈ css, t.length = sz) (hn : n = css.length) : RdS w sz (.slice (some ⟨LB, 0, none⟩) n n) css := by
  subst hn
  refine ⟨some ⟨LB, 0, none⟩, css.length, rfl, ⟨(fun h => by cases h), Nat.le_refl _⟩, fun k t ht => ⟨LB, 0, rfl, fun j u hu => ?_⟩⟩
  rw [cell_of_row _ LB _ _ _ _ hh, Nat.zero_add, ← Array.getElem?_toList, h]
  exact flatten_at css sz hl k t j u ht hu
theorem rdT1_op {w : World} {k c o o' : Int} {v : Vc} {l : List Pt} {s ls : Value} (h : RdT1 w (.mk k c o v l) (cellsP k c o v s ls)) : RdT1 w (.mk k c o' v l) (cellsP k c o' v s ls) := by
  unfold RdT1 at h ⊢
  obtain ⟨s', ls', css, e, h1, h2, h3⟩ := h
  have e6 : some s = some s' := congrArg (fun x => x[6]?) e
  have e7 : some ls = some ls' := congrArg (fun x => x[7]?) e
  cases e6
  cases e7
  exact ⟨s, ls, css, rfl, h1, h2, h3⟩

set_option maxRecDepth 100000 in
set_option maxHeartbeats 4000000 in
theorem inw_1 (c o : Int) (v : Vc) (l : List Pt) : InwOK (.mk 1 c o v l) := by
  intro nt cs w0 w hr hb hsz0
  clear hb hsz0
  unfold RdT1 at hr
  obtain ⟨s, ls, css, rfl, hok, hls, hts⟩ := hr
  obtain ⟨sa, sc, hes⟩ := rd_shape8 hok.1
  obtain ⟨ea, ec, hel⟩ := rdS_shape hls
  simp only at hes
  subst hes hel
  obtain ⟨vu, vk, vn, vb⟩ := v
  obtain ⟨n, hn⟩ : ∃ n, n = css.length := ⟨_, rfl⟩
  obtain ⟨m, hm⟩ : ∃ m, m = vb.length := ⟨_, rfl⟩
  unfold cellsP
  simp only
  rw [← hn, ← hm]
  clear hok hls hts hn hm
  cases nt
  · have HT := Lib.hid (show inwT (.mk 1 c o ⟨vu, vk, vn, vb⟩ l) false = .mk 4 0 0 zeroV [] by unfold inwT; simp)
    go_enter Try.func70, Try.ntmps70
    go_wp2_with fail
    refine bodyPost_ret (results_cell_row rfl _ _ (w.heap.size + 1) _ _ (0, 0) _ rfl (heap2 w _ _) Try.underlying31 rfl infoPred8) rfl ?_
    exact ⟨cellsP 4 0 0 zeroV (.slice none 0 0) (.slice none 0 0), rfl, (fun w'' _ _ => by rw [HT.out]; exact rdT1_empty w'' 4), below2 w _ _⟩
  · have HT := Lib.hid (show inwT (.mk 1 c o ⟨vu, vk, vn, vb⟩ l) true = .mk 5 0 0 zeroV [] by unfold inwT; simp)
    go_enter Try.func70, Try.ntmps70
    go_wp2_with fail
    refine bodyPost_ret (results_cell_row rfl _ _ (w.heap.size + 1) _ _ (0, 0) _ rfl (heap2 w _ _) Try.underlying31 rfl infoPred8) rfl ?_
    exact ⟨cellsP 5 0 0 zeroV (.slice none 0 0) (.slice none 0 0), rfl, (fun w'' _ _ => by rw [HT.out]; exact rdT1_empty w'' 5), below2 w _ _⟩

set_option maxRecDepth 100000 in
set_option maxHeartbeats 4000000 in
theorem inw_3 (c o : Int) (v : Vc) (l : List Pt) : InwOK (.mk 3 c o v l) := by
  intro nt cs w0 w hr hb hsz0
  have HR := Lib.hid hr
  clear hb hsz0
  unfold RdT1 at hr
  obtain ⟨s, ls, css, rfl, hok, hls, hts⟩ := hr
  obtain ⟨sa, sc, hes⟩ := rd_shape8 hok.1
  obtain ⟨ea, ec, hel⟩ := rdS_shape hls
  simp only at hes
  subst hes hel
  obtain ⟨vu, vk, vn, vb⟩ := v
  obtain ⟨n, hn⟩ : ∃ n, n = css.length := ⟨_, rfl⟩
  obtain ⟨m, hm⟩ : ∃ m, m = vb.length := ⟨_, rfl⟩
  unfold cellsP at HR ⊢
  simp only at HR ⊢
  rw [← hn, ← hm] at HR ⊢
  clear hok hls hts hn hm
  cases nt
  · have HT := Lib.hid (show inwT (.mk 3 c o ⟨vu, vk, vn, vb⟩ l) false = .mk 3 c o ⟨vu, vk, vn, vb⟩ l by unfold inwT; simp)
    go_enter Try.func70, Try.ntmps70
    go_wp2_with fail
    refine bodyPost_ret (results_cell_row rfl _ _ (w.heap.size + 1) _ _ (0, 0) _ rfl (heap2 w _ _) Try.underlying31 rfl infoPred8) rfl ?_
    exact ⟨_, rfl, (fun w'' hb _ => by rw [HT.out]; exact RdT1.kept hb _ HR.out), below2 w _ _⟩
  · have HT := Lib.hid (show inwT (.mk 3 c o ⟨vu, vk, vn, vb⟩ l) true = .mk 6 0 0 zeroV [.mk 3 c o ⟨vu, vk, vn, vb⟩ l] by unfold inwT; simp)
    go_enter Try.func70, Try.ntmps70
    go_wp2_with fail
    refine bodyPost_ret (results_cell_row rfl _ _ (w.heap.size + 1) _ _ (0, 0) _ rfl (heap3 w _ _ _) Try.underlying31 rfl infoPred8) rfl ?_
    refine ⟨_, rfl, ?_, (below2 w _ _).trans ((below_alloc _ _).mono (below2 w _ _).size)⟩
    rw [HT.out]
    intro w'' hb ag
    have h1 := RdT1.kept hb _ HR.out
    have hsz : ((w.alloc (.cells #[.int .i64 3, .int .i64 c, .int .i64 o, .bool vu, .int .i64 vk, .int .i64 vn, .slice sa m sc, .slice ea n ec] 31)).alloc (.cells #[.int .i64 6, .int .i64 0, .int .i64 0, .bool false, .int .i64 0, .int .i64 0, .slice none 0 0, .slice (some ⟨w.heap.size + 1 + 1, 0, none⟩) 1 1] 31)).heap.size = w.heap.size + 1 + 1 := by simp
    have hl := heap_alloc_new ((w.alloc (.cells #[.int .i64 3, .int .i64 c, .int .i64 o, .bool vu, .int .i64 vk, .int .i64 vn, .slice sa m sc, .slice ea n ec] 31)).alloc (.cells #[.int .i64 6, .int .i64 0, .int .i64 0, .bool false, .int .i64 0, .int .i64 0, .slice none 0 0, .slice (some ⟨w.heap.size + 1 + 1, 0, none⟩) 1 1] 31)) (.cells #[.int .i64 3, .int .i64 c, .int .i64 o, .bool vu, .int .i64 vk, .int .i64 vn, .slice sa m sc, .slice ea n ec] 31)
    rw [hsz] at hl
    have hl2 := (ag (w.heap.size + 1 + 1) (by omega) (Array.getElem?_eq_some_iff.1 hl).1).trans hl
    unfold RdT1
    exact ⟨_, _, [_], rfl, ⟨Rd.nil _, fun x h => by cases h⟩, rdS_at w'' _ _ _ 8 1 [_] hl2 (by simp) (fun t ht => by rw [List.mem_singleton.1 ht]; rfl) rfl, rdTs_one h1⟩

set_option maxRecDepth 100000 in
set_option maxHeartbeats 4000000 in
theorem inw_2 (c o : Int) (v : Vc) (l : List Pt) (ho1 : 1 ≤ o) (ho2 : o ≤ 6) : InwOK (.mk 2 c o v l) := by
  intro nt cs w0 w hr hb hsz0
  have HR := Lib.hid hr
  clear hb hsz0
  unfold RdT1 at hr
  obtain ⟨s, ls, css, rfl, hok, hls, hts⟩ := hr
  have HOK := Lib.hid hok
  have HLS := Lib.hid hls
  have HTS := Lib.hid hts
  obtain ⟨sa, sc, hes⟩ := rd_shape8 hok.1
  obtain ⟨ea, ec, hel⟩ := rdS_shape hls
  simp only at hes
  subst hes hel
  obtain ⟨vu, vk, vn, vb⟩ := v
  obtain ⟨n, hn⟩ : ∃ n, n = css.length := ⟨_, rfl⟩
  obtain ⟨m, hm⟩ : ∃ m, m = vb.length := ⟨_, rfl⟩
  unfold cellsP at HR ⊢
  simp only at HR HOK ⊢
  rw [← hn, ← hm] at HR ⊢
  rw [← hn] at HLS
  rw [← hm] at HOK
  clear hok hls hts hn hm
  cases nt
  · have HT := Lib.hid (show inwT (.mk 2 c o ⟨vu, vk, vn, vb⟩ l) false = .mk 2 c o ⟨vu, vk, vn, vb⟩ l by unfold inwT; simp)
    go_enter Try.func70, Try.ntmps70
    go_wp2_with fail
    refine bodyPost_ret (results_cell_row rfl _ _ (w.heap.size + 1) _ _ (0, 0) _ rfl (heap2 w _ _) Try.underlying31 rfl infoPred8) rfl ?_
    exact ⟨_, rfl, (fun w'' hb _ => by rw [HT.out]; exact RdT1.kept hb _ HR.out), below2 w _ _⟩
  · have HT := Lib.hid (show inwT (.mk 2 c o ⟨vu, vk, vn, vb⟩ l) true = .mk 2 c (opN o) ⟨vu, vk, vn, vb⟩ l by unfold inwT; simp)
    go_enter Try.func70, Try.ntmps70
    go_upto_region 10 with (fail)
    obtain ⟨W, hW⟩ : ∃ W : World, W = (w.alloc (.cells #[.int .i64 2, .int .i64 c, .int .i64 o, .bool vu, .int .i64 vk, .int .i64 vn, .slice sa m sc, .slice ea n ec] 31)).alloc (.cells #[.int .i64 0, .int .i64 0, .int .i64 0, .bool false, .int .i64 0, .int .i64 0, .slice none 0 0, .slice none 0 0] 31) := ⟨_, rfl⟩
    rw [← hW]
    have HX0 := Lib.hid (show W.heap[w.heap.size]? = some (.cells #[.int .i64 2, .int .i64 c, .int .i64 o, .bool vu, .int .i64 vk, .int .i64 vn, .slice sa m sc, .slice ea n ec] 31 (0, 0)) by rw [hW]; exact (heap_alloc_old _ _ (by simp)).trans (heap_alloc_new w _))
    have HY0 := Lib.hid (show W.heap[w.heap.size + 1]? = some (.cells #[.int .i64 0, .int .i64 0, .int .i64 0, .bool false, .int .i64 0, .int .i64 0, .slice none 0 0, .slice none 0 0] 31 (0, 0)) by rw [hW]; exact heap2 w _ _)
    have HB0 := Lib.hid (show Below w.heap.size w W by rw [hW]; exact below2 w _ _)
    obtain ⟨PB, hPB⟩ : ∃ PB, PB = w.heap.size := ⟨_, rfl⟩
    obtain ⟨RB, hRB⟩ : ∃ RB, RB = PB + 1 := ⟨_, rfl⟩
    rw [← hPB] at HX0 HY0 ⊢
    rw [← hRB] at HY0 ⊢
    have HPR := Lib.hid (show w.heap.size ≤ PB ∧ w.heap.size ≤ RB ∧ RB ≠ PB ∧ PB ≠ RB by omega)
    clear hW hPB hRB
    have p0 : W.cell? ⟨PB, 0, none⟩ = some (.int .i64 2) := by rw [cell_of_row W PB 0 _ _ _ HX0.out]; rfl
    have p1 : W.cell? ⟨PB, 1, none⟩ = some (.int .i64 c) := by rw [cell_of_row W PB 1 _ _ _ HX0.out]; rfl
    have p2 : W.cell? ⟨PB, 2, none⟩ = some (.int .i64 o) := by rw [cell_of_row W PB 2 _ _ _ HX0.out]; rfl
    have p3 : W.cell? ⟨PB, 3, none⟩ = some (.bool vu) := by rw [cell_of_row W PB 3 _ _ _ HX0.out]; rfl
    have p4 : W.cell? ⟨PB, 4, none⟩ = some (.int .i64 vk) := by rw [cell_of_row W PB 4 _ _ _ HX0.out]; rfl
    have p5 : W.cell? ⟨PB, 5, none⟩ = some (.int .i64 vn) := by rw [cell_of_row W PB 5 _ _ _ HX0.out]; rfl
    have p6 : W.cell? ⟨PB, 6, none⟩ = some (.slice sa m sc) := by rw [cell_of_row W PB 6 _ _ _ HX0.out]; rfl
    have p7 : W.cell? ⟨PB, 7, none⟩ = some (.slice ea n ec) := by rw [cell_of_row W PB 7 _ _ _ HX0.out]; rfl
    go_wp2_with fail
    refine (refOther_any o ho1 ho2 W).mono ?_
    rintro e W2 ⟨rfl, hb2⟩
    have hx := (hb2.block PB (Array.getElem?_eq_some_iff.1 HX0.out).1).trans HX0.out
    have hy := (hb2.block RB (Array.getElem?_eq_some_iff.1 HY0.out).1).trans HY0.out
    have HX2 := Lib.hid hx
    have HY2 := Lib.hid hy
    have HB2 := Lib.hid (below_then HB0.out hb2)
    obtain ⟨h1, h2, hne1, hne2⟩ := HPR.out
    clear hb2 p0 p1 p2 p3 p4 p5 p6 p7
    have p0 : W2.cell? ⟨PB, 0, none⟩ = some (.int .i64 2) := by rw [cell_of_row W2 PB 0 _ _ _ hx]; rfl
    have pf0 : W2.frozen? ⟨PB, 0, none⟩ = false := frozen_of_row W2 PB 0 _ _ hx
    have p1 : W2.cell? ⟨PB, 1, none⟩ = some (.int .i64 c) := by rw [cell_of_row W2 PB 1 _ _ _ hx]; rfl
    have pf1 : W2.frozen? ⟨PB, 1, none⟩ = false := frozen_of_row W2 PB 1 _ _ hx
    have p2 : W2.cell? ⟨PB, 2, none⟩ = some (.int .i64 o) := by rw [cell_of_row W2 PB 2 _ _ _ hx]; rfl
    have pf2 : W2.frozen? ⟨PB, 2, none⟩ = false := frozen_of_row W2 PB 2 _ _ hx
    have p3 : W2.cell? ⟨PB, 3, none⟩ = some (.bool vu) := by rw [cell_of_row W2 PB 3 _ _ _ hx]; rfl
    have pf3 : W2.frozen? ⟨PB, 3, none⟩ = false := frozen_of_row W2 PB 3 _ _ hx
    have p4 : W2.cell? ⟨PB, 4, none⟩ = some (.int .i64 vk) := by rw [cell_of_row W2 PB 4 _ _ _ hx]; rfl
    have pf4 : W2.frozen? ⟨PB, 4, none⟩ = false := frozen_of_row W2 PB 4 _ _ hx
    have p5 : W2.cell? ⟨PB, 5, none⟩ = some (.int .i64 vn) := by rw [cell_of_row W2 PB 5 _ _ _ hx]; rfl
    have pf5 : W2.frozen? ⟨PB, 5, none⟩ = false := frozen_of_row W2 PB 5 _ _ hx
    have p6 : W2.cell? ⟨PB, 6, none⟩ = some (.slice sa m sc) := by rw [cell_of_row W2 PB 6 _ _ _ hx]; rfl
    have pf6 : W2.frozen? ⟨PB, 6, none⟩ = false := frozen_of_row W2 PB 6 _ _ hx
    have p7 : W2.cell? ⟨PB, 7, none⟩ = some (.slice ea n ec) := by rw [cell_of_row W2 PB 7 _ _ _ hx]; rfl
    have pf7 : W2.frozen? ⟨PB, 7, none⟩ = false := frozen_of_row W2 PB 7 _ _ hx
    have z0 : W2.cell? ⟨RB, 0, none⟩ = some (.int .i64 0) := by rw [cell_of_row W2 RB 0 _ _ _ hy]; rfl
    have zf0 : W2.frozen? ⟨RB, 0, none⟩ = false := frozen_of_row W2 RB 0 _ _ hy
    have z1 : W2.cell? ⟨RB, 1, none⟩ = some (.int .i64 0) := by rw [cell_of_row W2 RB 1 _ _ _ hy]; rfl
    have zf1 : W2.frozen? ⟨RB, 1, none⟩ = false := frozen_of_row W2 RB 1 _ _ hy
    have z2 : W2.cell? ⟨RB, 2, none⟩ = some (.int .i64 0) := by rw [cell_of_row W2 RB 2 _ _ _ hy]; rfl
    have zf2 : W2.frozen? ⟨RB, 2, none⟩ = false := frozen_of_row W2 RB 2 _ _ hy
    have z3 : W2.cell? ⟨RB, 3, none⟩ = some (.bool false) := by rw [cell_of_row W2 RB 3 _ _ _ hy]; rfl
    have zf3 : W2.frozen? ⟨RB, 3, none⟩ = false := frozen_of_row W2 RB 3 _ _ hy
    have z4 : W2.cell? ⟨RB, 4, none⟩ = some (.int .i64 0) := by rw [cell_of_row W2 RB 4 _ _ _ hy]; rfl
    have zf4 : W2.frozen? ⟨RB, 4, none⟩ = false := frozen_of_row W2 RB 4 _ _ hy
    have z5 : W2.cell? ⟨RB, 5, none⟩ = some (.int .i64 0) := by rw [cell_of_row W2 RB 5 _ _ _ hy]; rfl
    have zf5 : W2.frozen? ⟨RB, 5, none⟩ = false := frozen_of_row W2 RB 5 _ _ hy
    have z6 : W2.cell? ⟨RB, 6, none⟩ = some (.slice none 0 0) := by rw [cell_of_row W2 RB 6 _ _ _ hy]; rfl
    have zf6 : W2.frozen? ⟨RB, 6, none⟩ = false := frozen_of_row W2 RB 6 _ _ hy
    have z7 : W2.cell? ⟨RB, 7, none⟩ = some (.slice none 0 0) := by rw [cell_of_row W2 RB 7 _ _ _ hy]; rfl
    have zf7 : W2.frozen? ⟨RB, 7, none⟩ = false := frozen_of_row W2 RB 7 _ _ hy
    clear hx hy
    go_wp2_with fail
    have hy3 : (W2.setCell ⟨PB, 2, none⟩ (.int .i64 (opN o))).heap[RB]? = some (.cells #[.int .i64 0, .int .i64 0, .int .i64 0, .bool false, .int .i64 0, .int .i64 0, .slice none 0 0, .slice none 0 0] 31 (0, 0)) := (heap_setCell_other W2 ⟨PB, 2, none⟩ RB _ hne1).trans HY2.out
    refine bodyPost_ret (results_cell_row rfl _ _ RB _ _ (0, 0) _ rfl (eight_heap hy3) Try.underlying31 rfl infoPred8) rfl ?_
    have hgs : ∀ i u (wx : World), Below w.heap.size w wx → Below w.heap.size w (wx.setCell ⟨RB, i, none⟩ u) := fun i u wx h => h.setCell (p := ⟨RB, i, none⟩) h2 _
    have hbf := hgs 7 (.slice ea n ec) _ (hgs 6 (.slice sa m sc) _ (hgs 5 (.int .i64 vn) _ (hgs 4 (.int .i64 vk) _ (hgs 3 (.bool vu) _ (hgs 2 (.int .i64 (opN o)) _ (hgs 1 (.int .i64 c) _ (hgs 0 (.int .i64 2) _ (HB2.out.setCell (p := ⟨PB, 2, none⟩) h1 (.int .i64 (opN o))))))))))
    refine ⟨_, rfl, ?_, hbf⟩
    rw [HT.out]
    intro w'' hb ag
    exact rdT1_op (RdT1.kept hb _ HR.out)

end Go.Proofs.Ytfmkalnnpddefaa
