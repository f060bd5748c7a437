/-
  Contracts of package txns: what other rows one owns stay as they are.
-/
import Derived.Test.YtdelcaijehcaeaaTxd
import Derived.Deep.RegionLaw
import Derived.Deep.AppendLies
namespace Go.Proofs.Ytdelcaijehcaeaa
set_option linter.unusedVariables false
open Go.RowKit

/-- Block a is neither the book g nor its row. -/
def Far (w : World) (g a : Nat) : Prop := a < w.heap.size ∧ a ≠ g ∧ ∀ x v, w.heap[g]? = some (.cells #[x, v] 53 (0, 0)) → v.ownBlock ≠ some a

theorem size_setCell (w : World) (p : Addr) (v : Value) : (w.setCell p v).heap.size = w.heap.size := by simp [World.setCell]

theorem far_set {w : World} {g gg j : Nat} {u v : Value} {n cap : Nat} (hg : w.heap[g]? = some (.cells #[u, .slice (some ⟨gg, 0, none⟩) n cap] 53 (0, 0))) (hgg : gg ≠ g) :
    ∀ a, Far w g a → (w.setCell ⟨gg, j, none⟩ v).heap[a]? = w.heap[a]? ∧ Far (w.setCell ⟨gg, j, none⟩ v) g a := by
  intro a ha
  have hne : a ≠ gg := by
    intro h
    exact ha.2.2 _ _ hg (by rw [h]; rfl)
  have hg2 : (w.setCell ⟨gg, j, none⟩ v).heap[g]? = w.heap[g]? := heap_setCell_other w ⟨gg, j, none⟩ g v (fun h => hgg h.symm)
  exact ⟨heap_setCell_other w ⟨gg, j, none⟩ a v hne, by rw [size_setCell]; exact ha.1, ha.2.1, fun x v' h => ha.2.2 x v' (hg2 ▸ h)⟩

theorem far_now {w : World} {g : Nat} {u x v : Value} (hg : w.heap[g]? = some (.cells #[x, v] 53 (0, 0))) :
    ∀ a, Far w g a → (w.setCell ⟨g, 0, none⟩ u).heap[a]? = w.heap[a]? ∧ Far (w.setCell ⟨g, 0, none⟩ u) g a := by
  intro a ha
  have hst := heap_setCell_same w g 0 _ _ u hg
  refine ⟨heap_setCell_other w ⟨g, 0, none⟩ a u ha.2.1, by rw [size_setCell]; exact ha.1, ha.2.1, fun x' v' h => ?_⟩
  rw [hst] at h
  simp only [Option.some.injEq, Obj.cells.injEq] at h
  have h2 : v = v' := by simpa using (by simpa using h : u = x' ∧ v = v').2
  rw [← h2]
  exact ha.2.2 _ _ hg

theorem far_begin {g gg now n cap cap1 : Nat} {w w1 : World} {ao : Option Addr} {o : Obj} (lg : g < w.heap.size)
    (hne : (Value.slice ao n cap).ownBlock ≠ some g) (hg : w.heap[g]? = some (.cells #[.int .i64 (now : Int), .slice ao n cap] 53 (0, 0)))
    (hgrow : (w.alloc o).drew.grownBy w1 (Value.slice ao n cap).ownBlock) (hat : (Value.slice ao n cap).ownBlock = some gg ∨ gg = w.heap.size + 1) :
    ∀ a, Far w g a → (w1.setCell ⟨g, 1, none⟩ (.slice (some ⟨gg, 0, none⟩) (n + 1) cap1)).heap[a]? = w.heap[a]? ∧ Far (w1.setCell ⟨g, 1, none⟩ (.slice (some ⟨gg, 0, none⟩) (n + 1) cap1)) g a := by
  intro a ha
  have hsz : (w.alloc o).drew.heap.size = w.heap.size + 1 := by simp
  have hs1 := hgrow.size
  have hna := ha.2.2 _ _ hg
  have h1 : w1.heap[a]? = w.heap[a]? := (hgrow.block a (by rw [hsz]; have := ha.1; omega) (Ne.symm hna)).trans (heap_alloc_old w _ ha.1)
  have hg1 : w1.heap[g]? = some (.cells #[.int .i64 (now : Int), .slice ao n cap] 53 (0, 0)) := (hgrow.block g (by rw [hsz]; omega) (Ne.symm hne)).trans ((heap_alloc_old w _ lg).trans hg)
  have hst := heap_setCell_same w1 g 1 _ _ (.slice (some ⟨gg, 0, none⟩) (n + 1) cap1) hg1
  refine ⟨(heap_setCell_other w1 ⟨g, 1, none⟩ a _ ha.2.1).trans h1, by rw [size_setCell]; have := ha.1; omega, ha.2.1, fun x v h => ?_⟩
  rw [hst] at h
  have h2 : v = .slice (some ⟨gg, 0, none⟩) (n + 1) cap1 := by
    simp only [Option.some.injEq, Obj.cells.injEq] at h
    have := h.1
    simp at this
    exact this.2.symm
  rw [h2]
  intro h3
  simp only [Value.ownBlock, Option.some.injEq] at h3
  rcases hat with h4 | h4
  · exact hna (by rw [h4, h3])
  · have := ha.1; omega

set_option maxRecDepth 100000 in
set_option maxHeartbeats 1000000 in
theorem commit_yes_far (B g now : Nat) (l : List Tx) (w : World) (id : Int) (h : IsBk B w g now l) (hl : l.length ≤ 1000000) (h1 : -9223372036854775808 ≤ id) (h2 : id ≤ 9223372036854775807) (hn : isT l id 2 = true) :
    Calls Try.prog 49 #[.pointer (some ⟨g, 0, none⟩), .int .i64 id] w fun e w' => e = .returned (.bool true) ∧ IsBk B w' g now (updT l id fun t => ⟨t.i, 3, t.b, t.e⟩) ∧ Below B w w' ∧ ∀ a, Far w g a → w'.heap[a]? = w.heap[a]? ∧ Far w' g a := by
  have HI := Lib.hid h
  have HN := Lib.hid hn
  obtain ⟨K, t, rfl, hK, ht, hs⟩ := isT_some hn
  obtain ⟨_, _, v, hg, hown, hne⟩ := h
  obtain ⟨gg, cap, rfl, hc⟩ := tx_cells (B := B) (g := g) (now := now) hown ht
  obtain ⟨c0, c1, f0, f1⟩ := bk_cells hg
  have HU := Lib.hid (updT_at (fun t => ⟨t.i, 3, t.b, t.e⟩) ht)
  have HB := Lib.hid (bk_set (t' := ⟨t.i, 3, t.b, t.e⟩) (v := .int .i64 (3 : Int)) HI.out hg ht (show 1 < 4 by decide) rfl)
  have hggf : gg ≠ g := by intro h; apply hne; rw [h]; rfl
  have HF := Lib.hid (fun v => far_set (j := K * 4 + 1) (v := v) hg hggf)
  clear hggf
  have d1 := (hc 1 (by decide)).1
  have e1 := (hc 1 (by decide)).2
  have d2 : w.cell? ⟨gg, K * 4 + 1, none⟩ = some (.int .i64 (t.s : Int)) := by rw [d1]; rfl
  obtain ⟨n, hnn⟩ : ∃ n, n = l.length := ⟨_, rfl⟩
  rw [← hnn] at c1 hK hl HB
  have HNN := Lib.hid hnn
  clear hc d1 hg hown hne ht hs hn hnn
  go_enter Try.func49, Try.ntmps49
  go_wp2_with fail
  refine (is_any B g now l w _ 2 HI.out (by rw [← HNN.out]; exact hl) h1 h2).mono ?_
  rw [HN.out]
  rintro e w' ⟨rfl, rfl⟩
  go_wp2_with fail
  go_ret
  rw [HU.out]
  exact ⟨rfl, HB.out.1, HB.out.2.1, HF.out _⟩

set_option maxRecDepth 100000 in
set_option maxHeartbeats 1000000 in
theorem abort_yes1_far (B g now : Nat) (l : List Tx) (w : World) (id : Int) (h : IsBk B w g now l) (hl : l.length ≤ 1000000) (h1 : -9223372036854775808 ≤ id) (h2 : id ≤ 9223372036854775807) (hn : isT l id 1 = true) :
    Calls Try.prog 50 #[.pointer (some ⟨g, 0, none⟩), .int .i64 id] w fun e w' => e = .returned (.bool true) ∧ IsBk B w' g now (updT l id fun t => ⟨t.i, 4, t.b, t.e⟩) ∧ Below B w w' ∧ ∀ a, Far w g a → w'.heap[a]? = w.heap[a]? ∧ Far w' g a := by
  have HI := Lib.hid h
  have HN := Lib.hid hn
  obtain ⟨K, t, rfl, hK, ht, hs⟩ := isT_some hn
  obtain ⟨_, _, v, hg, hown, hne⟩ := h
  obtain ⟨gg, cap, rfl, hc⟩ := tx_cells (B := B) (g := g) (now := now) hown ht
  obtain ⟨c0, c1, f0, f1⟩ := bk_cells hg
  have HU := Lib.hid (updT_at (fun t => ⟨t.i, 4, t.b, t.e⟩) ht)
  have HB := Lib.hid (bk_set (t' := ⟨t.i, 4, t.b, t.e⟩) (v := .int .i64 (4 : Int)) HI.out hg ht (show 1 < 4 by decide) rfl)
  have hggf : gg ≠ g := by intro h; apply hne; rw [h]; rfl
  have HF := Lib.hid (fun v => far_set (j := K * 4 + 1) (v := v) hg hggf)
  clear hggf
  have d1 := (hc 1 (by decide)).1
  have e1 := (hc 1 (by decide)).2
  have d2 : w.cell? ⟨gg, K * 4 + 1, none⟩ = some (.int .i64 (t.s : Int)) := by rw [d1]; rfl
  obtain ⟨n, hnn⟩ : ∃ n, n = l.length := ⟨_, rfl⟩
  rw [← hnn] at c1 hK hl HB
  have HNN := Lib.hid hnn
  clear hc d1 hg hown hne ht hs hn hnn
  go_enter Try.func50, Try.ntmps50
  go_wp2_with fail
  refine (is_any B g now l w _ 1 HI.out (by rw [← HNN.out]; exact hl) h1 h2).mono ?_
  rw [HN.out]
  rintro e w' ⟨rfl, rfl⟩
  go_wp2_with fail
  go_ret
  rw [HU.out]
  exact ⟨rfl, HB.out.1, HB.out.2.1, HF.out _⟩

set_option maxRecDepth 100000 in
set_option maxHeartbeats 1000000 in
theorem abort_yes2_far (B g now : Nat) (l : List Tx) (w : World) (id : Int) (h : IsBk B w g now l) (hl : l.length ≤ 1000000) (h1 : -9223372036854775808 ≤ id) (h2 : id ≤ 9223372036854775807) (hn : isT l id 2 = true) :
    Calls Try.prog 50 #[.pointer (some ⟨g, 0, none⟩), .int .i64 id] w fun e w' => e = .returned (.bool true) ∧ IsBk B w' g now (updT l id fun t => ⟨t.i, 4, t.b, t.e⟩) ∧ Below B w w' ∧ ∀ a, Far w g a → w'.heap[a]? = w.heap[a]? ∧ Far w' g a := by
  have HI := Lib.hid h
  have HN := Lib.hid hn
  have hn1 : isT l id 1 = false := by
    unfold isT at hn ⊢
    split at hn
    · rename_i t ht; rw [beq_iff_eq] at hn; simp [hn]
    · cases hn
  have HN1 := Lib.hid hn1
  clear hn1
  obtain ⟨K, t, rfl, hK, ht, hs⟩ := isT_some hn
  obtain ⟨_, _, v, hg, hown, hne⟩ := h
  obtain ⟨gg, cap, rfl, hc⟩ := tx_cells (B := B) (g := g) (now := now) hown ht
  obtain ⟨c0, c1, f0, f1⟩ := bk_cells hg
  have HU := Lib.hid (updT_at (fun t => ⟨t.i, 4, t.b, t.e⟩) ht)
  have HB := Lib.hid (bk_set (t' := ⟨t.i, 4, t.b, t.e⟩) (v := .int .i64 (4 : Int)) HI.out hg ht (show 1 < 4 by decide) rfl)
  have hggf : gg ≠ g := by intro h; apply hne; rw [h]; rfl
  have HF := Lib.hid (fun v => far_set (j := K * 4 + 1) (v := v) hg hggf)
  clear hggf
  have d1 := (hc 1 (by decide)).1
  have e1 := (hc 1 (by decide)).2
  have d2 : w.cell? ⟨gg, K * 4 + 1, none⟩ = some (.int .i64 (t.s : Int)) := by rw [d1]; rfl
  obtain ⟨n, hnn⟩ : ∃ n, n = l.length := ⟨_, rfl⟩
  rw [← hnn] at c1 hK hl HB
  have HNN := Lib.hid hnn
  clear hc d1 hg hown hne ht hs hn hnn
  go_enter Try.func50, Try.ntmps50
  go_wp2_with fail
  refine (is_any B g now l w _ 1 HI.out (by rw [← HNN.out]; exact hl) h1 h2).mono ?_
  rw [HN1.out]
  rintro e w' ⟨rfl, rfl⟩
  go_wp2_with fail
  refine (is_any B g now l w _ 2 HI.out (by rw [← HNN.out]; exact hl) h1 h2).mono ?_
  rw [HN.out]
  rintro e w' ⟨rfl, rfl⟩
  go_wp2_with fail
  go_ret
  rw [HU.out]
  exact ⟨rfl, HB.out.1, HB.out.2.1, HF.out _⟩

set_option maxRecDepth 100000 in
set_option maxHeartbeats 2000000 in
theorem prep_yes_far (B g now : Nat) (l : List Tx) (w : World) (id : Int) (h : IsBk B w g now l) (hl : l.length ≤ 1000000) (hnow : now ≤ 4000000000) (h1 : -9223372036854775808 ≤ id) (h2 : id ≤ 9223372036854775807) (hn : isT l id 1 = true) :
    Calls Try.prog 27 #[.pointer (some ⟨g, 0, none⟩), .int .i64 id] w fun e w' => e = .returned (.tuple #[.int .i64 ((now : Int) + 1), .bool true]) ∧ IsBk B w' g (now + 1) (updT l id fun t => ⟨t.i, 2, t.b, now + 1⟩) ∧ Below B w w' ∧ ∀ a, Far w g a → w'.heap[a]? = w.heap[a]? ∧ Far w' g a := by
  have HI := Lib.hid h
  have HN := Lib.hid hn
  obtain ⟨K, t, rfl, hK, ht, hs⟩ := isT_some hn
  obtain ⟨_, _, v, hg, hown, hne⟩ := h
  obtain ⟨gg, cap, rfl, hc⟩ := tx_cells (B := B) (g := g) (now := now) hown ht
  obtain ⟨c0, c1, f0, f1⟩ := bk_cells hg
  have hgg : gg ≠ g := by intro h; apply hne; rw [h]; rfl
  have HU := Lib.hid (updT_at (fun t => ⟨t.i, 2, t.b, now + 1⟩) ht)
  obtain ⟨b1, b2, b3⟩ := bk_now (now' := now + 1) HI.out hg
  obtain ⟨b4, b5, b6⟩ := bk_set (t' := ⟨t.i, 2, t.b, t.e⟩) (v := .int .i64 (2 : Int)) b1 b3 ht (show 1 < 4 by decide) rfl
  have ht2 : (l.set K ⟨t.i, 2, t.b, t.e⟩)[K]? = some ⟨t.i, 2, t.b, t.e⟩ := by rw [List.getElem?_set_self hK]
  obtain ⟨b7, b8, b9⟩ := bk_set (t' := ⟨t.i, 2, t.b, now + 1⟩) (v := .int .i64 ((now + 1 : Nat) : Int)) b4 b6 ht2 (show 3 < 4 by decide) rfl
  rw [List.set_set] at b7
  have H7 := Lib.hid b7
  have HF := Lib.hid (show ∀ a, Far w g a → (((w.setCell ⟨g, 0, none⟩ (.int .i64 ((now + 1 : Nat) : Int))).setCell ⟨gg, K * 4 + 1, none⟩ (.int .i64 (2 : Int))).setCell ⟨gg, K * 4 + 3, none⟩ (.int .i64 ((now + 1 : Nat) : Int))).heap[a]? = w.heap[a]? ∧ Far (((w.setCell ⟨g, 0, none⟩ (.int .i64 ((now + 1 : Nat) : Int))).setCell ⟨gg, K * 4 + 1, none⟩ (.int .i64 (2 : Int))).setCell ⟨gg, K * 4 + 3, none⟩ (.int .i64 ((now + 1 : Nat) : Int))) g a by
    intro a ha
    obtain ⟨q1, q2⟩ := far_now (u := .int .i64 ((now + 1 : Nat) : Int)) hg a ha
    obtain ⟨q3, q4⟩ := far_set (j := K * 4 + 1) (v := .int .i64 (2 : Int)) b3 hgg a q2
    obtain ⟨q5, q6⟩ := far_set (j := K * 4 + 3) (v := .int .i64 ((now + 1 : Nat) : Int)) b6 hgg a q4
    exact ⟨q5.trans (q3.trans q1), q6⟩)
  have HB := Lib.hid ((b2.trans b5).trans b8)
  have d1 := (hc 1 (by decide)).1
  have e1 := (hc 1 (by decide)).2
  have d3 := (hc 3 (by decide)).1
  have e3 := (hc 3 (by decide)).2
  have d2 : w.cell? ⟨gg, K * 4 + 1, none⟩ = some (.int .i64 (t.s : Int)) := by rw [d1]; rfl
  have d4 : w.cell? ⟨gg, K * 4 + 3, none⟩ = some (.int .i64 (t.e : Int)) := by rw [d3]; rfl
  obtain ⟨n, hnn⟩ : ∃ n, n = l.length := ⟨_, rfl⟩
  rw [← hnn] at c1 hK hl
  have HNN := Lib.hid hnn
  clear hc d1 d3 hg hown hne ht hs hn hnn b1 b2 b3 b4 b5 b6 b7 b8 b9 ht2
  go_enter Try.func27, Try.ntmps27
  go_wp2_with fail
  refine (is_any B g now l w _ 1 HI.out (by rw [← HNN.out]; exact hl) h1 h2).mono ?_
  rw [HN.out]
  rintro e w' ⟨rfl, rfl⟩
  go_wp2_with fail
  go_ret2
  rw [HU.out]
  exact ⟨rfl, H7.out, HB.out, HF.out⟩

set_option maxRecDepth 100000 in
set_option maxHeartbeats 1000000 in
theorem bkbegin_far (B g now : Nat) (l : List Tx) (w : World) (h : IsBk B w g now l) (hl : l.length ≤ 1000000) :
    Calls Try.prog 25 #[.pointer (some ⟨g, 0, none⟩)] w fun e w' => e = .returned (.int .i64 ((l.length + 1 : Nat) : Int)) ∧ IsBk B w' g now (l ++ [⟨l.length + 1, 1, now, 0⟩]) ∧ Below B w w' ∧ ∀ a, Far w g a → w'.heap[a]? = w.heap[a]? ∧ Far w' g a := by
  obtain ⟨hBg, hBw, v, hg, hown, hne⟩ := h
  obtain ⟨c0, c1, f0, f1⟩ := bk_cells hg
  obtain ⟨n, hn⟩ : ∃ n, n = l.length := ⟨_, rfl⟩
  rw [← hn] at hown hl ⊢
  obtain ⟨ao, cap, hv⟩ := own_shape hown
  subst hv
  have lg := World.block_lt_of_cell? w _ c0
  have HN := Lib.hid hn
  have HG := Lib.hid hg
  clear hn hg
  obtain ⟨i0, hi0, hz0, hz1, hz2⟩ := info_parts infoTx
  go_enter Try.func25, Try.ntmps25
  go_wp2_with fail
  go_region_law
    ((refine step_append_lies _ (by rfl) _ _ _ (by rfl) B 47 i0 _ 4 32 Try.underlying44 hi0 hz0 hz1 hz2 rfl (by omega) (.slice ao n cap) n (flat l) (by rfl) ((hown.alloc _).drew)
        ⟨w.heap.size, 0, none⟩ 1 1 [.int .i64 ((n : Int) + 1), .int .i64 1, .int .i64 (now : Int), .int .i64 0] (by rfl) (by rfl) (World.news_of_block (cs := #[.int .i64 ((n : Int) + 1), .int .i64 1, .int .i64 (now : Int), .int .i64 0]) (t := 47) (fr := (0, 0)) (heap_alloc_new w _)) (by simp [Value.oneCell'])
        (by omega) (by unfold maxLen; omega) (by omega) (by simp; omega) (w.heap.size + 1) (by simp) ?_; intro gg cap1 w1 hown1 hgrow hat hlt; have hf1 : w1.frozen? ⟨g, 1, none⟩ = false := (World.frozen?_of_block (a := ⟨g, 1, none⟩) (hgrow.block g (by simp; omega) (Ne.symm hne))).trans ((frozen?_alloc_cells _ _ _ _).trans f1); have hcw : w1.cell? ⟨g, 1, none⟩ = some (.slice ao n cap) := (hgrow.cell_far ⟨g, 1, none⟩ (by simp; omega) (Ne.symm hne)).trans (Lib.cell?_alloc_some _ c1)))
  all_goals
    go_wp2
    go_ret
    obtain ⟨p1, p2, p3⟩ := bkbegin_end HN.out hBg hBw lg hne hown HG.out hown1 hgrow hat rfl
    exact ⟨p1, p2, p3, far_begin lg hne HG.out hgrow hat⟩

end Go.Proofs.Ytdelcaijehcaeaa
