import Derived.Test.YtmpgnjhgegbdkaaGreatRowops
import Derived.Test.YtmpgnjhgegbdkaaGreatLsix
import Derived.Test.YtmpgnjhgegbdkaaGreatLseven
import Derived.Deep.CutBlock
import Derived.Deep.DeepCutAuto
set_option linter.unusedVariables false
set_option linter.unusedSimpArgs false
set_option maxRecDepth 100000
set_option maxHeartbeats 8000000
open Go.Lib (hid)
namespace Go.Proofs.YtmpgnjhgegbdkaaGreat
open Go.RowKit
open _root_.List renaming cons_append -> Qa, nil_append -> Qb
open _root_.Array renaming getElem?_eq_some_iff -> Qc
open _root_.Nat renaming le_refl -> Qd
open Go renaming cell_of_row -> Qe, frozen_of_row -> Qf, heap_setCell_same -> Qg, heap_setCell_other -> Qh
structure Zv where
 n : Int
 lo : Vc × Value
 hi : Vc × Value
def cellsZ (z : Zv) : List Value := .int .i64 z.n :: (cellsV z.lo ++ cellsV z.hi)
def OkZ (w : World) (z : Zv) : Prop := OkV w z.lo ∧ OkV w z.hi
theorem OkZ.kept {w w' : World} {z : Zv} (h : OkZ w z) (hb : Below w.heap.size w w') : OkZ w' z := ⟨h.1.kept hb, h.2.kept hb⟩
def loW (lo v : Vc × Value) : Vc × Value := if lo.1.u = true ∨ cmpT v.1 lo.1 < 0 then v else lo
def hiW (hi v : Vc × Value) : Vc × Value := if hi.1.u = true ∨ 0 < cmpT v.1 hi.1 then v else hi
def widen (z : Zv) (v : Vc × Value) : Zv := if v.1.u = true then ⟨z.n + 1, z.lo, z.hi⟩ else ⟨z.n, loW z.lo v, hiW z.hi v⟩
theorem zQ4 {w : World} {z : Zv} {v : Vc × Value} (h : OkZ w z) (k : OkV w v) : OkZ w (widen z v) := by
 unfold widen
 split
 ·exact h
 ·refine ⟨?_, ?_⟩
  ·show OkV w (loW z.lo v)
   unfold loW
   split
   ·exact k
   ·exact h.1
  ·show OkV w (hiW z.hi v)
   unfold hiW
   split
   ·exact k
   ·exact h.2
theorem zFf : (Tryz.prog.info? 103).map (·.size) = some 9 := by kernel_rfl
theorem zQ5 : (Tryz.prog.info? 103).map (fun i => (i.zero, i.size, i.bytes)) = some (some (.agg #[.int .i64 0, .bool false, .int .i64 0, .int .i64 0, .slice none 0 0, .bool false, .int .i64 0, .int .i64 0, .slice none 0 0]), 9, 104) := by kernel_rfl
theorem zJc {w : World} {X : Nat} {a0 a1 a2 a3 a4 a5 a6 a7 a8 b1 b2 b3 b4 : Value} {T : TypeId} (h : w.heap[X]? = some (.cells #[a0, a1, a2, a3, a4, a5, a6, a7, a8] T (0, 0))) :
  ((((w.setCell ⟨X, 1, none⟩ b1).setCell ⟨X, 2, none⟩ b2).setCell ⟨X, 3, none⟩ b3).setCell ⟨X, 4, none⟩ b4).heap[X]? = some (.cells #[a0, b1, b2, b3, b4, a5, a6, a7, a8] T (0, 0)) := by
 have h1 := Qg w X 1 _ _ b1 h
 have h2 := Qg _ X 2 _ _ b2 h1
 have h3 := Qg _ X 3 _ _ b3 h2
 have h4 := Qg _ X 4 _ _ b4 h3
 rw [h4]
 simp
theorem zSi {w : World} {X : Nat} {a0 a1 a2 a3 a4 a5 a6 a7 a8 b5 b6 b7 b8 : Value} {T : TypeId} (h : w.heap[X]? = some (.cells #[a0, a1, a2, a3, a4, a5, a6, a7, a8] T (0, 0))) :
  ((((w.setCell ⟨X, 5, none⟩ b5).setCell ⟨X, 6, none⟩ b6).setCell ⟨X, 7, none⟩ b7).setCell ⟨X, 8, none⟩ b8).heap[X]? = some (.cells #[a0, a1, a2, a3, a4, b5, b6, b7, b8] T (0, 0)) := by
 have h1 := Qg w X 5 _ _ b5 h
 have h2 := Qg _ X 6 _ _ b6 h1
 have h3 := Qg _ X 7 _ _ b7 h2
 have h4 := Qg _ X 8 _ _ b8 h3
 rw [h4]
 simp
theorem zD7 {w : World} {X : Nat} {a0 a1 a2 a3 a4 a5 a6 a7 a8 b0 b1 b2 b3 b4 b5 b6 b7 b8 : Value} {T : TypeId} (h : w.heap[X]? = some (.cells #[a0, a1, a2, a3, a4, a5, a6, a7, a8] T (0, 0))) :
  (((((((((w.setCell ⟨X, 0, none⟩ b0).setCell ⟨X, 1, none⟩ b1).setCell ⟨X, 2, none⟩ b2).setCell ⟨X, 3, none⟩ b3).setCell ⟨X, 4, none⟩ b4).setCell ⟨X, 5, none⟩ b5).setCell ⟨X, 6, none⟩ b6).setCell ⟨X, 7, none⟩ b7).setCell ⟨X, 8, none⟩ b8).heap[X]? = some (.cells #[b0, b1, b2, b3, b4, b5, b6, b7, b8] T (0, 0)) := by
 have h0 := Qg w X 0 _ _ b0 h
 have h1 := zJc (b1 := b1) (b2 := b2) (b3 := b3) (b4 := b4) (show (w.setCell ⟨X, 0, none⟩ b0).heap[X]? = some (.cells #[b0, a1, a2, a3, a4, a5, a6, a7, a8] T (0, 0)) by rw [h0]; simp)
 exact zSi h1
theorem zHq {w wx : World} {B X : Nat} (h : Below B w wx) (hx : B <= X) (i j k l : Nat) (a b c d : Value) : Below B w ((((wx.setCell ⟨X, i, none⟩ a).setCell ⟨X, j, none⟩ b).setCell ⟨X, k, none⟩ c).setCell ⟨X, l, none⟩ d) :=
 (((h.setCell (p := ⟨X, i, none⟩) hx a).setCell (p := ⟨X, j, none⟩) hx b).setCell (p := ⟨X, k, none⟩) hx c).setCell (p := ⟨X, l, none⟩) hx d
theorem zCg (w : World) (X Y i j k l : Nat) (a b c d : Value) (h : Y ≠ X) : ((((w.setCell ⟨X, i, none⟩ a).setCell ⟨X, j, none⟩ b).setCell ⟨X, k, none⟩ c).setCell ⟨X, l, none⟩ d).heap[Y]? = w.heap[Y]? := by
 rw [Qh _ _ _ _ h, Qh _ _ _ _ h, Qh _ _ _ _ h, Qh _ _ _ _ h]
def WSt (w : World) (B0 B1 B2 : Nat) (z : Zv) (v : Vc × Value) (wx : World) : Prop :=
 wx.heap[B0]? = some (.cells (cellsZ z).toArray 103 (0, 0)) ∧ wx.heap[B1]? = some (.cells (cellsV v).toArray 31 (0, 0)) ∧ wx.heap[B2]? = some (.cells #[.int .i64 0, .bool false, .int .i64 0, .int .i64 0, .slice none 0 0, .bool false, .int .i64 0, .int .i64 0, .slice none 0 0] 103 (0, 0)) ∧ Below w.heap.size w wx
theorem WSt.on {w wx wy : World} {B0 B1 B2 : Nat} {z : Zv} {v : Vc × Value} (h : WSt w B0 B1 B2 z v wx) (hb : Below wx.heap.size wx wy) : WSt w B0 B1 B2 z v wy := by
 obtain ⟨h0, h1, h2, h3⟩ := h
 exact ⟨(hb.block B0 (Qc.1 h0).1).trans h0, (hb.block B1 (Qc.1 h1).1).trans h1, (hb.block B2 (Qc.1 h2).1).trans h2, zAa h3 hb⟩
theorem zQ6 (w : World) (z : Zv) (v : Vc × Value) : WSt w w.heap.size (w.heap.size + 1) (w.heap.size + 1 + 1) z v (((w.alloc (.cells (cellsZ z).toArray 103)).alloc (.cells (cellsV v).toArray 31)).alloc (.cells #[.int .i64 0, .bool false, .int .i64 0, .int .i64 0, .slice none 0 0, .bool false, .int .i64 0, .int .i64 0, .slice none 0 0] 103)) :=
 ⟨(heap_alloc_old _ _ (by simp; try omega)).trans ((heap_alloc_old _ _ (by simp)).trans (heap_alloc_new w _)), zHn w _ _ _, (by
  have s2 : ((w.alloc (.cells (cellsZ z).toArray 103)).alloc (.cells (cellsV v).toArray 31)).heap.size = w.heap.size + 1 + 1 := by simp
  have := heap_alloc_new ((w.alloc (.cells (cellsZ z).toArray 103)).alloc (.cells (cellsV v).toArray 31)) (.cells #[.int .i64 0, .bool false, .int .i64 0, .int .i64 0, .slice none 0 0, .bool false, .int .i64 0, .int .i64 0, .slice none 0 0] 103)
  rw [s2] at this
  exact this), zEq w _ _ _⟩
theorem zMr (z : Zv) (v : Vc × Value) (w : World) (hz : OkZ w z) (hv : OkV w v) (h0 : 0 <= z.n) (hn : z.n <= 1000000) :
  Calls Tryz.prog 95 #[.agg (cellsZ z).toArray, aggV v] w fun e w' => e = .returned (.agg (cellsZ (widen z v)).toArray) ∧ Below w.heap.size w w' := by
 have HST := hid (zQ6 w z v)
 have HZ := hid hz
 have HV := hid hv
 have HC := hid fun (a b : Vc × Value) (ha : OkV w a) (hb : OkV w b) (w' : World) (h : Below w.heap.size w w') => zMf a b w' (ha.kept h) (hb.kept h)
 obtain ⟨zn, zl, zh⟩ := z
 obtain ⟨sla, slc, hsl⟩ := zAz hz.1.1
 obtain ⟨sha, shc, hsh⟩ := zAz hz.2.1
 obtain ⟨sva, svc, hsv⟩ := zAz hv.1
 obtain ⟨⟨lu, lk, ln, lb⟩, ls⟩ := zl
 obtain ⟨⟨hu, hk, hn1, hb⟩, hs⟩ := zh
 obtain ⟨⟨vu, vk, vn, vb⟩, vs⟩ := v
 simp only at hsl hsh hsv h0 hn
 subst hsl hsh hsv
 clear hz hv
 cases vu with
 | true =>
  have hst := HST.out
  unfold WSt cellsZ cellsV at hst
  simp only [Qa, Qb] at hst
  obtain ⟨h0', h1', h2', h3'⟩ := hst
  have HW := hid (show widen ⟨zn, (⟨lu, lk, ln, lb⟩, .slice sla lb.length slc), (⟨hu, hk, hn1, hb⟩, .slice sha hb.length shc)⟩ (⟨true, vk, vn, vb⟩, .slice sva vb.length svc) = ⟨zn + 1, (⟨lu, lk, ln, lb⟩, .slice sla lb.length slc), (⟨hu, hk, hn1, hb⟩, .slice sha hb.length shc)⟩ by unfold widen; simp)
  unfold cellsZ cellsV aggV
  simp only [Qa, Qb]
  go_enter Tryz.func95, Tryz.ntmps95
  go_upto_region 1 with (fail)
  obtain ⟨W, hW⟩ : ∃ W : World, W = (((w.alloc (.cells #[.int .i64 zn, .bool lu, .int .i64 lk, .int .i64 ln, .slice sla lb.length slc, .bool hu, .int .i64 hk, .int .i64 hn1, .slice sha hb.length shc] 103)).alloc (.cells #[.bool true, .int .i64 vk, .int .i64 vn, .slice sva vb.length svc] 31)).alloc (.cells #[.int .i64 0, .bool false, .int .i64 0, .int .i64 0, .slice none 0 0, .bool false, .int .i64 0, .int .i64 0, .slice none 0 0] 103)) := ⟨_, rfl⟩
  rw [<- hW]
  replace h0' : W.heap[w.heap.size]? = some (.cells #[.int .i64 zn, .bool lu, .int .i64 lk, .int .i64 ln, .slice sla lb.length slc, .bool hu, .int .i64 hk, .int .i64 hn1, .slice sha hb.length shc] 103 (0, 0)) := by rw [hW]; exact h0'
  replace h1' : W.heap[w.heap.size + 1]? = some (.cells #[.bool true, .int .i64 vk, .int .i64 vn, .slice sva vb.length svc] 31 (0, 0)) := by rw [hW]; exact h1'
  replace h2' : W.heap[w.heap.size + 1 + 1]? = some (.cells #[.int .i64 0, .bool false, .int .i64 0, .int .i64 0, .slice none 0 0, .bool false, .int .i64 0, .int .i64 0, .slice none 0 0] 103 (0, 0)) := by rw [hW]; exact h2'
  have HB := hid (show Below w.heap.size w W by rw [hW]; exact h3')
  have HH2 := hid h2'
  have pc0 : W.cell? ⟨w.heap.size, 0, none⟩ = some (.int .i64 zn) := by rw [Qe W (w.heap.size) 0 _ _ _ h0']; rfl
  have pf0 : W.frozen? ⟨w.heap.size, 0, none⟩ = false := Qf W (w.heap.size) 0 _ _ h0'
  have pc1 : W.cell? ⟨w.heap.size, 1, none⟩ = some (.bool lu) := by rw [Qe W (w.heap.size) 1 _ _ _ h0']; rfl
  have pf1 : W.frozen? ⟨w.heap.size, 1, none⟩ = false := Qf W (w.heap.size) 1 _ _ h0'
  have pc2 : W.cell? ⟨w.heap.size, 2, none⟩ = some (.int .i64 lk) := by rw [Qe W (w.heap.size) 2 _ _ _ h0']; rfl
  have pf2 : W.frozen? ⟨w.heap.size, 2, none⟩ = false := Qf W (w.heap.size) 2 _ _ h0'
  have pc3 : W.cell? ⟨w.heap.size, 3, none⟩ = some (.int .i64 ln) := by rw [Qe W (w.heap.size) 3 _ _ _ h0']; rfl
  have pf3 : W.frozen? ⟨w.heap.size, 3, none⟩ = false := Qf W (w.heap.size) 3 _ _ h0'
  have pc4 : W.cell? ⟨w.heap.size, 4, none⟩ = some (.slice sla lb.length slc) := by rw [Qe W (w.heap.size) 4 _ _ _ h0']; rfl
  have pf4 : W.frozen? ⟨w.heap.size, 4, none⟩ = false := Qf W (w.heap.size) 4 _ _ h0'
  have pc5 : W.cell? ⟨w.heap.size, 5, none⟩ = some (.bool hu) := by rw [Qe W (w.heap.size) 5 _ _ _ h0']; rfl
  have pf5 : W.frozen? ⟨w.heap.size, 5, none⟩ = false := Qf W (w.heap.size) 5 _ _ h0'
  have pc6 : W.cell? ⟨w.heap.size, 6, none⟩ = some (.int .i64 hk) := by rw [Qe W (w.heap.size) 6 _ _ _ h0']; rfl
  have pf6 : W.frozen? ⟨w.heap.size, 6, none⟩ = false := Qf W (w.heap.size) 6 _ _ h0'
  have pc7 : W.cell? ⟨w.heap.size, 7, none⟩ = some (.int .i64 hn1) := by rw [Qe W (w.heap.size) 7 _ _ _ h0']; rfl
  have pf7 : W.frozen? ⟨w.heap.size, 7, none⟩ = false := Qf W (w.heap.size) 7 _ _ h0'
  have pc8 : W.cell? ⟨w.heap.size, 8, none⟩ = some (.slice sha hb.length shc) := by rw [Qe W (w.heap.size) 8 _ _ _ h0']; rfl
  have pf8 : W.frozen? ⟨w.heap.size, 8, none⟩ = false := Qf W (w.heap.size) 8 _ _ h0'
  have qc0 : W.cell? ⟨w.heap.size + 1, 0, none⟩ = some (.bool true) := by rw [Qe W (w.heap.size + 1) 0 _ _ _ h1']; rfl
  have qc1 : W.cell? ⟨w.heap.size + 1, 1, none⟩ = some (.int .i64 vk) := by rw [Qe W (w.heap.size + 1) 1 _ _ _ h1']; rfl
  have qc2 : W.cell? ⟨w.heap.size + 1, 2, none⟩ = some (.int .i64 vn) := by rw [Qe W (w.heap.size + 1) 2 _ _ _ h1']; rfl
  have qc3 : W.cell? ⟨w.heap.size + 1, 3, none⟩ = some (.slice sva vb.length svc) := by rw [Qe W (w.heap.size + 1) 3 _ _ _ h1']; rfl
  have zc0 : W.cell? ⟨w.heap.size + 1 + 1, 0, none⟩ = some (.int .i64 0) := by rw [Qe W (w.heap.size + 1 + 1) 0 _ _ _ h2']; rfl
  have zf0 : W.frozen? ⟨w.heap.size + 1 + 1, 0, none⟩ = false := Qf W (w.heap.size + 1 + 1) 0 _ _ h2'
  have zc1 : W.cell? ⟨w.heap.size + 1 + 1, 1, none⟩ = some (.bool false) := by rw [Qe W (w.heap.size + 1 + 1) 1 _ _ _ h2']; rfl
  have zf1 : W.frozen? ⟨w.heap.size + 1 + 1, 1, none⟩ = false := Qf W (w.heap.size + 1 + 1) 1 _ _ h2'
  have zc2 : W.cell? ⟨w.heap.size + 1 + 1, 2, none⟩ = some (.int .i64 0) := by rw [Qe W (w.heap.size + 1 + 1) 2 _ _ _ h2']; rfl
  have zf2 : W.frozen? ⟨w.heap.size + 1 + 1, 2, none⟩ = false := Qf W (w.heap.size + 1 + 1) 2 _ _ h2'
  have zc3 : W.cell? ⟨w.heap.size + 1 + 1, 3, none⟩ = some (.int .i64 0) := by rw [Qe W (w.heap.size + 1 + 1) 3 _ _ _ h2']; rfl
  have zf3 : W.frozen? ⟨w.heap.size + 1 + 1, 3, none⟩ = false := Qf W (w.heap.size + 1 + 1) 3 _ _ h2'
  have zc4 : W.cell? ⟨w.heap.size + 1 + 1, 4, none⟩ = some (.slice none 0 0) := by rw [Qe W (w.heap.size + 1 + 1) 4 _ _ _ h2']; rfl
  have zf4 : W.frozen? ⟨w.heap.size + 1 + 1, 4, none⟩ = false := Qf W (w.heap.size + 1 + 1) 4 _ _ h2'
  have zc5 : W.cell? ⟨w.heap.size + 1 + 1, 5, none⟩ = some (.bool false) := by rw [Qe W (w.heap.size + 1 + 1) 5 _ _ _ h2']; rfl
  have zf5 : W.frozen? ⟨w.heap.size + 1 + 1, 5, none⟩ = false := Qf W (w.heap.size + 1 + 1) 5 _ _ h2'
  have zc6 : W.cell? ⟨w.heap.size + 1 + 1, 6, none⟩ = some (.int .i64 0) := by rw [Qe W (w.heap.size + 1 + 1) 6 _ _ _ h2']; rfl
  have zf6 : W.frozen? ⟨w.heap.size + 1 + 1, 6, none⟩ = false := Qf W (w.heap.size + 1 + 1) 6 _ _ h2'
  have zc7 : W.cell? ⟨w.heap.size + 1 + 1, 7, none⟩ = some (.int .i64 0) := by rw [Qe W (w.heap.size + 1 + 1) 7 _ _ _ h2']; rfl
  have zf7 : W.frozen? ⟨w.heap.size + 1 + 1, 7, none⟩ = false := Qf W (w.heap.size + 1 + 1) 7 _ _ h2'
  have zc8 : W.cell? ⟨w.heap.size + 1 + 1, 8, none⟩ = some (.slice none 0 0) := by rw [Qe W (w.heap.size + 1 + 1) 8 _ _ _ h2']; rfl
  have zf8 : W.frozen? ⟨w.heap.size + 1 + 1, 8, none⟩ = false := Qf W (w.heap.size + 1 + 1) 8 _ _ h2'
  clear hW h0' h1' h2' h3'
  go_wp2_with fail
  refine bodyPost_ret (results_cell_row rfl _ _ (w.heap.size + 1 + 1) _ _ (0, 0) _ rfl (zD7 (show (W.setCell ⟨w.heap.size, 0, none⟩ (.int .i64 (zn + 1))).heap[w.heap.size + 1 + 1]? = _ from (Qh W ⟨w.heap.size, 0, none⟩ _ _ (by show _ ≠ w.heap.size; omega)).trans HH2.out)) Tryz.underlying103 rfl zFf) rfl ?_
  have hgs : ∀ X i u (wx : World), w.heap.size <= X -> Below w.heap.size w wx -> Below w.heap.size w (wx.setCell ⟨X, i, none⟩ u) := fun X i u wx hx h => h.setCell (p := ⟨X, i, none⟩) hx _
  refine ⟨by rw [HW.out] <;> rfl, ?_⟩
  exact hgs _ _ _ _ (by omega) (hgs _ _ _ _ (by omega) (hgs _ _ _ _ (by omega) (hgs _ _ _ _ (by omega) (hgs _ _ _ _ (by omega) (hgs _ _ _ _ (by omega) (hgs _ _ _ _ (by omega) (hgs _ _ _ _ (by omega) (hgs _ _ _ _ (by omega) (hgs _ _ _ _ (Qd _) HB.out)))))))))
 | false =>
  have hst := HST.out
  have HVV := hid HV.out
  have HZ1 := hid HZ.out.1
  have HZ2 := hid HZ.out.2
  have HW := hid (show widen ⟨zn, (⟨lu, lk, ln, lb⟩, .slice sla lb.length slc), (⟨hu, hk, hn1, hb⟩, .slice sha hb.length shc)⟩ (⟨false, vk, vn, vb⟩, .slice sva vb.length svc) = ⟨zn, loW (⟨lu, lk, ln, lb⟩, .slice sla lb.length slc) (⟨false, vk, vn, vb⟩, .slice sva vb.length svc), hiW (⟨hu, hk, hn1, hb⟩, .slice sha hb.length shc) (⟨false, vk, vn, vb⟩, .slice sva vb.length svc)⟩ by unfold widen; simp)
  have HC1 := hid fun w' h => HC.out _ _ HVV.out HZ1.out w' h
  have HC2 := hid fun w' h => HC.out _ _ HVV.out HZ2.out w' h
  have hlo : loW (⟨lu, lk, ln, lb⟩, .slice sla lb.length slc) (⟨false, vk, vn, vb⟩, .slice sva vb.length svc) = if lu = true ∨ cmpT ⟨false, vk, vn, vb⟩ ⟨lu, lk, ln, lb⟩ < 0 then (⟨false, vk, vn, vb⟩, .slice sva vb.length svc) else (⟨lu, lk, ln, lb⟩, .slice sla lb.length slc) := rfl
  have hhi : hiW (⟨hu, hk, hn1, hb⟩, .slice sha hb.length shc) (⟨false, vk, vn, vb⟩, .slice sva vb.length svc) = if hu = true ∨ 0 < cmpT ⟨false, vk, vn, vb⟩ ⟨hu, hk, hn1, hb⟩ then (⟨false, vk, vn, vb⟩, .slice sva vb.length svc) else (⟨hu, hk, hn1, hb⟩, .slice sha hb.length shc) := rfl
  obtain ⟨c1, hc1⟩ : ∃ c1, c1 = cmpT ⟨false, vk, vn, vb⟩ ⟨lu, lk, ln, lb⟩ := ⟨_, rfl⟩
  obtain ⟨c2, hc2⟩ : ∃ c2, c2 = cmpT ⟨false, vk, vn, vb⟩ ⟨hu, hk, hn1, hb⟩ := ⟨_, rfl⟩
  simp only [<- hc1, <- hc2] at hlo hhi HC1 HC2
  have HLO := hid hlo
  have HHI := hid hhi
  clear hlo hhi hc1 hc2 HZ HV HC
  unfold aggV at HC1 HC2
  simp only at HC1 HC2
  unfold WSt cellsZ cellsV at hst
  simp only [Qa, Qb] at hst
  obtain ⟨h0', h1', h2', h3'⟩ := hst
  unfold cellsZ cellsV aggV
  simp only [Qa, Qb]
  go_enter Tryz.func95, Tryz.ntmps95
  go_upto_region 4 with (fail)
  obtain ⟨W, hW⟩ : ∃ W : World, W = (((w.alloc (.cells #[.int .i64 zn, .bool lu, .int .i64 lk, .int .i64 ln, .slice sla lb.length slc, .bool hu, .int .i64 hk, .int .i64 hn1, .slice sha hb.length shc] 103)).alloc (.cells #[.bool false, .int .i64 vk, .int .i64 vn, .slice sva vb.length svc] 31)).alloc (.cells #[.int .i64 0, .bool false, .int .i64 0, .int .i64 0, .slice none 0 0, .bool false, .int .i64 0, .int .i64 0, .slice none 0 0] 103)) := ⟨_, rfl⟩
  rw [<- hW]
  replace h0' : W.heap[w.heap.size]? = some (.cells #[.int .i64 zn, .bool lu, .int .i64 lk, .int .i64 ln, .slice sla lb.length slc, .bool hu, .int .i64 hk, .int .i64 hn1, .slice sha hb.length shc] 103 (0, 0)) := by rw [hW]; exact h0'
  replace h1' : W.heap[w.heap.size + 1]? = some (.cells #[.bool false, .int .i64 vk, .int .i64 vn, .slice sva vb.length svc] 31 (0, 0)) := by rw [hW]; exact h1'
  replace h2' : W.heap[w.heap.size + 1 + 1]? = some (.cells #[.int .i64 0, .bool false, .int .i64 0, .int .i64 0, .slice none 0 0, .bool false, .int .i64 0, .int .i64 0, .slice none 0 0] 103 (0, 0)) := by rw [hW]; exact h2'
  have HS := hid (show WSt w w.heap.size (w.heap.size + 1) (w.heap.size + 1 + 1) ⟨zn, (⟨lu, lk, ln, lb⟩, .slice sla lb.length slc), (⟨hu, hk, hn1, hb⟩, .slice sha hb.length shc)⟩ (⟨false, vk, vn, vb⟩, .slice sva vb.length svc) W from ⟨h0', h1', h2', by rw [hW]; exact h3'⟩)
  clear hW h3' h2' h1' h0'
  go_cut [21] (fun s wx => s = .bool (decide (lu = true ∨ c1 < 0)) ∧ WSt w w.heap.size (w.heap.size + 1) (w.heap.size + 1 + 1) ⟨zn, (⟨lu, lk, ln, lb⟩, .slice sla lb.length slc), (⟨hu, hk, hn1, hb⟩, .slice sha hb.length shc)⟩ (⟨false, vk, vn, vb⟩, .slice sva vb.length svc) wx)
  case first =>
   cases lu with
   | true =>
    obtain ⟨h0', h1', h2', h3'⟩ := HS.out
    unfold cellsZ cellsV at h0'
    unfold cellsV at h1'
    simp only [Qa, Qb] at h0' h1'
    have pc0 : W.cell? ⟨w.heap.size, 0, none⟩ = some (.int .i64 zn) := by rw [Qe W (w.heap.size) 0 _ _ _ h0']; rfl
    have pf0 : W.frozen? ⟨w.heap.size, 0, none⟩ = false := Qf W (w.heap.size) 0 _ _ h0'
    have pc1 : W.cell? ⟨w.heap.size, 1, none⟩ = some (.bool true) := by rw [Qe W (w.heap.size) 1 _ _ _ h0']; rfl
    have pf1 : W.frozen? ⟨w.heap.size, 1, none⟩ = false := Qf W (w.heap.size) 1 _ _ h0'
    have pc2 : W.cell? ⟨w.heap.size, 2, none⟩ = some (.int .i64 lk) := by rw [Qe W (w.heap.size) 2 _ _ _ h0']; rfl
    have pf2 : W.frozen? ⟨w.heap.size, 2, none⟩ = false := Qf W (w.heap.size) 2 _ _ h0'
    have pc3 : W.cell? ⟨w.heap.size, 3, none⟩ = some (.int .i64 ln) := by rw [Qe W (w.heap.size) 3 _ _ _ h0']; rfl
    have pf3 : W.frozen? ⟨w.heap.size, 3, none⟩ = false := Qf W (w.heap.size) 3 _ _ h0'
    have pc4 : W.cell? ⟨w.heap.size, 4, none⟩ = some (.slice sla lb.length slc) := by rw [Qe W (w.heap.size) 4 _ _ _ h0']; rfl
    have pf4 : W.frozen? ⟨w.heap.size, 4, none⟩ = false := Qf W (w.heap.size) 4 _ _ h0'
    have pc5 : W.cell? ⟨w.heap.size, 5, none⟩ = some (.bool hu) := by rw [Qe W (w.heap.size) 5 _ _ _ h0']; rfl
    have pf5 : W.frozen? ⟨w.heap.size, 5, none⟩ = false := Qf W (w.heap.size) 5 _ _ h0'
    have pc6 : W.cell? ⟨w.heap.size, 6, none⟩ = some (.int .i64 hk) := by rw [Qe W (w.heap.size) 6 _ _ _ h0']; rfl
    have pf6 : W.frozen? ⟨w.heap.size, 6, none⟩ = false := Qf W (w.heap.size) 6 _ _ h0'
    have pc7 : W.cell? ⟨w.heap.size, 7, none⟩ = some (.int .i64 hn1) := by rw [Qe W (w.heap.size) 7 _ _ _ h0']; rfl
    have pf7 : W.frozen? ⟨w.heap.size, 7, none⟩ = false := Qf W (w.heap.size) 7 _ _ h0'
    have pc8 : W.cell? ⟨w.heap.size, 8, none⟩ = some (.slice sha hb.length shc) := by rw [Qe W (w.heap.size) 8 _ _ _ h0']; rfl
    have pf8 : W.frozen? ⟨w.heap.size, 8, none⟩ = false := Qf W (w.heap.size) 8 _ _ h0'
    have qc0 : W.cell? ⟨w.heap.size + 1, 0, none⟩ = some (.bool false) := by rw [Qe W (w.heap.size + 1) 0 _ _ _ h1']; rfl
    have qc1 : W.cell? ⟨w.heap.size + 1, 1, none⟩ = some (.int .i64 vk) := by rw [Qe W (w.heap.size + 1) 1 _ _ _ h1']; rfl
    have qc2 : W.cell? ⟨w.heap.size + 1, 2, none⟩ = some (.int .i64 vn) := by rw [Qe W (w.heap.size + 1) 2 _ _ _ h1']; rfl
    have qc3 : W.cell? ⟨w.heap.size + 1, 3, none⟩ = some (.slice sva vb.length svc) := by rw [Qe W (w.heap.size + 1) 3 _ _ _ h1']; rfl
    have HH0 := hid h0'
    have HH1 := hid h1'
    have HH2 := hid h2'
    have HHB := hid h3'
    clear h0' h1' h2' h3'
    go_wp2_with fail
    go_meet
    exact ⟨by simp, HS.out⟩
   | false =>
    obtain ⟨h0', h1', h2', h3'⟩ := HS.out
    unfold cellsZ cellsV at h0'
    unfold cellsV at h1'
    simp only [Qa, Qb] at h0' h1'
    have pc0 : W.cell? ⟨w.heap.size, 0, none⟩ = some (.int .i64 zn) := by rw [Qe W (w.heap.size) 0 _ _ _ h0']; rfl
    have pf0 : W.frozen? ⟨w.heap.size, 0, none⟩ = false := Qf W (w.heap.size) 0 _ _ h0'
    have pc1 : W.cell? ⟨w.heap.size, 1, none⟩ = some (.bool false) := by rw [Qe W (w.heap.size) 1 _ _ _ h0']; rfl
    have pf1 : W.frozen? ⟨w.heap.size, 1, none⟩ = false := Qf W (w.heap.size) 1 _ _ h0'
    have pc2 : W.cell? ⟨w.heap.size, 2, none⟩ = some (.int .i64 lk) := by rw [Qe W (w.heap.size) 2 _ _ _ h0']; rfl
    have pf2 : W.frozen? ⟨w.heap.size, 2, none⟩ = false := Qf W (w.heap.size) 2 _ _ h0'
    have pc3 : W.cell? ⟨w.heap.size, 3, none⟩ = some (.int .i64 ln) := by rw [Qe W (w.heap.size) 3 _ _ _ h0']; rfl
    have pf3 : W.frozen? ⟨w.heap.size, 3, none⟩ = false := Qf W (w.heap.size) 3 _ _ h0'
    have pc4 : W.cell? ⟨w.heap.size, 4, none⟩ = some (.slice sla lb.length slc) := by rw [Qe W (w.heap.size) 4 _ _ _ h0']; rfl
    have pf4 : W.frozen? ⟨w.heap.size, 4, none⟩ = false := Qf W (w.heap.size) 4 _ _ h0'
    have pc5 : W.cell? ⟨w.heap.size, 5, none⟩ = some (.bool hu) := by rw [Qe W (w.heap.size) 5 _ _ _ h0']; rfl
    have pf5 : W.frozen? ⟨w.heap.size, 5, none⟩ = false := Qf W (w.heap.size) 5 _ _ h0'
    have pc6 : W.cell? ⟨w.heap.size, 6, none⟩ = some (.int .i64 hk) := by rw [Qe W (w.heap.size) 6 _ _ _ h0']; rfl
    have pf6 : W.frozen? ⟨w.heap.size, 6, none⟩ = false := Qf W (w.heap.size) 6 _ _ h0'
    have pc7 : W.cell? ⟨w.heap.size, 7, none⟩ = some (.int .i64 hn1) := by rw [Qe W (w.heap.size) 7 _ _ _ h0']; rfl
    have pf7 : W.frozen? ⟨w.heap.size, 7, none⟩ = false := Qf W (w.heap.size) 7 _ _ h0'
    have pc8 : W.cell? ⟨w.heap.size, 8, none⟩ = some (.slice sha hb.length shc) := by rw [Qe W (w.heap.size) 8 _ _ _ h0']; rfl
    have pf8 : W.frozen? ⟨w.heap.size, 8, none⟩ = false := Qf W (w.heap.size) 8 _ _ h0'
    have qc0 : W.cell? ⟨w.heap.size + 1, 0, none⟩ = some (.bool false) := by rw [Qe W (w.heap.size + 1) 0 _ _ _ h1']; rfl
    have qc1 : W.cell? ⟨w.heap.size + 1, 1, none⟩ = some (.int .i64 vk) := by rw [Qe W (w.heap.size + 1) 1 _ _ _ h1']; rfl
    have qc2 : W.cell? ⟨w.heap.size + 1, 2, none⟩ = some (.int .i64 vn) := by rw [Qe W (w.heap.size + 1) 2 _ _ _ h1']; rfl
    have qc3 : W.cell? ⟨w.heap.size + 1, 3, none⟩ = some (.slice sva vb.length svc) := by rw [Qe W (w.heap.size + 1) 3 _ _ _ h1']; rfl
    have HH0 := hid h0'
    have HH1 := hid h1'
    have HH2 := hid h2'
    have HHB := hid h3'
    clear h0' h1' h2' h3'
    go_wp2_with fail
    refine (HC1.out W HHB.out).mono ?_
    rintro e W3 ⟨rfl, hb3⟩
    have HS3 := hid (HS.out.on hb3)
    clear hb3
    by_cases hc : c1 < 0
    ·have hd : decide (c1 < 0) = true := by rw [decide_eq_true_eq]; exact hc
     go_wp2_with fail
     go_meet
     exact ⟨by simp [hc], HS3.out⟩
    ·have hd : decide (c1 < 0) = false := by rw [decide_eq_false_iff_not]; exact hc
     go_wp2_with fail
     go_meet
     exact ⟨by simp [hc], HS3.out⟩
  case rest =>
   obtain ⟨rfl, hsc⟩ := hcut
   obtain ⟨b1, hb1⟩ : ∃ b1, b1 = decide (lu = true ∨ c1 < 0) := ⟨_, rfl⟩
   rw [<- hb1]
   have HL3 := hid (show loW (⟨lu, lk, ln, lb⟩, .slice sla lb.length slc) (⟨false, vk, vn, vb⟩, .slice sva vb.length svc) = if b1 = true then (⟨false, vk, vn, vb⟩, .slice sva vb.length svc) else (⟨lu, lk, ln, lb⟩, .slice sla lb.length slc) by rw [HLO.out, hb1]; by_cases h : lu = true ∨ c1 < 0 <;> simp [h])
   clear HS HLO HC1 hb1
   have HS := hid hsc
   clear hsc
   obtain ⟨l3, hl3⟩ : ∃ l3, l3 = loW (⟨lu, lk, ln, lb⟩, .slice sla lb.length slc) (⟨false, vk, vn, vb⟩, .slice sva vb.length svc) := ⟨_, rfl⟩
   have hl3s : ∃ a c, l3.2 = .slice a l3.1.b.length c := by
    rw [hl3, HL3.out]
    split
    ·exact ⟨_, _, rfl⟩
    ·exact ⟨_, _, rfl⟩
   rw [<- hl3] at HL3 HW
   clear hl3
   go_upto_if 21 with (fail)
   go_cut [21] (fun s wx => (∃ b : Bool, s = .bool b) ∧ WSt w w.heap.size (w.heap.size + 1) (w.heap.size + 1 + 1) ⟨zn, l3, (⟨hu, hk, hn1, hb⟩, .slice sha hb.length shc)⟩ (⟨false, vk, vn, vb⟩, .slice sva vb.length svc) wx)
   case first =>
    cases b1 with
    | true =>
     obtain ⟨h0', h1', h2', h3'⟩ := HS.out
     unfold cellsZ cellsV at h0'
     unfold cellsV at h1'
     simp only [Qa, Qb] at h0' h1'
     have pc0 : wc.cell? ⟨w.heap.size, 0, none⟩ = some (.int .i64 zn) := by rw [Qe wc (w.heap.size) 0 _ _ _ h0']; rfl
     have pf0 : wc.frozen? ⟨w.heap.size, 0, none⟩ = false := Qf wc (w.heap.size) 0 _ _ h0'
     have pc1 : wc.cell? ⟨w.heap.size, 1, none⟩ = some (.bool lu) := by rw [Qe wc (w.heap.size) 1 _ _ _ h0']; rfl
     have pf1 : wc.frozen? ⟨w.heap.size, 1, none⟩ = false := Qf wc (w.heap.size) 1 _ _ h0'
     have pc2 : wc.cell? ⟨w.heap.size, 2, none⟩ = some (.int .i64 lk) := by rw [Qe wc (w.heap.size) 2 _ _ _ h0']; rfl
     have pf2 : wc.frozen? ⟨w.heap.size, 2, none⟩ = false := Qf wc (w.heap.size) 2 _ _ h0'
     have pc3 : wc.cell? ⟨w.heap.size, 3, none⟩ = some (.int .i64 ln) := by rw [Qe wc (w.heap.size) 3 _ _ _ h0']; rfl
     have pf3 : wc.frozen? ⟨w.heap.size, 3, none⟩ = false := Qf wc (w.heap.size) 3 _ _ h0'
     have pc4 : wc.cell? ⟨w.heap.size, 4, none⟩ = some (.slice sla lb.length slc) := by rw [Qe wc (w.heap.size) 4 _ _ _ h0']; rfl
     have pf4 : wc.frozen? ⟨w.heap.size, 4, none⟩ = false := Qf wc (w.heap.size) 4 _ _ h0'
     have pc5 : wc.cell? ⟨w.heap.size, 5, none⟩ = some (.bool hu) := by rw [Qe wc (w.heap.size) 5 _ _ _ h0']; rfl
     have pf5 : wc.frozen? ⟨w.heap.size, 5, none⟩ = false := Qf wc (w.heap.size) 5 _ _ h0'
     have pc6 : wc.cell? ⟨w.heap.size, 6, none⟩ = some (.int .i64 hk) := by rw [Qe wc (w.heap.size) 6 _ _ _ h0']; rfl
     have pf6 : wc.frozen? ⟨w.heap.size, 6, none⟩ = false := Qf wc (w.heap.size) 6 _ _ h0'
     have pc7 : wc.cell? ⟨w.heap.size, 7, none⟩ = some (.int .i64 hn1) := by rw [Qe wc (w.heap.size) 7 _ _ _ h0']; rfl
     have pf7 : wc.frozen? ⟨w.heap.size, 7, none⟩ = false := Qf wc (w.heap.size) 7 _ _ h0'
     have pc8 : wc.cell? ⟨w.heap.size, 8, none⟩ = some (.slice sha hb.length shc) := by rw [Qe wc (w.heap.size) 8 _ _ _ h0']; rfl
     have pf8 : wc.frozen? ⟨w.heap.size, 8, none⟩ = false := Qf wc (w.heap.size) 8 _ _ h0'
     have qc0 : wc.cell? ⟨w.heap.size + 1, 0, none⟩ = some (.bool false) := by rw [Qe wc (w.heap.size + 1) 0 _ _ _ h1']; rfl
     have qc1 : wc.cell? ⟨w.heap.size + 1, 1, none⟩ = some (.int .i64 vk) := by rw [Qe wc (w.heap.size + 1) 1 _ _ _ h1']; rfl
     have qc2 : wc.cell? ⟨w.heap.size + 1, 2, none⟩ = some (.int .i64 vn) := by rw [Qe wc (w.heap.size + 1) 2 _ _ _ h1']; rfl
     have qc3 : wc.cell? ⟨w.heap.size + 1, 3, none⟩ = some (.slice sva vb.length svc) := by rw [Qe wc (w.heap.size + 1) 3 _ _ _ h1']; rfl
     have HH0 := hid h0'
     have HH1 := hid h1'
     have HH2 := hid h2'
     have HHB := hid h3'
     clear h0' h1' h2' h3'
     go_wp2_with fail
     go_meet
     refine ⟨⟨_, rfl⟩, ?_⟩
     rw [HL3.out, if_pos (by trivial)]
     exact ⟨zJc HH0.out, (zCg _ _ _ _ _ _ _ _ _ _ _ (by omega)).trans HH1.out, (zCg _ _ _ _ _ _ _ _ _ _ _ (by omega)).trans HH2.out, zHq HHB.out (Qd _) _ _ _ _ _ _ _ _⟩
    | false =>
     go_wp2_with fail
     go_meet
     refine ⟨⟨_, rfl⟩, ?_⟩
     rw [HL3.out, if_neg (by simp)]
     exact HS.out
   case rest =>
    obtain ⟨⟨bb, rfl⟩, hsc⟩ := hcut
    clear HS HL3
    obtain ⟨l3a, l3c, h3⟩ := hl3s
    obtain ⟨⟨mu, mk, mn, mb⟩, ms⟩ := l3
    simp only at h3
    subst h3
    have HS := hid hsc
    clear hsc
    go_upto_region 6 with (fail)
    go_cut [33] (fun s wx => s = .bool (decide (hu = true ∨ 0 < c2)) ∧ WSt w w.heap.size (w.heap.size + 1) (w.heap.size + 1 + 1) ⟨zn, (⟨mu, mk, mn, mb⟩, .slice l3a mb.length l3c), (⟨hu, hk, hn1, hb⟩, .slice sha hb.length shc)⟩ (⟨false, vk, vn, vb⟩, .slice sva vb.length svc) wx)
    case first =>
     cases hu with
     | true =>
      obtain ⟨h0', h1', h2', h3'⟩ := HS.out
      unfold cellsZ cellsV at h0'
      unfold cellsV at h1'
      simp only [Qa, Qb] at h0' h1'
      have pc0 : wc.cell? ⟨w.heap.size, 0, none⟩ = some (.int .i64 zn) := by rw [Qe wc (w.heap.size) 0 _ _ _ h0']; rfl
      have pf0 : wc.frozen? ⟨w.heap.size, 0, none⟩ = false := Qf wc (w.heap.size) 0 _ _ h0'
      have pc1 : wc.cell? ⟨w.heap.size, 1, none⟩ = some (.bool mu) := by rw [Qe wc (w.heap.size) 1 _ _ _ h0']; rfl
      have pf1 : wc.frozen? ⟨w.heap.size, 1, none⟩ = false := Qf wc (w.heap.size) 1 _ _ h0'
      have pc2 : wc.cell? ⟨w.heap.size, 2, none⟩ = some (.int .i64 mk) := by rw [Qe wc (w.heap.size) 2 _ _ _ h0']; rfl
      have pf2 : wc.frozen? ⟨w.heap.size, 2, none⟩ = false := Qf wc (w.heap.size) 2 _ _ h0'
      have pc3 : wc.cell? ⟨w.heap.size, 3, none⟩ = some (.int .i64 mn) := by rw [Qe wc (w.heap.size) 3 _ _ _ h0']; rfl
      have pf3 : wc.frozen? ⟨w.heap.size, 3, none⟩ = false := Qf wc (w.heap.size) 3 _ _ h0'
      have pc4 : wc.cell? ⟨w.heap.size, 4, none⟩ = some (.slice l3a mb.length l3c) := by rw [Qe wc (w.heap.size) 4 _ _ _ h0']; rfl
      have pf4 : wc.frozen? ⟨w.heap.size, 4, none⟩ = false := Qf wc (w.heap.size) 4 _ _ h0'
      have pc5 : wc.cell? ⟨w.heap.size, 5, none⟩ = some (.bool true) := by rw [Qe wc (w.heap.size) 5 _ _ _ h0']; rfl
      have pf5 : wc.frozen? ⟨w.heap.size, 5, none⟩ = false := Qf wc (w.heap.size) 5 _ _ h0'
      have pc6 : wc.cell? ⟨w.heap.size, 6, none⟩ = some (.int .i64 hk) := by rw [Qe wc (w.heap.size) 6 _ _ _ h0']; rfl
      have pf6 : wc.frozen? ⟨w.heap.size, 6, none⟩ = false := Qf wc (w.heap.size) 6 _ _ h0'
      have pc7 : wc.cell? ⟨w.heap.size, 7, none⟩ = some (.int .i64 hn1) := by rw [Qe wc (w.heap.size) 7 _ _ _ h0']; rfl
      have pf7 : wc.frozen? ⟨w.heap.size, 7, none⟩ = false := Qf wc (w.heap.size) 7 _ _ h0'
      have pc8 : wc.cell? ⟨w.heap.size, 8, none⟩ = some (.slice sha hb.length shc) := by rw [Qe wc (w.heap.size) 8 _ _ _ h0']; rfl
      have pf8 : wc.frozen? ⟨w.heap.size, 8, none⟩ = false := Qf wc (w.heap.size) 8 _ _ h0'
      have qc0 : wc.cell? ⟨w.heap.size + 1, 0, none⟩ = some (.bool false) := by rw [Qe wc (w.heap.size + 1) 0 _ _ _ h1']; rfl
      have qc1 : wc.cell? ⟨w.heap.size + 1, 1, none⟩ = some (.int .i64 vk) := by rw [Qe wc (w.heap.size + 1) 1 _ _ _ h1']; rfl
      have qc2 : wc.cell? ⟨w.heap.size + 1, 2, none⟩ = some (.int .i64 vn) := by rw [Qe wc (w.heap.size + 1) 2 _ _ _ h1']; rfl
      have qc3 : wc.cell? ⟨w.heap.size + 1, 3, none⟩ = some (.slice sva vb.length svc) := by rw [Qe wc (w.heap.size + 1) 3 _ _ _ h1']; rfl
      have HH0 := hid h0'
      have HH1 := hid h1'
      have HH2 := hid h2'
      have HHB := hid h3'
      clear h0' h1' h2' h3'
      go_wp2_with fail
      go_meet
      exact ⟨by simp, HS.out⟩
     | false =>
      obtain ⟨h0', h1', h2', h3'⟩ := HS.out
      unfold cellsZ cellsV at h0'
      unfold cellsV at h1'
      simp only [Qa, Qb] at h0' h1'
      have pc0 : wc.cell? ⟨w.heap.size, 0, none⟩ = some (.int .i64 zn) := by rw [Qe wc (w.heap.size) 0 _ _ _ h0']; rfl
      have pf0 : wc.frozen? ⟨w.heap.size, 0, none⟩ = false := Qf wc (w.heap.size) 0 _ _ h0'
      have pc1 : wc.cell? ⟨w.heap.size, 1, none⟩ = some (.bool mu) := by rw [Qe wc (w.heap.size) 1 _ _ _ h0']; rfl
      have pf1 : wc.frozen? ⟨w.heap.size, 1, none⟩ = false := Qf wc (w.heap.size) 1 _ _ h0'
      have pc2 : wc.cell? ⟨w.heap.size, 2, none⟩ = some (.int .i64 mk) := by rw [Qe wc (w.heap.size) 2 _ _ _ h0']; rfl
      have pf2 : wc.frozen? ⟨w.heap.size, 2, none⟩ = false := Qf wc (w.heap.size) 2 _ _ h0'
      have pc3 : wc.cell? ⟨w.heap.size, 3, none⟩ = some (.int .i64 mn) := by rw [Qe wc (w.heap.size) 3 _ _ _ h0']; rfl
      have pf3 : wc.frozen? ⟨w.heap.size, 3, none⟩ = false := Qf wc (w.heap.size) 3 _ _ h0'
      have pc4 : wc.cell? ⟨w.heap.size, 4, none⟩ = some (.slice l3a mb.length l3c) := by rw [Qe wc (w.heap.size) 4 _ _ _ h0']; rfl
      have pf4 : wc.frozen? ⟨w.heap.size, 4, none⟩ = false := Qf wc (w.heap.size) 4 _ _ h0'
      have pc5 : wc.cell? ⟨w.heap.size, 5, none⟩ = some (.bool false) := by rw [Qe wc (w.heap.size) 5 _ _ _ h0']; rfl
      have pf5 : wc.frozen? ⟨w.heap.size, 5, none⟩ = false := Qf wc (w.heap.size) 5 _ _ h0'
      have pc6 : wc.cell? ⟨w.heap.size, 6, none⟩ = some (.int .i64 hk) := by rw [Qe wc (w.heap.size) 6 _ _ _ h0']; rfl
      have pf6 : wc.frozen? ⟨w.heap.size, 6, none⟩ = false := Qf wc (w.heap.size) 6 _ _ h0'
      have pc7 : wc.cell? ⟨w.heap.size, 7, none⟩ = some (.int .i64 hn1) := by rw [Qe wc (w.heap.size) 7 _ _ _ h0']; rfl
      have pf7 : wc.frozen? ⟨w.heap.size, 7, none⟩ = false := Qf wc (w.heap.size) 7 _ _ h0'
      have pc8 : wc.cell? ⟨w.heap.size, 8, none⟩ = some (.slice sha hb.length shc) := by rw [Qe wc (w.heap.size) 8 _ _ _ h0']; rfl
      have pf8 : wc.frozen? ⟨w.heap.size, 8, none⟩ = false := Qf wc (w.heap.size) 8 _ _ h0'
      have qc0 : wc.cell? ⟨w.heap.size + 1, 0, none⟩ = some (.bool false) := by rw [Qe wc (w.heap.size + 1) 0 _ _ _ h1']; rfl
      have qc1 : wc.cell? ⟨w.heap.size + 1, 1, none⟩ = some (.int .i64 vk) := by rw [Qe wc (w.heap.size + 1) 1 _ _ _ h1']; rfl
      have qc2 : wc.cell? ⟨w.heap.size + 1, 2, none⟩ = some (.int .i64 vn) := by rw [Qe wc (w.heap.size + 1) 2 _ _ _ h1']; rfl
      have qc3 : wc.cell? ⟨w.heap.size + 1, 3, none⟩ = some (.slice sva vb.length svc) := by rw [Qe wc (w.heap.size + 1) 3 _ _ _ h1']; rfl
      have HH0 := hid h0'
      have HH1 := hid h1'
      have HH2 := hid h2'
      have HHB := hid h3'
      clear h0' h1' h2' h3'
      go_wp2_with fail
      refine (HC2.out wc HHB.out).mono ?_
      rintro e W3 ⟨rfl, hb3⟩
      have HS3 := hid (HS.out.on hb3)
      clear hb3
      by_cases hc : 0 < c2
      ·have hd : decide (0 < c2) = true := by rw [decide_eq_true_eq]; exact hc
       go_wp2_with fail
       go_meet
       exact ⟨by simp [hc], HS3.out⟩
      ·have hd : decide (0 < c2) = false := by rw [decide_eq_false_iff_not]; exact hc
       go_wp2_with fail
       go_meet
       exact ⟨by simp [hc], HS3.out⟩
    case rest =>
     obtain ⟨rfl, hsc⟩ := hcut
     obtain ⟨b2, hb2⟩ : ∃ b2, b2 = decide (hu = true ∨ 0 < c2) := ⟨_, rfl⟩
     rw [<- hb2]
     have HH3 := hid (show hiW (⟨hu, hk, hn1, hb⟩, .slice sha hb.length shc) (⟨false, vk, vn, vb⟩, .slice sva vb.length svc) = if b2 = true then (⟨false, vk, vn, vb⟩, .slice sva vb.length svc) else (⟨hu, hk, hn1, hb⟩, .slice sha hb.length shc) by rw [HHI.out, hb2]; by_cases h : hu = true ∨ 0 < c2 <;> simp [h])
     clear HS HHI HC2 hb2
     have HS := hid hsc
     clear hsc
     obtain ⟨h0', h1', h2', h3'⟩ := HS.out
     unfold cellsZ cellsV at h0'
     unfold cellsV at h1'
     simp only [Qa, Qb] at h0' h1'
     have pc0 : wc.cell? ⟨w.heap.size, 0, none⟩ = some (.int .i64 zn) := by rw [Qe wc (w.heap.size) 0 _ _ _ h0']; rfl
     have pf0 : wc.frozen? ⟨w.heap.size, 0, none⟩ = false := Qf wc (w.heap.size) 0 _ _ h0'
     have pc1 : wc.cell? ⟨w.heap.size, 1, none⟩ = some (.bool mu) := by rw [Qe wc (w.heap.size) 1 _ _ _ h0']; rfl
     have pf1 : wc.frozen? ⟨w.heap.size, 1, none⟩ = false := Qf wc (w.heap.size) 1 _ _ h0'
     have pc2 : wc.cell? ⟨w.heap.size, 2, none⟩ = some (.int .i64 mk) := by rw [Qe wc (w.heap.size) 2 _ _ _ h0']; rfl
     have pf2 : wc.frozen? ⟨w.heap.size, 2, none⟩ = false := Qf wc (w.heap.size) 2 _ _ h0'
     have pc3 : wc.cell? ⟨w.heap.size, 3, none⟩ = some (.int .i64 mn) := by rw [Qe wc (w.heap.size) 3 _ _ _ h0']; rfl
     have pf3 : wc.frozen? ⟨w.heap.size, 3, none⟩ = false := Qf wc (w.heap.size) 3 _ _ h0'
     have pc4 : wc.cell? ⟨w.heap.size, 4, none⟩ = some (.slice l3a mb.length l3c) := by rw [Qe wc (w.heap.size) 4 _ _ _ h0']; rfl
     have pf4 : wc.frozen? ⟨w.heap.size, 4, none⟩ = false := Qf wc (w.heap.size) 4 _ _ h0'
     have pc5 : wc.cell? ⟨w.heap.size, 5, none⟩ = some (.bool hu) := by rw [Qe wc (w.heap.size) 5 _ _ _ h0']; rfl
     have pf5 : wc.frozen? ⟨w.heap.size, 5, none⟩ = false := Qf wc (w.heap.size) 5 _ _ h0'
     have pc6 : wc.cell? ⟨w.heap.size, 6, none⟩ = some (.int .i64 hk) := by rw [Qe wc (w.heap.size) 6 _ _ _ h0']; rfl
     have pf6 : wc.frozen? ⟨w.heap.size, 6, none⟩ = false := Qf wc (w.heap.size) 6 _ _ h0'
     have pc7 : wc.cell? ⟨w.heap.size, 7, none⟩ = some (.int .i64 hn1) := by rw [Qe wc (w.heap.size) 7 _ _ _ h0']; rfl
     have pf7 : wc.frozen? ⟨w.heap.size, 7, none⟩ = false := Qf wc (w.heap.size) 7 _ _ h0'
     have pc8 : wc.cell? ⟨w.heap.size, 8, none⟩ = some (.slice sha hb.length shc) := by rw [Qe wc (w.heap.size) 8 _ _ _ h0']; rfl
     have pf8 : wc.frozen? ⟨w.heap.size, 8, none⟩ = false := Qf wc (w.heap.size) 8 _ _ h0'
     have qc0 : wc.cell? ⟨w.heap.size + 1, 0, none⟩ = some (.bool false) := by rw [Qe wc (w.heap.size + 1) 0 _ _ _ h1']; rfl
     have qc1 : wc.cell? ⟨w.heap.size + 1, 1, none⟩ = some (.int .i64 vk) := by rw [Qe wc (w.heap.size + 1) 1 _ _ _ h1']; rfl
     have qc2 : wc.cell? ⟨w.heap.size + 1, 2, none⟩ = some (.int .i64 vn) := by rw [Qe wc (w.heap.size + 1) 2 _ _ _ h1']; rfl
     have qc3 : wc.cell? ⟨w.heap.size + 1, 3, none⟩ = some (.slice sva vb.length svc) := by rw [Qe wc (w.heap.size + 1) 3 _ _ _ h1']; rfl
     have zc0 : wc.cell? ⟨w.heap.size + 1 + 1, 0, none⟩ = some (.int .i64 0) := by rw [Qe wc (w.heap.size + 1 + 1) 0 _ _ _ h2']; rfl
     have zf0 : wc.frozen? ⟨w.heap.size + 1 + 1, 0, none⟩ = false := Qf wc (w.heap.size + 1 + 1) 0 _ _ h2'
     have zc1 : wc.cell? ⟨w.heap.size + 1 + 1, 1, none⟩ = some (.bool false) := by rw [Qe wc (w.heap.size + 1 + 1) 1 _ _ _ h2']; rfl
     have zf1 : wc.frozen? ⟨w.heap.size + 1 + 1, 1, none⟩ = false := Qf wc (w.heap.size + 1 + 1) 1 _ _ h2'
     have zc2 : wc.cell? ⟨w.heap.size + 1 + 1, 2, none⟩ = some (.int .i64 0) := by rw [Qe wc (w.heap.size + 1 + 1) 2 _ _ _ h2']; rfl
     have zf2 : wc.frozen? ⟨w.heap.size + 1 + 1, 2, none⟩ = false := Qf wc (w.heap.size + 1 + 1) 2 _ _ h2'
     have zc3 : wc.cell? ⟨w.heap.size + 1 + 1, 3, none⟩ = some (.int .i64 0) := by rw [Qe wc (w.heap.size + 1 + 1) 3 _ _ _ h2']; rfl
     have zf3 : wc.frozen? ⟨w.heap.size + 1 + 1, 3, none⟩ = false := Qf wc (w.heap.size + 1 + 1) 3 _ _ h2'
     have zc4 : wc.cell? ⟨w.heap.size + 1 + 1, 4, none⟩ = some (.slice none 0 0) := by rw [Qe wc (w.heap.size + 1 + 1) 4 _ _ _ h2']; rfl
     have zf4 : wc.frozen? ⟨w.heap.size + 1 + 1, 4, none⟩ = false := Qf wc (w.heap.size + 1 + 1) 4 _ _ h2'
     have zc5 : wc.cell? ⟨w.heap.size + 1 + 1, 5, none⟩ = some (.bool false) := by rw [Qe wc (w.heap.size + 1 + 1) 5 _ _ _ h2']; rfl
     have zf5 : wc.frozen? ⟨w.heap.size + 1 + 1, 5, none⟩ = false := Qf wc (w.heap.size + 1 + 1) 5 _ _ h2'
     have zc6 : wc.cell? ⟨w.heap.size + 1 + 1, 6, none⟩ = some (.int .i64 0) := by rw [Qe wc (w.heap.size + 1 + 1) 6 _ _ _ h2']; rfl
     have zf6 : wc.frozen? ⟨w.heap.size + 1 + 1, 6, none⟩ = false := Qf wc (w.heap.size + 1 + 1) 6 _ _ h2'
     have zc7 : wc.cell? ⟨w.heap.size + 1 + 1, 7, none⟩ = some (.int .i64 0) := by rw [Qe wc (w.heap.size + 1 + 1) 7 _ _ _ h2']; rfl
     have zf7 : wc.frozen? ⟨w.heap.size + 1 + 1, 7, none⟩ = false := Qf wc (w.heap.size + 1 + 1) 7 _ _ h2'
     have zc8 : wc.cell? ⟨w.heap.size + 1 + 1, 8, none⟩ = some (.slice none 0 0) := by rw [Qe wc (w.heap.size + 1 + 1) 8 _ _ _ h2']; rfl
     have zf8 : wc.frozen? ⟨w.heap.size + 1 + 1, 8, none⟩ = false := Qf wc (w.heap.size + 1 + 1) 8 _ _ h2'
     have HH0 := hid h0'
     have HH1 := hid h1'
     have HH2 := hid h2'
     have HHB := hid h3'
     clear h0' h1' h2' h3'
     cases b2 with
     | true =>
      go_wp2_with fail
      refine bodyPost_ret (results_cell_row rfl _ _ (w.heap.size + 1 + 1) _ _ (0, 0) _ rfl (zD7 ((zCg _ _ _ _ _ _ _ _ _ _ _ (by omega)).trans HH2.out)) Tryz.underlying103 rfl zFf) rfl ?_
      have hgs : ∀ X i u (wx : World), w.heap.size <= X -> Below w.heap.size w wx -> Below w.heap.size w (wx.setCell ⟨X, i, none⟩ u) := fun X i u wx hx h => h.setCell (p := ⟨X, i, none⟩) hx _
      refine ⟨by rw [HW.out, HH3.out, if_pos (by trivial)] <;> rfl, ?_⟩
      exact hgs _ _ _ _ (by omega) (hgs _ _ _ _ (by omega) (hgs _ _ _ _ (by omega) (hgs _ _ _ _ (by omega) (hgs _ _ _ _ (by omega) (hgs _ _ _ _ (by omega) (hgs _ _ _ _ (by omega) (hgs _ _ _ _ (by omega) (hgs _ _ _ _ (by omega) (zHq HHB.out (Qd _) _ _ _ _ _ _ _ _)))))))))
     | false =>
      go_wp2_with fail
      refine bodyPost_ret (results_cell_row rfl _ _ (w.heap.size + 1 + 1) _ _ (0, 0) _ rfl (zD7 HH2.out) Tryz.underlying103 rfl zFf) rfl ?_
      have hgs : ∀ X i u (wx : World), w.heap.size <= X -> Below w.heap.size w wx -> Below w.heap.size w (wx.setCell ⟨X, i, none⟩ u) := fun X i u wx hx h => h.setCell (p := ⟨X, i, none⟩) hx _
      refine ⟨by rw [HW.out, HH3.out, if_neg (by simp)] <;> rfl, ?_⟩
      exact hgs _ _ _ _ (by omega) (hgs _ _ _ _ (by omega) (hgs _ _ _ _ (by omega) (hgs _ _ _ _ (by omega) (hgs _ _ _ _ (by omega) (hgs _ _ _ _ (by omega) (hgs _ _ _ _ (by omega) (hgs _ _ _ _ (by omega) (hgs _ _ _ _ (by omega) (HHB.out)))))))))
end Go.Proofs.YtmpgnjhgegbdkaaGreat
