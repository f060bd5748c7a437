/-
  Contract of the reference's inwards, at nots.
-/
import Derived.Test.YtfmkalnnpddefaaInwb
import Derived.Test.YtfmkalnnpddefaaSpm
namespace Go.Proofs.Ytfmkalnnpddefaa
set_option linter.unusedVariables false
set_option linter.unusedSimpArgs false
open Go.RowKit

set_option maxRecDepth 100000 in
set_option maxHeartbeats 8000000 in
theorem inw_6 (c o : Int) (v : Vc) (q : Pt) (hq : InwOK q) : InwOK (.mk 6 c o v [q]) := by
  intro nt cs w0 w hr hb hsz0
  have HBw := Lib.hid hb
  have HSZ := Lib.hid hsz0
  unfold RdT1 at hr
  obtain ⟨s, ls, css, rfl, hok, hls, hts⟩ := hr
  obtain ⟨sa, sc, hes⟩ := rd_shape8 hok.1
  obtain ⟨ea, ec, hel⟩ := rdS_shape hls
  simp only at hes
  subst hes hel
  have hcl : css.length = 1 := rdTs_len hts
  obtain ⟨qs, hqs, hrd⟩ := rdTs_at (k := 0) (q := q) hts rfl
  obtain ⟨vu, vk, vn, vb⟩ := v
  obtain ⟨m, hm⟩ : ∃ m, m = vb.length := ⟨_, rfl⟩
  unfold cellsP
  simp only
  rw [hcl] at hls ⊢
  rw [← hm]
  have HRD := Lib.hid hrd
  have HT := Lib.hid (show inwT (.mk 6 c o ⟨vu, vk, vn, vb⟩ [q]) nt = inwT q (!nt) by rw [inwT, if_neg (by decide), if_pos rfl, inwO])
  have hat := hls.at hqs
  obtain ⟨pk, pc, po, pvk, pvn, pu, psa, psn, psc, pea, pen, pec, rfl⟩ := rdT1_shape hrd
  obtain ⟨b1, f1, rfl, hcell⟩ := hat
  have HCELL := Lib.hid hcell
  clear hok hls hts hm hrd hqs hcl hcell hb hsz0
  go_enter Try.func70, Try.ntmps70
  go_upto_region 7 with (fail)
  obtain ⟨W, hW⟩ : ∃ W : World, W = (w.alloc (.cells #[.int .i64 6, .int .i64 c, .int .i64 o, .bool vu, .int .i64 vk, .int .i64 vn, .slice sa m sc, .slice (some ⟨b1, f1, none⟩) 1 ec] 31)).alloc (.cells #[.int .i64 0, .int .i64 0, .int .i64 0, .bool false, .int .i64 0, .int .i64 0, .slice none 0 0, .slice none 0 0] 31) := ⟨_, rfl⟩
  rw [← hW]
  have HX0 := Lib.hid (show W.heap[w.heap.size]? = some (.cells #[.int .i64 6, .int .i64 c, .int .i64 o, .bool vu, .int .i64 vk, .int .i64 vn, .slice sa m sc, .slice (some ⟨b1, f1, none⟩) 1 ec] 31 (0, 0)) by rw [hW]; exact (heap_alloc_old _ _ (by simp)).trans (heap_alloc_new w _))
  have HY0 := Lib.hid (show W.heap[w.heap.size + 1]? = some (.cells #[.int .i64 0, .int .i64 0, .int .i64 0, .bool false, .int .i64 0, .int .i64 0, .slice none 0 0, .slice none 0 0] 31 (0, 0)) by rw [hW]; exact heap2 w _ _)
  have HB0 := Lib.hid (show Below w.heap.size w W by rw [hW]; exact below2 w _ _)
  have HWS := Lib.hid (show W.heap.size = w.heap.size + 1 + 1 by rw [hW]; simp)
  have HBW := Lib.hid (HBw.out.trans (HB0.out.mono HSZ.out))
  obtain ⟨PB, hPB⟩ : ∃ PB, PB = w.heap.size := ⟨_, rfl⟩
  obtain ⟨RB, hRB⟩ : ∃ RB, RB = PB + 1 := ⟨_, rfl⟩
  rw [← hPB] at HX0 HY0 ⊢
  rw [← hRB] at HY0 ⊢
  have HPR := Lib.hid (show w.heap.size ≤ RB ∧ RB ≠ PB ∧ PB ≠ RB ∧ RB < W.heap.size by have := HWS.out; omega)
  clear hW hPB hRB
  have p0 : W.cell? ⟨PB, 0, none⟩ = some (.int .i64 6) := by rw [cell_of_row W PB 0 _ _ _ HX0.out]; rfl
  have p1 : W.cell? ⟨PB, 1, none⟩ = some (.int .i64 c) := by rw [cell_of_row W PB 1 _ _ _ HX0.out]; rfl
  have p2 : W.cell? ⟨PB, 2, none⟩ = some (.int .i64 o) := by rw [cell_of_row W PB 2 _ _ _ HX0.out]; rfl
  have p3 : W.cell? ⟨PB, 3, none⟩ = some (.bool vu) := by rw [cell_of_row W PB 3 _ _ _ HX0.out]; rfl
  have p4 : W.cell? ⟨PB, 4, none⟩ = some (.int .i64 vk) := by rw [cell_of_row W PB 4 _ _ _ HX0.out]; rfl
  have p5 : W.cell? ⟨PB, 5, none⟩ = some (.int .i64 vn) := by rw [cell_of_row W PB 5 _ _ _ HX0.out]; rfl
  have p6 : W.cell? ⟨PB, 6, none⟩ = some (.slice sa m sc) := by rw [cell_of_row W PB 6 _ _ _ HX0.out]; rfl
  have p7 : W.cell? ⟨PB, 7, none⟩ = some (.slice (some ⟨b1, f1, none⟩) 1 ec) := by rw [cell_of_row W PB 7 _ _ _ HX0.out]; rfl
  have m0 : W.cell? ⟨b1, f1, none⟩ = some (.int .i64 pk) := (by have h := HCELL.out 0 _ rfl; rw [Nat.zero_mul, Nat.add_zero] at h; exact (HBW.out.cell (World.block_lt_of_cell? _ _ h)).trans h)
  have m1 : W.cell? ⟨b1, f1 + 1, none⟩ = some (.int .i64 pc) := (by have h := HCELL.out 1 _ rfl; rw [Nat.zero_mul, Nat.add_zero] at h; exact (HBW.out.cell (World.block_lt_of_cell? _ _ h)).trans h)
  have m2 : W.cell? ⟨b1, f1 + 2, none⟩ = some (.int .i64 po) := (by have h := HCELL.out 2 _ rfl; rw [Nat.zero_mul, Nat.add_zero] at h; exact (HBW.out.cell (World.block_lt_of_cell? _ _ h)).trans h)
  have m3 : W.cell? ⟨b1, f1 + 3, none⟩ = some (.bool pu) := (by have h := HCELL.out 3 _ rfl; rw [Nat.zero_mul, Nat.add_zero] at h; exact (HBW.out.cell (World.block_lt_of_cell? _ _ h)).trans h)
  have m4 : W.cell? ⟨b1, f1 + 4, none⟩ = some (.int .i64 pvk) := (by have h := HCELL.out 4 _ rfl; rw [Nat.zero_mul, Nat.add_zero] at h; exact (HBW.out.cell (World.block_lt_of_cell? _ _ h)).trans h)
  have m5 : W.cell? ⟨b1, f1 + 5, none⟩ = some (.int .i64 pvn) := (by have h := HCELL.out 5 _ rfl; rw [Nat.zero_mul, Nat.add_zero] at h; exact (HBW.out.cell (World.block_lt_of_cell? _ _ h)).trans h)
  have m6 : W.cell? ⟨b1, f1 + 6, none⟩ = some (.slice psa psn psc) := (by have h := HCELL.out 6 _ rfl; rw [Nat.zero_mul, Nat.add_zero] at h; exact (HBW.out.cell (World.block_lt_of_cell? _ _ h)).trans h)
  have m7 : W.cell? ⟨b1, f1 + 7, none⟩ = some (.slice pea pen pec) := (by have h := HCELL.out 7 _ rfl; rw [Nat.zero_mul, Nat.add_zero] at h; exact (HBW.out.cell (World.block_lt_of_cell? _ _ h)).trans h)
  have HC := Lib.hid (hq (!nt) _ w0 W HRD.out HBW.out (by have h1 := HWS.out; have h2 := HSZ.out; omega))
  go_wp2_with fail
  refine HC.out.mono ?_
  rintro e W2 ⟨cs', rfl, hres, hb2⟩
  have HRES := Lib.hid hres
  have hrd2 := hres W2 (HBW.out.trans (hb2.mono HBW.out.size)) (Above.refl _ _)
  obtain ⟨rk, rc, ro, rvk, rvn, ru, rsa, rsn, rsc, rea, ren, rec, rfl⟩ := rdT1_shape hrd2
  have hy := (hb2.block RB (Array.getElem?_eq_some_iff.1 HY0.out).1).trans HY0.out
  have HY2 := Lib.hid hy
  have HB2 := Lib.hid (below_then HB0.out hb2)
  obtain ⟨h1, hne1, hne2, hrs⟩ := HPR.out
  clear hb2 hrd2 hres p0 m0 p1 m1 p2 m2 p3 m3 p4 m4 p5 m5 p6 m6 p7 m7
  have z0 : W2.cell? ⟨RB, 0, none⟩ = some (.int .i64 0) := by rw [cell_of_row W2 RB 0 _ _ _ hy]; rfl
  have zf0 : W2.frozen? ⟨RB, 0, none⟩ = false := frozen_of_row W2 RB 0 _ _ hy
  have z1 : W2.cell? ⟨RB, 1, none⟩ = some (.int .i64 0) := by rw [cell_of_row W2 RB 1 _ _ _ hy]; rfl
  have zf1 : W2.frozen? ⟨RB, 1, none⟩ = false := frozen_of_row W2 RB 1 _ _ hy
  have z2 : W2.cell? ⟨RB, 2, none⟩ = some (.int .i64 0) := by rw [cell_of_row W2 RB 2 _ _ _ hy]; rfl
  have zf2 : W2.frozen? ⟨RB, 2, none⟩ = false := frozen_of_row W2 RB 2 _ _ hy
  have z3 : W2.cell? ⟨RB, 3, none⟩ = some (.bool false) := by rw [cell_of_row W2 RB 3 _ _ _ hy]; rfl
  have zf3 : W2.frozen? ⟨RB, 3, none⟩ = false := frozen_of_row W2 RB 3 _ _ hy
  have z4 : W2.cell? ⟨RB, 4, none⟩ = some (.int .i64 0) := by rw [cell_of_row W2 RB 4 _ _ _ hy]; rfl
  have zf4 : W2.frozen? ⟨RB, 4, none⟩ = false := frozen_of_row W2 RB 4 _ _ hy
  have z5 : W2.cell? ⟨RB, 5, none⟩ = some (.int .i64 0) := by rw [cell_of_row W2 RB 5 _ _ _ hy]; rfl
  have zf5 : W2.frozen? ⟨RB, 5, none⟩ = false := frozen_of_row W2 RB 5 _ _ hy
  have z6 : W2.cell? ⟨RB, 6, none⟩ = some (.slice none 0 0) := by rw [cell_of_row W2 RB 6 _ _ _ hy]; rfl
  have zf6 : W2.frozen? ⟨RB, 6, none⟩ = false := frozen_of_row W2 RB 6 _ _ hy
  have z7 : W2.cell? ⟨RB, 7, none⟩ = some (.slice none 0 0) := by rw [cell_of_row W2 RB 7 _ _ _ hy]; rfl
  have zf7 : W2.frozen? ⟨RB, 7, none⟩ = false := frozen_of_row W2 RB 7 _ _ hy
  clear hy
  go_wp2_with fail
  refine bodyPost_ret (results_cell_row rfl _ _ RB _ _ (0, 0) _ rfl (eight_heap HY2.out) Try.underlying31 rfl infoPred8) rfl ?_
  have hgs : ∀ i u (wx : World), Below w.heap.size w wx → Below w.heap.size w (wx.setCell ⟨RB, i, none⟩ u) := fun i u wx h => h.setCell (p := ⟨RB, i, none⟩) h1 _
  have hst : ∀ i u (wx : World), Agree (fun b => b = RB) W2 wx → Agree (fun b => b = RB) W2 (wx.setCell ⟨RB, i, none⟩ u) := fun i u wx h => h.set ⟨RB, i, none⟩ u (.inl rfl)
  have hag := (hst 7 (.slice rea ren rec) _ (hst 6 (.slice rsa rsn rsc) _ (hst 5 (.int .i64 rvn) _ (hst 4 (.int .i64 rvk) _ (hst 3 (.bool ru) _ (hst 2 (.int .i64 ro) _ (hst 1 (.int .i64 rc) _ (hst 0 (.int .i64 rk) _ (Agree.refl _ W2)))))))))
  refine ⟨_, rfl, ?_, (hgs 7 (.slice rea ren rec) _ (hgs 6 (.slice rsa rsn rsc) _ (hgs 5 (.int .i64 rvn) _ (hgs 4 (.int .i64 rvk) _ (hgs 3 (.bool ru) _ (hgs 2 (.int .i64 ro) _ (hgs 1 (.int .i64 rc) _ (hgs 0 (.int .i64 rk) _ HB2.out))))))))⟩
  rw [HT.out]
  intro w'' hb ag
  exact HRES.out w'' hb ((agree_above hag (K := W.heap.size) (fun i h => by omega)).trans hag.size (ag.mono (by have := HWS.out; omega)))

end Go.Proofs.Ytfmkalnnpddefaa
