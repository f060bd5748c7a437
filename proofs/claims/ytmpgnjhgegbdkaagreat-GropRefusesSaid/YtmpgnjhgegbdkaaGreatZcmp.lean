import Derived.Test.YtmpgnjhgegbdkaaGreatZof2
import Derived.Test.YtmpgnjhgegbdkaaGreatNtim
set_option linter.unusedVariables false
set_option linter.unusedSimpArgs false
set_option maxRecDepth 100000
set_option maxHeartbeats 16000000
open Go.Lib (hid)
namespace Go.Proofs.YtmpgnjhgegbdkaaGreat
open Go.RowKit
open _root_.Array renaming getElem?_eq_some_iff -> Qa
open Go renaming cell_of_row -> Qb
def cmpPosT (o : Int) (v : Vc) (z : Zt) : Bool :=
 if o = 1 then decide (cmpT z.lo v <= 0) && decide (0 <= cmpT z.hi v) else if o = 2 then (cmpT z.lo v != 0) || (cmpT z.hi v != 0) else if o = 3 then decide (cmpT z.lo v < 0) else if o = 4 then decide (cmpT z.lo v <= 0) else if o = 5 then decide (0 < cmpT z.hi v) else if o = 6 then decide (0 <= cmpT z.hi v) else false
def cmpPosB (o c1 c2 : Int) : Bool :=
 if o = 1 then decide (c1 <= 0) && decide (0 <= c2) else if o = 2 then (c1 != 0) || (c2 != 0) else if o = 3 then decide (c1 < 0) else if o = 4 then decide (c1 <= 0) else if o = 5 then decide (0 < c2) else if o = 6 then decide (0 <= c2) else false
theorem zOd (a b : Vc) : cmpT a b = -1 ∨ cmpT a b = 0 ∨ cmpT a b = 1 := by
 have h1 : Cmp3 cmpB := zLo zLp
 unfold cmpT
 split
 ·split
  ·exact .inr (.inl rfl)
  ·exact .inl rfl
 ·split
  ·exact .inr (.inr rfl)
  ·split
   ·exact h1.tri _ _
   ·exact zWv.tri _ _
theorem zK6 (k c o : Int) (v : Vc) (s ls : Value) (z : Zv) (w : World) (hv : OkV w (v, s)) (hz : OkZ w z) :
  Calls Tryz.prog 151 #[aggP k c o v s ls, .agg (cellsZ z).toArray] w fun e w' => e = .returned (.bool (cmpPosT o v z.t)) ∧ Below w.heap.size w w' := by
 have HC1 := hid fun w' (h : Below w.heap.size w w') => zEv z.lo (v, s) w' (hz.1.kept h) (hv.kept h)
 have HC2 := hid fun w' (h : Below w.heap.size w w') => zEv z.hi (v, s) w' (hz.2.kept h) (hv.kept h)
 obtain ⟨sa, sc, hs⟩ := zAf hv.1
 obtain ⟨la, lc, hl⟩ := zAf hz.1.1
 obtain ⟨ha, hc, hh⟩ := zAf hz.2.1
 obtain ⟨zn, ⟨⟨lu, lk, ln, lb⟩, l1⟩, ⟨⟨hu, hk, hn, hb⟩, h1⟩⟩ := z
 simp only at hs hl hh
 subst hs hl hh
 have hT := zOd ⟨lu, lk, ln, lb⟩ v
 have hU := zOd ⟨hu, hk, hn, hb⟩ v
 have hR : cmpPosT o v (Zv.t ⟨zn, (⟨lu, lk, ln, lb⟩, .slice la lb.length lc), (⟨hu, hk, hn, hb⟩, .slice ha hb.length hc)⟩) = cmpPosB o (cmpT ⟨lu, lk, ln, lb⟩ v) (cmpT ⟨hu, hk, hn, hb⟩ v) := rfl
 rw [hR]
 obtain ⟨c1, hc1⟩ : ∃ c1, c1 = cmpT ⟨lu, lk, ln, lb⟩ v := ⟨_, rfl⟩
 obtain ⟨c2, hc2⟩ : ∃ c2, c2 = cmpT ⟨hu, hk, hn, hb⟩ v := ⟨_, rfl⟩
 simp only [<- hc1, <- hc2] at HC1 HC2 hT hU ⊢
 obtain ⟨vu, vk, vn, vb⟩ := v
 have HT := hid hT
 have HU := hid hU
 clear hv hz hR hc1 hc2 hT hU
 unfold aggV at HC1 HC2
 unfold aggP cellsZ cellsV
 simp only [List.cons_append, List.nil_append] at HC1 HC2 ⊢
 go_enter Tryz.func151, Tryz.ntmps151
 go_upto_region 1 with (fail)
 obtain ⟨W, hW⟩ : ∃ W : World, W = ((w.alloc (.cells #[.int .i64 k, .int .i64 c, .int .i64 o, .bool vu, .int .i64 vk, .int .i64 vn, .slice sa vb.length sc, ls] 65)).alloc (.cells #[.int .i64 zn, .bool lu, .int .i64 lk, .int .i64 ln, .slice la lb.length lc, .bool hu, .int .i64 hk, .int .i64 hn, .slice ha hb.length hc] 103)) := ⟨_, rfl⟩
 rw [<- hW]
 have h0 : W.heap[w.heap.size]? = some (.cells #[.int .i64 k, .int .i64 c, .int .i64 o, .bool vu, .int .i64 vk, .int .i64 vn, .slice sa vb.length sc, ls] 65 (0, 0)) := by rw [hW]; exact (heap_alloc_old _ _ (by simp)).trans (heap_alloc_new w _)
 have h1 : W.heap[w.heap.size + 1]? = some (.cells #[.int .i64 zn, .bool lu, .int .i64 lk, .int .i64 ln, .slice la lb.length lc, .bool hu, .int .i64 hk, .int .i64 hn, .slice ha hb.length hc] 103 (0, 0)) := by rw [hW]; exact zHk w _ _
 have HB := hid (show Below w.heap.size w W by rw [hW]; exact zAq w _ _)
 have HX0 := hid h0
 have HX1 := hid h1
 have ac0 : W.cell? ⟨w.heap.size, 0, none⟩ = some (.int .i64 k) := (by rw [Qb W (w.heap.size) 0 _ _ _ h0]; rfl)
 have ac1 : W.cell? ⟨w.heap.size, 1, none⟩ = some (.int .i64 c) := (by rw [Qb W (w.heap.size) 1 _ _ _ h0]; rfl)
 have ac2 : W.cell? ⟨w.heap.size, 2, none⟩ = some (.int .i64 o) := (by rw [Qb W (w.heap.size) 2 _ _ _ h0]; rfl)
 have ac3 : W.cell? ⟨w.heap.size, 3, none⟩ = some (.bool vu) := (by rw [Qb W (w.heap.size) 3 _ _ _ h0]; rfl)
 have ac4 : W.cell? ⟨w.heap.size, 4, none⟩ = some (.int .i64 vk) := (by rw [Qb W (w.heap.size) 4 _ _ _ h0]; rfl)
 have ac5 : W.cell? ⟨w.heap.size, 5, none⟩ = some (.int .i64 vn) := (by rw [Qb W (w.heap.size) 5 _ _ _ h0]; rfl)
 have ac6 : W.cell? ⟨w.heap.size, 6, none⟩ = some (.slice sa vb.length sc) := (by rw [Qb W (w.heap.size) 6 _ _ _ h0]; rfl)
 have ac7 : W.cell? ⟨w.heap.size, 7, none⟩ = some (ls) := (by rw [Qb W (w.heap.size) 7 _ _ _ h0]; rfl)
 have azc0 : W.cell? ⟨w.heap.size + 1, 0, none⟩ = some (.int .i64 zn) := (by rw [Qb W (w.heap.size + 1) 0 _ _ _ h1]; rfl)
 have azc1 : W.cell? ⟨w.heap.size + 1, 1, none⟩ = some (.bool lu) := (by rw [Qb W (w.heap.size + 1) 1 _ _ _ h1]; rfl)
 have azc2 : W.cell? ⟨w.heap.size + 1, 2, none⟩ = some (.int .i64 lk) := (by rw [Qb W (w.heap.size + 1) 2 _ _ _ h1]; rfl)
 have azc3 : W.cell? ⟨w.heap.size + 1, 3, none⟩ = some (.int .i64 ln) := (by rw [Qb W (w.heap.size + 1) 3 _ _ _ h1]; rfl)
 have azc4 : W.cell? ⟨w.heap.size + 1, 4, none⟩ = some (.slice la lb.length lc) := (by rw [Qb W (w.heap.size + 1) 4 _ _ _ h1]; rfl)
 have azc5 : W.cell? ⟨w.heap.size + 1, 5, none⟩ = some (.bool hu) := (by rw [Qb W (w.heap.size + 1) 5 _ _ _ h1]; rfl)
 have azc6 : W.cell? ⟨w.heap.size + 1, 6, none⟩ = some (.int .i64 hk) := (by rw [Qb W (w.heap.size + 1) 6 _ _ _ h1]; rfl)
 have azc7 : W.cell? ⟨w.heap.size + 1, 7, none⟩ = some (.int .i64 hn) := (by rw [Qb W (w.heap.size + 1) 7 _ _ _ h1]; rfl)
 have azc8 : W.cell? ⟨w.heap.size + 1, 8, none⟩ = some (.slice ha hb.length hc) := (by rw [Qb W (w.heap.size + 1) 8 _ _ _ h1]; rfl)
 clear hW h0 h1
 go_wp2_with fail
 refine (HC1.out W HB.out).mono ?_
 rintro e W2 ⟨rfl, hb2⟩
 have h0 := (hb2.block _ (Qa.1 HX0.out).1).trans HX0.out
 have h1 := (hb2.block _ (Qa.1 HX1.out).1).trans HX1.out
 have HB2 := hid (zAa HB.out hb2)
 have HY0 := hid h0
 have HY1 := hid h1
 clear hb2 ac0 ac1 ac2 ac3 ac4 ac5 ac6 ac7 azc0 azc1 azc2 azc3 azc4 azc5 azc6 azc7 azc8
 have bc0 : W2.cell? ⟨w.heap.size, 0, none⟩ = some (.int .i64 k) := (by rw [Qb W2 (w.heap.size) 0 _ _ _ h0]; rfl)
 have bc1 : W2.cell? ⟨w.heap.size, 1, none⟩ = some (.int .i64 c) := (by rw [Qb W2 (w.heap.size) 1 _ _ _ h0]; rfl)
 have bc2 : W2.cell? ⟨w.heap.size, 2, none⟩ = some (.int .i64 o) := (by rw [Qb W2 (w.heap.size) 2 _ _ _ h0]; rfl)
 have bc3 : W2.cell? ⟨w.heap.size, 3, none⟩ = some (.bool vu) := (by rw [Qb W2 (w.heap.size) 3 _ _ _ h0]; rfl)
 have bc4 : W2.cell? ⟨w.heap.size, 4, none⟩ = some (.int .i64 vk) := (by rw [Qb W2 (w.heap.size) 4 _ _ _ h0]; rfl)
 have bc5 : W2.cell? ⟨w.heap.size, 5, none⟩ = some (.int .i64 vn) := (by rw [Qb W2 (w.heap.size) 5 _ _ _ h0]; rfl)
 have bc6 : W2.cell? ⟨w.heap.size, 6, none⟩ = some (.slice sa vb.length sc) := (by rw [Qb W2 (w.heap.size) 6 _ _ _ h0]; rfl)
 have bc7 : W2.cell? ⟨w.heap.size, 7, none⟩ = some (ls) := (by rw [Qb W2 (w.heap.size) 7 _ _ _ h0]; rfl)
 have bzc0 : W2.cell? ⟨w.heap.size + 1, 0, none⟩ = some (.int .i64 zn) := (by rw [Qb W2 (w.heap.size + 1) 0 _ _ _ h1]; rfl)
 have bzc1 : W2.cell? ⟨w.heap.size + 1, 1, none⟩ = some (.bool lu) := (by rw [Qb W2 (w.heap.size + 1) 1 _ _ _ h1]; rfl)
 have bzc2 : W2.cell? ⟨w.heap.size + 1, 2, none⟩ = some (.int .i64 lk) := (by rw [Qb W2 (w.heap.size + 1) 2 _ _ _ h1]; rfl)
 have bzc3 : W2.cell? ⟨w.heap.size + 1, 3, none⟩ = some (.int .i64 ln) := (by rw [Qb W2 (w.heap.size + 1) 3 _ _ _ h1]; rfl)
 have bzc4 : W2.cell? ⟨w.heap.size + 1, 4, none⟩ = some (.slice la lb.length lc) := (by rw [Qb W2 (w.heap.size + 1) 4 _ _ _ h1]; rfl)
 have bzc5 : W2.cell? ⟨w.heap.size + 1, 5, none⟩ = some (.bool hu) := (by rw [Qb W2 (w.heap.size + 1) 5 _ _ _ h1]; rfl)
 have bzc6 : W2.cell? ⟨w.heap.size + 1, 6, none⟩ = some (.int .i64 hk) := (by rw [Qb W2 (w.heap.size + 1) 6 _ _ _ h1]; rfl)
 have bzc7 : W2.cell? ⟨w.heap.size + 1, 7, none⟩ = some (.int .i64 hn) := (by rw [Qb W2 (w.heap.size + 1) 7 _ _ _ h1]; rfl)
 have bzc8 : W2.cell? ⟨w.heap.size + 1, 8, none⟩ = some (.slice ha hb.length hc) := (by rw [Qb W2 (w.heap.size + 1) 8 _ _ _ h1]; rfl)
 clear h0 h1
 go_wp2_with fail
 refine (HC2.out W2 HB2.out).mono ?_
 rintro e W3 ⟨rfl, hb3⟩
 have h0 := (hb3.block _ (Qa.1 HY0.out).1).trans HY0.out
 have HB3 := hid (zAa HB2.out hb3)
 have o2 : W3.cell? ⟨w.heap.size, 2, none⟩ = some (.int .i64 o) := by rw [Qb W3 _ 2 _ _ _ h0]; rfl
 clear hb3 h0 bc0 bc1 bc2 bc3 bc4 bc5 bc6 bc7 bzc0 bzc1 bzc2 bzc3 bzc4 bzc5 bzc6 bzc7 bzc8
 rcases (by omega : o = 1 ∨ o = 2 ∨ o = 3 ∨ o = 4 ∨ o = 5 ∨ o = 6 ∨ (o ≠ 1 ∧ o ≠ 2 ∧ o ≠ 3 ∧ o ≠ 4 ∧ o ≠ 5 ∧ o ≠ 6)) with rfl | rfl | rfl | rfl | rfl | rfl | ⟨n1, n2, n3, n4, n5, n6⟩
 rotate_right
 ·have HA := hid (show cmpPosB o c1 c2 = false by unfold cmpPosB; simp [n1, n2, n3, n4, n5, n6])
  replace n1 : (o == 1) = false := by rw [beq_eq_false_iff_ne]; exact n1
  replace n2 : (o == 2) = false := by rw [beq_eq_false_iff_ne]; exact n2
  replace n3 : (o == 3) = false := by rw [beq_eq_false_iff_ne]; exact n3
  replace n4 : (o == 4) = false := by rw [beq_eq_false_iff_ne]; exact n4
  replace n5 : (o == 5) = false := by rw [beq_eq_false_iff_ne]; exact n5
  replace n6 : (o == 6) = false := by rw [beq_eq_false_iff_ne]; exact n6
  go_wp2_with fail
  go_ret
  exact ⟨by rw [HA.out] <;> rfl, HB3.out⟩
 all_goals
  rcases HT.out with rfl | rfl | rfl <;> rcases HU.out with rfl | rfl | rfl
 all_goals
  go_wp2_with fail
  go_ret
  exact ⟨rfl, HB3.out⟩
end Go.Proofs.YtmpgnjhgegbdkaaGreat
