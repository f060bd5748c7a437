/-
  The walk of NormTells.
-/
import Derived.Test.YtfmkalnnpddefaaNtm
import Derived.Test.YtfmkalnnpddefaaAwake8
namespace Go.Proofs.Ytfmkalnnpddefaa
set_option linter.unusedVariables false
set_option linter.unusedSimpArgs false
open Go.RowKit

def listC (K : Int) (B n : Nat) : List Value := [.int .i64 K, .int .i64 0, .int .i64 0, .bool false, .int .i64 0, .int .i64 0, .slice none 0 0, .slice (some ⟨B, 0, none⟩) n n]
theorem lits3 (V : World) (p q : Pt) (P Q : List Value) (hP : P.length = 8) (hQ : Q.length = 8) (hp : RdT1 V p P) (hq : RdT1 V q Q) (c1 c2 c3 : Array Value) (E : TypeId)
    (h1 : c1.toList = [Q, P, Q].flatten) (h2 : c2.toList = [Q].flatten) (h3 : c3.toList = [P, Q, listC 4 V.heap.size 3, listC 6 (V.heap.size + 1) 1].flatten) :
    RdS (((V.alloc (.cells c1 E)).alloc (.cells c2 E)).alloc (.cells c3 E)) 8 (.slice (some ⟨V.heap.size + 1 + 1, 0, none⟩) 4 4) [P, Q, listC 4 V.heap.size 3, listC 6 (V.heap.size + 1) 1] ∧
    RdTs (((V.alloc (.cells c1 E)).alloc (.cells c2 E)).alloc (.cells c3 E)) [p, q, .mk 4 0 0 zeroV [q, p, q], .mk 6 0 0 zeroV [q]] [P, Q, listC 4 V.heap.size 3, listC 6 (V.heap.size + 1) 1] := by
  have s1 : (V.alloc (.cells c1 E)).heap.size = V.heap.size + 1 := by simp
  have s2 : ((V.alloc (.cells c1 E)).alloc (.cells c2 E)).heap.size = V.heap.size + 1 + 1 := by simp
  have r1 := rdS_lits V c1 E 8 3 [Q, P, Q] h1 (fun t ht => by
    simp only [List.mem_cons, List.not_mem_nil, or_false] at ht
    rcases ht with rfl | rfl | rfl <;> assumption) rfl
  have r2 := rdS_lits (V.alloc (.cells c1 E)) c2 E 8 1 [Q] h2 (fun t ht => by rw [List.mem_singleton.1 ht]; exact hQ) rfl
  have r3 := rdS_lits ((V.alloc (.cells c1 E)).alloc (.cells c2 E)) c3 E 8 4 [P, Q, listC 4 V.heap.size 3, listC 6 (V.heap.size + 1) 1] h3 (fun t ht => by
    simp only [List.mem_cons, List.not_mem_nil, or_false] at ht
    rcases ht with rfl | rfl | rfl | rfl <;> first | assumption | rfl) rfl
  rw [s1] at r2
  rw [s2] at r3
  have b1 := below_alloc V (.cells c1 E)
  have b2 := below_alloc (V.alloc (.cells c1 E)) (.cells c2 E)
  have b3 := below_alloc ((V.alloc (.cells c1 E)).alloc (.cells c2 E)) (.cells c3 E)
  have kq := RdT1.kept b3 _ (RdT1.kept b2 _ (RdT1.kept b1 _ hq))
  have kp := RdT1.kept b3 _ (RdT1.kept b2 _ (RdT1.kept b1 _ hp))
  have k1 := (r1.kept b2).kept b3
  have k2 := r2.kept b3
  refine ⟨r3, ?_⟩
  simp only [RdTs]
  refine ⟨kp, kq, rd_listT _ 4 _ _ _ k1 ?_, rd_listT _ 6 _ _ _ k2 ?_, trivial⟩
  · simp only [RdTs]; exact ⟨kq, kp, kq, trivial⟩
  · simp only [RdTs]; exact ⟨kq, trivial⟩

theorem below_dr {B : Nat} {w0 w : World} (h : Below B w0 w) : Below B w0 w.drew := Below.trans h ⟨rfl, rfl, rfl, Nat.le_refl _, fun _ _ => rfl⟩
theorem sB {W w : World} {SB : Nat} {v : Value} (h0 : W.cell? ⟨SB, 0, none⟩ = some v) (h : Below W.heap.size W w) : w.cell? ⟨SB, 0, none⟩ = some v ∧ Below W.heap.size W w := ⟨(h.cell (World.block_lt_of_cell? _ _ h0)).trans h0, h⟩
def zObj : Obj := .cells #[.int .i64 0, .int .i64 0, .int .i64 0, .bool false, .int .i64 0, .int .i64 0, .slice none 0 0, .slice none 0 0] 31 (0, 0)
theorem set8z {w : World} {b : Nat} {v0 v1 v2 v3 v4 v5 v6 v7 : Value} (h : w.heap[b]? = some zObj) : ((((((((w.setCell ⟨b, 0, none⟩ v0).setCell ⟨b, 1, none⟩ v1).setCell ⟨b, 2, none⟩ v2).setCell ⟨b, 3, none⟩ v3).setCell ⟨b, 4, none⟩ v4).setCell ⟨b, 5, none⟩ v5).setCell ⟨b, 6, none⟩ v6).setCell ⟨b, 7, none⟩ v7).heap[b]? = some (.cells #[v0, v1, v2, v3, v4, v5, v6, v7] 31 (0, 0)) := by
  unfold zObj at h
  have h0 := heap_setCell_same w b 0 _ _ v0 h
  have h1 := heap_setCell_same (w.setCell ⟨b, 0, none⟩ v0) b 1 _ _ v1 h0
  have h2 := heap_setCell_same ((w.setCell ⟨b, 0, none⟩ v0).setCell ⟨b, 1, none⟩ v1) b 2 _ _ v2 h1
  have h3 := heap_setCell_same (((w.setCell ⟨b, 0, none⟩ v0).setCell ⟨b, 1, none⟩ v1).setCell ⟨b, 2, none⟩ v2) b 3 _ _ v3 h2
  have h4 := heap_setCell_same ((((w.setCell ⟨b, 0, none⟩ v0).setCell ⟨b, 1, none⟩ v1).setCell ⟨b, 2, none⟩ v2).setCell ⟨b, 3, none⟩ v3) b 4 _ _ v4 h3
  have h5 := heap_setCell_same (((((w.setCell ⟨b, 0, none⟩ v0).setCell ⟨b, 1, none⟩ v1).setCell ⟨b, 2, none⟩ v2).setCell ⟨b, 3, none⟩ v3).setCell ⟨b, 4, none⟩ v4) b 5 _ _ v5 h4
  have h6 := heap_setCell_same ((((((w.setCell ⟨b, 0, none⟩ v0).setCell ⟨b, 1, none⟩ v1).setCell ⟨b, 2, none⟩ v2).setCell ⟨b, 3, none⟩ v3).setCell ⟨b, 4, none⟩ v4).setCell ⟨b, 5, none⟩ v5) b 6 _ _ v6 h5
  have h7 := heap_setCell_same (((((((w.setCell ⟨b, 0, none⟩ v0).setCell ⟨b, 1, none⟩ v1).setCell ⟨b, 2, none⟩ v2).setCell ⟨b, 3, none⟩ v3).setCell ⟨b, 4, none⟩ v4).setCell ⟨b, 5, none⟩ v5).setCell ⟨b, 6, none⟩ v6) b 7 _ _ v7 h6
  simpa only [List.setIfInBounds_toArray, List.set_cons_zero, List.set_cons_succ] using h7
theorem z_new (w : World) : (w.alloc (.cells #[.int .i64 0, .int .i64 0, .int .i64 0, .bool false, .int .i64 0, .int .i64 0, .slice none 0 0, .slice none 0 0] 31)).heap[w.heap.size]? = some zObj := heap_alloc_new w _
theorem z_at {w : World} {b : Nat} (h : w.heap[b]? = some zObj) : w.cell? ⟨b, 0, none⟩ = some (.int .i64 0) ∧ w.cell? ⟨b, 1, none⟩ = some (.int .i64 0) ∧ w.cell? ⟨b, 2, none⟩ = some (.int .i64 0) ∧ w.cell? ⟨b, 3, none⟩ = some (.bool false) ∧ w.cell? ⟨b, 4, none⟩ = some (.int .i64 0) ∧ w.cell? ⟨b, 5, none⟩ = some (.int .i64 0) ∧ w.cell? ⟨b, 6, none⟩ = some (.slice none 0 0) ∧ w.cell? ⟨b, 7, none⟩ = some (.slice none 0 0) ∧ w.frozen? ⟨b, 0, none⟩ = false ∧ w.frozen? ⟨b, 1, none⟩ = false ∧ w.frozen? ⟨b, 2, none⟩ = false ∧ w.frozen? ⟨b, 3, none⟩ = false ∧ w.frozen? ⟨b, 4, none⟩ = false ∧ w.frozen? ⟨b, 5, none⟩ = false ∧ w.frozen? ⟨b, 6, none⟩ = false ∧ w.frozen? ⟨b, 7, none⟩ = false := by
  unfold zObj at h
  exact ⟨by rw [cell_of_row w b 0 _ _ _ h]; rfl, by rw [cell_of_row w b 1 _ _ _ h]; rfl, by rw [cell_of_row w b 2 _ _ _ h]; rfl, by rw [cell_of_row w b 3 _ _ _ h]; rfl, by rw [cell_of_row w b 4 _ _ _ h]; rfl, by rw [cell_of_row w b 5 _ _ _ h]; rfl, by rw [cell_of_row w b 6 _ _ _ h]; rfl, by rw [cell_of_row w b 7 _ _ _ h]; rfl, frozen_of_row w b 0 _ _ h, frozen_of_row w b 1 _ _ h, frozen_of_row w b 2 _ _ h, frozen_of_row w b 3 _ _ h, frozen_of_row w b 4 _ _ h, frozen_of_row w b 5 _ _ h, frozen_of_row w b 6 _ _ h, frozen_of_row w b 7 _ _ h⟩
theorem z_alloc {w : World} {b : Nat} (h : w.heap[b]? = some zObj) (o : Obj) : (w.alloc o).cell? ⟨b, 0, none⟩ = some (.int .i64 0) ∧ (w.alloc o).cell? ⟨b, 1, none⟩ = some (.int .i64 0) ∧ (w.alloc o).cell? ⟨b, 2, none⟩ = some (.int .i64 0) ∧ (w.alloc o).cell? ⟨b, 3, none⟩ = some (.bool false) ∧ (w.alloc o).cell? ⟨b, 4, none⟩ = some (.int .i64 0) ∧ (w.alloc o).cell? ⟨b, 5, none⟩ = some (.int .i64 0) ∧ (w.alloc o).cell? ⟨b, 6, none⟩ = some (.slice none 0 0) ∧ (w.alloc o).cell? ⟨b, 7, none⟩ = some (.slice none 0 0) ∧ (w.alloc o).frozen? ⟨b, 0, none⟩ = false ∧ (w.alloc o).frozen? ⟨b, 1, none⟩ = false ∧ (w.alloc o).frozen? ⟨b, 2, none⟩ = false ∧ (w.alloc o).frozen? ⟨b, 3, none⟩ = false ∧ (w.alloc o).frozen? ⟨b, 4, none⟩ = false ∧ (w.alloc o).frozen? ⟨b, 5, none⟩ = false ∧ (w.alloc o).frozen? ⟨b, 6, none⟩ = false ∧ (w.alloc o).frozen? ⟨b, 7, none⟩ = false :=
  z_at ((heap_alloc_old w o (Array.getElem?_eq_some_iff.1 h).1).trans h)
theorem name_w2 {A : Nat} {w0 w : World} (h : Below A w0 w) : ∃ V : World, V = w := ⟨w, rfl⟩

set_option maxRecDepth 100000 in
set_option maxHeartbeats 32000000 in
theorem walk_NormTells (a0 : Int) (a1 : Option Addr) (len1 cap1 : Nat) (z1 : List Int) (a2 : Option Addr) (len2 cap2 : Nat) (z2 : List Int) (w : World) (w0 : (Lit.int .i64 a0).wf = true) (w1 : IsRow .i64 w a1 len1 cap1 z1) (w2 : IsRow .i64 w a2 len2 cap2 z2) :
    Calls Try.prog 6 #[.int .i64 a0, .slice a1 len1 cap1, .slice a2 len2 cap2] w fun e w' => e = .returned (.bool true) ∧ Below w.heap.size w w' := by
  obtain ⟨la, hla, h1, _⟩ := isRow_rd w1
  obtain ⟨lb, hlb, h2, _⟩ := isRow_rd w2
  have HLA := Lib.hid hla
  have HLB := Lib.hid hlb
  have HR1 := Lib.hid h1
  have HR2 := Lib.hid h2
  have HS := Lib.hid (schema_rd a0 w)
  have HOK := Lib.hid (colsN_ok a0)
  clear hla h1 hlb h2 w0 w1 w2
  go_enter Try.func6, Try.ntmps6
  go_wp2_with fail
  refine HS.out.mono ?_
  rintro e W1 ⟨so, sc, rfl, hs1, hb1⟩
  obtain ⟨sn, hsn⟩ : ∃ sn, sn = (colsN a0).length := ⟨_, rfl⟩
  have hc1 := rdC_of hs1
  rw [← hsn] at hs1 hc1 ⊢
  have hc2 := RdC.kept hc1 (below_alloc W1 (.cells #[.slice so sn sc] 24))
  have HB1 := Lib.hid (below_lay hb1 (.cells #[.slice so sn sc] 24))
  have HC1 := Lib.hid hc2
  have hsb := heap_alloc_new W1 (.cells #[.slice so sn sc] 24)
  clear hsn
  go_upto_region 2 with (fail)
  obtain ⟨W2, hW2⟩ : ∃ W2 : World, W2 = W1.alloc (.cells #[.slice so sn sc] 24) := ⟨_, rfl⟩
  obtain ⟨pp, hpp⟩ : ∃ pp, pp = predOf (colsN a0) la 4 0 := ⟨_, rfl⟩
  obtain ⟨pq, hpq⟩ : ∃ pq, pq = predOf (colsN a0) lb 4 0 := ⟨_, rfl⟩
  have HEp := Lib.hid hpp
  have HEq := Lib.hid hpq
  have HNT := Lib.hid (show ∀ x ∈ [pp, pq, .mk 4 0 0 zeroV [pq, pp, pq], .mk 6 0 0 zeroV [pq]], NTok (colsN a0) x from by
    intro x hx
    simp only [List.mem_cons, List.not_mem_nil, or_false] at hx
    rw [hpp, hpq] at hx
    rcases hx with rfl | rfl | rfl | rfl
    · exact ntok_law HOK.out la
    · exact ntok_law HOK.out lb
    · exact ntok_and HOK.out la lb
    · exact ntok_not HOK.out lb)
  obtain ⟨SB, hSB⟩ : ∃ SB, SB = W1.heap.size := ⟨_, rfl⟩
  rw [← hW2] at HB1 HC1 hsb ⊢
  rw [← hSB] at hsb ⊢
  have HPp := Lib.hid (show ∀ w', Below W2.heap.size W2 w' → Calls Try.prog 22 #[.agg #[.slice so sn sc], .slice a1 len1 cap1, .int .i64 0, .int .i64 4] w' fun e w'' => ∃ (pk pc po pvk pvn : Int) (pu : Bool) (pa : Option Addr) (pn pm : Nat) (pa2 : Option Addr) (pn2 pm2 : Nat),  e = .returned (.agg #[.int .i64 pk, .int .i64 pc, .int .i64 po, .bool pu, .int .i64 pvk, .int .i64 pvn, .slice pa pn pm, .slice pa2 pn2 pm2]) ∧ (∀ v : World, Above w'.heap.size w'' v → RdT1 v pp [.int .i64 pk, .int .i64 pc, .int .i64 po, .bool pu, .int .i64 pvk, .int .i64 pvn, .slice pa pn pm, .slice pa2 pn2 pm2]) ∧ Below w'.heap.size w' w'' from by
    intro w' hb
    refine (lawpred_any (colsN a0) HOK.out.ne HOK.out.le la 4 (by decide) 0 (.slice so sn sc) a1 len1 cap1 w' (by decide) HLA.out.symm (RdC.kept HC1.out hb) ((HR1.out.kept HB1.out).kept hb)).mono ?_
    rintro e w'' ⟨cs, rfl, ha, hb2⟩
    obtain ⟨pk, pc, po, pvk, pvn, pu, pa, pn, pm, pa2, pn2, pm2,  hcs⟩ := rdA1_shape ha
    subst hcs
    rw [← HEp.out] at ha
    exact ⟨pk, pc, po, pvk, pvn, pu, pa, pn, pm, pa2, pn2, pm2,  rfl, fun v hv => RdA1.rd _ (RdA1.above hv (Nat.le_refl _) _ ha), hb2⟩)
  have HPq := Lib.hid (show ∀ w', Below W2.heap.size W2 w' → Calls Try.prog 22 #[.agg #[.slice so sn sc], .slice a2 len2 cap2, .int .i64 0, .int .i64 4] w' fun e w'' => ∃ (qk qc qo qvk qvn : Int) (qu : Bool) (qa : Option Addr) (qn qm : Nat) (qa2 : Option Addr) (qn2 qm2 : Nat),  e = .returned (.agg #[.int .i64 qk, .int .i64 qc, .int .i64 qo, .bool qu, .int .i64 qvk, .int .i64 qvn, .slice qa qn qm, .slice qa2 qn2 qm2]) ∧ (∀ v : World, Above w'.heap.size w'' v → RdT1 v pq [.int .i64 qk, .int .i64 qc, .int .i64 qo, .bool qu, .int .i64 qvk, .int .i64 qvn, .slice qa qn qm, .slice qa2 qn2 qm2]) ∧ Below w'.heap.size w' w'' from by
    intro w' hb
    refine (lawpred_any (colsN a0) HOK.out.ne HOK.out.le lb 4 (by decide) 0 (.slice so sn sc) a2 len2 cap2 w' (by decide) HLB.out.symm (RdC.kept HC1.out hb) ((HR2.out.kept HB1.out).kept hb)).mono ?_
    rintro e w'' ⟨cs, rfl, ha, hb2⟩
    obtain ⟨qk, qc, qo, qvk, qvn, qu, qa, qn, qm, qa2, qn2, qm2,  hcs⟩ := rdA1_shape ha
    subst hcs
    rw [← HEq.out] at ha
    exact ⟨qk, qc, qo, qvk, qvn, qu, qa, qn, qm, qa2, qn2, qm2,  rfl, fun v hv => RdA1.rd _ (RdA1.above hv (Nat.le_refl _) _ ha), hb2⟩)
  have HSB := Lib.hid hsb
  have cs0 : W2.cell? ⟨SB, 0, none⟩ = some (.slice so sn sc) := by rw [cell_of_row W2 SB 0 _ _ _ hsb]; rfl
  clear hs1 hc1 hc2 hb1 hpp hpq hW2 hSB hsb
  go_cut [8, 9] (fun x y wx => ∃ PB QB : Nat, x = .pointer (some ⟨PB, 0, none⟩) ∧ y = .pointer (some ⟨QB, 0, none⟩) ∧ ∃ HP HQ : Obj, (∃ (pk pc po pvk pvn : Int) (pu : Bool) (pa : Option Addr) (pn pm : Nat) (pa2 : Option Addr) (pn2 pm2 : Nat),  HP = .cells #[.int .i64 pk, .int .i64 pc, .int .i64 po, .bool pu, .int .i64 pvk, .int .i64 pvn, .slice pa pn pm, .slice pa2 pn2 pm2] 31 (0, 0) ∧ RdT1 wx pp [.int .i64 pk, .int .i64 pc, .int .i64 po, .bool pu, .int .i64 pvk, .int .i64 pvn, .slice pa pn pm, .slice pa2 pn2 pm2]) ∧ (∃ (qk qc qo qvk qvn : Int) (qu : Bool) (qa : Option Addr) (qn qm : Nat) (qa2 : Option Addr) (qn2 qm2 : Nat),  HQ = .cells #[.int .i64 qk, .int .i64 qc, .int .i64 qo, .bool qu, .int .i64 qvk, .int .i64 qvn, .slice qa qn qm, .slice qa2 qn2 qm2] 31 (0, 0) ∧ RdT1 wx pq [.int .i64 qk, .int .i64 qc, .int .i64 qo, .bool qu, .int .i64 qvk, .int .i64 qvn, .slice qa qn qm, .slice qa2 qn2 qm2]) ∧ wx.heap[PB]? = some HP ∧ wx.heap[QB]? = some HQ ∧ Below W2.heap.size W2 wx)
  case first =>
    set_option maxRecDepth 1000000 in
    go_region_held3 (fun w' => w'.cell? ⟨SB, 0, none⟩ = some (.slice so sn sc) ∧ Below W2.heap.size W2 w') (first | (with_reducible assumption) | (with_reducible refine sB cs0 ?_; (repeat (first | (with_reducible assumption) | (with_reducible exact below_drw _ _) | (with_reducible exact Below.refl _ _) | (with_reducible refine Below.setCell ?_ (by first | exact Nat.le_refl _ | exact Nat.le_succ _ | exact hge1 | exact hge2 | exact Nat.le_succ_of_le hge1 | exact Nat.le_succ_of_le hge2 | fail) _) | (with_reducible refine below_lay ?_ _) | (with_reducible refine below_dr ?_) | fail))) | fail)
      (first
        | (go_at_call_of 22 (Value.slice a2 len2 cap2); refine (HPq.out _ (by repeat (first | (with_reducible assumption) | (with_reducible exact below_drw _ _) | (with_reducible exact Below.refl _ _) | (with_reducible refine below_lay ?_ _) | (with_reducible refine below_dr ?_) | fail))).mono ?_; rintro e wQ ⟨qk, qc, qo, qvk, qvn, qu, qa, qn, qm, qa2, qn2, qm2, rfl, hrQ, hbQ⟩; have HRQ := Lib.hid hrQ; have HBQ := Lib.hid hbQ; have hBQ : Below W2.heap.size W2 wQ := (by first | exact below_then hBP hbQ | exact below_then (below_lay hBP _) hbQ | exact below_then (below_lay (below_lay hBP _) _) hbQ | exact below_then (below_drw _ _) hbQ | exact below_then (below_dr (below_lay (Below.refl _ _) _)) hbQ | exact below_then (below_dr (below_lay (below_lay (Below.refl _ _) _) _)) hbQ | exact hbQ | fail); have hPQ : Below wP.heap.size wP wQ := (by first | exact hbQ | exact below_then (below_alloc wP _) hbQ | exact below_then (below2 wP _ _) hbQ | fail); have hszPQ : wP.heap.size ≤ wQ.heap.size := hPQ.size; have hge1 : W2.heap.size ≤ wP.heap.size := hBP.size; have hge2 : W2.heap.size ≤ wQ.heap.size := hBQ.size; (first | (have hzA' : wQ.heap[W2.heap.size]? = some zObj := (by first | exact (hbQ.block W2.heap.size (Array.getElem?_eq_some_iff.1 hzA).1).trans hzA | exact (hbQ.block W2.heap.size (by have := (Array.getElem?_eq_some_iff.1 hzA).1; simp; omega)).trans ((heap_alloc_old wP _ (Array.getElem?_eq_some_iff.1 hzA).1).trans hzA) | fail); have hzB' : wQ.heap[W2.heap.size + 1]? = some zObj := (by first | exact (hbQ.block (W2.heap.size + 1) (Array.getElem?_eq_some_iff.1 hzB).1).trans hzB | fail); obtain ⟨zAq0, zAq1, zAq2, zAq3, zAq4, zAq5, zAq6, zAq7, zAq8, zAq9, zAq10, zAq11, zAq12, zAq13, zAq14, zAq15⟩ := z_at hzA'; obtain ⟨zBq0, zBq1, zBq2, zBq3, zBq4, zBq5, zBq6, zBq7, zBq8, zBq9, zBq10, zBq11, zBq12, zBq13, zBq14, zBq15⟩ := z_at hzB') | (have hzA' : wQ.heap[W2.heap.size]? = some zObj := (by first | exact (hbQ.block W2.heap.size (Array.getElem?_eq_some_iff.1 hzA).1).trans hzA | exact (hbQ.block W2.heap.size (by have := (Array.getElem?_eq_some_iff.1 hzA).1; simp; omega)).trans ((heap_alloc_old wP _ (Array.getElem?_eq_some_iff.1 hzA).1).trans hzA) | fail); have hzC' : wQ.heap[wP.heap.size]? = some zObj := (by first | exact (hbQ.block wP.heap.size (by first | (simp; done) | (simp; omega) | fail)).trans (heap_alloc_new wP _) | exact (hbQ.block wP.heap.size (by first | (simp; done) | (simp; omega) | fail)).trans ((heap_alloc_old (wP.alloc _) _ (by simp)).trans (heap_alloc_new wP _)) | fail); obtain ⟨zAq0, zAq1, zAq2, zAq3, zAq4, zAq5, zAq6, zAq7, zAq8, zAq9, zAq10, zAq11, zAq12, zAq13, zAq14, zAq15⟩ := z_at hzA'; obtain ⟨zCq0, zCq1, zCq2, zCq3, zCq4, zCq5, zCq6, zCq7, zCq8, zCq9, zCq10, zCq11, zCq12, zCq13, zCq14, zCq15⟩ := z_at hzC'; have hn1 : W2.heap.size < wP.heap.size := (Array.getElem?_eq_some_iff.1 hzA).1; have hn1' : W2.heap.size ≠ wP.heap.size := Nat.ne_of_lt hn1; have hn1'' : wP.heap.size ≠ W2.heap.size := Ne.symm hn1') | (have hzC' : wQ.heap[wP.heap.size]? = some zObj := (by first | exact (hbQ.block wP.heap.size (by first | (simp; done) | (simp; omega) | fail)).trans (heap_alloc_new wP _) | exact (hbQ.block wP.heap.size (by first | (simp; done) | (simp; omega) | fail)).trans ((heap_alloc_old (wP.alloc _) _ (by simp)).trans (heap_alloc_new wP _)) | fail); have hzD' : wQ.heap[wP.heap.size + 1]? = some zObj := (by first | exact (hbQ.block (wP.heap.size + 1) (by first | (simp; done) | (simp; omega) | fail)).trans (heap2 wP _ _) | fail); obtain ⟨zCq0, zCq1, zCq2, zCq3, zCq4, zCq5, zCq6, zCq7, zCq8, zCq9, zCq10, zCq11, zCq12, zCq13, zCq14, zCq15⟩ := z_at hzC'; obtain ⟨zDq0, zDq1, zDq2, zDq3, zDq4, zDq5, zDq6, zDq7, zDq8, zDq9, zDq10, zDq11, zDq12, zDq13, zDq14, zDq15⟩ := z_at hzD') | (have hzA' : wQ.heap[W2.heap.size]? = some zObj := (by first | exact (hbQ.block W2.heap.size (Array.getElem?_eq_some_iff.1 hzA).1).trans hzA | exact (hbQ.block W2.heap.size (by have := (Array.getElem?_eq_some_iff.1 hzA).1; simp; omega)).trans ((heap_alloc_old wP _ (Array.getElem?_eq_some_iff.1 hzA).1).trans hzA) | fail); obtain ⟨zAz0, zAz1, zAz2, zAz3, zAz4, zAz5, zAz6, zAz7, zAz8, zAz9, zAz10, zAz11, zAz12, zAz13, zAz14, zAz15⟩ := z_alloc hzA' (.cells #[.int .i64 0, .int .i64 0, .int .i64 0, .bool false, .int .i64 0, .int .i64 0, .slice none 0 0, .slice none 0 0] 31); obtain ⟨zAp0, zAp1, zAp2, zAp3, zAp4, zAp5, zAp6, zAp7, zAp8, zAp9, zAp10, zAp11, zAp12, zAp13, zAp14, zAp15⟩ := z_alloc hzA' (.cells #[.int .i64 pk, .int .i64 pc, .int .i64 po, .bool pu, .int .i64 pvk, .int .i64 pvn, .slice pa pn pm, .slice pa2 pn2 pm2] 31); have hn2' : W2.heap.size ≠ wQ.heap.size := Nat.ne_of_lt (Array.getElem?_eq_some_iff.1 hzA').1; have hn2'' : wQ.heap.size ≠ W2.heap.size := Ne.symm hn2') | (have hzC' : wQ.heap[wP.heap.size]? = some zObj := (by first | exact (hbQ.block wP.heap.size (by first | (simp; done) | (simp; omega) | fail)).trans (heap_alloc_new wP _) | exact (hbQ.block wP.heap.size (by first | (simp; done) | (simp; omega) | fail)).trans ((heap_alloc_old (wP.alloc _) _ (by simp)).trans (heap_alloc_new wP _)) | fail); obtain ⟨zCz0, zCz1, zCz2, zCz3, zCz4, zCz5, zCz6, zCz7, zCz8, zCz9, zCz10, zCz11, zCz12, zCz13, zCz14, zCz15⟩ := z_alloc hzC' (.cells #[.int .i64 0, .int .i64 0, .int .i64 0, .bool false, .int .i64 0, .int .i64 0, .slice none 0 0, .slice none 0 0] 31); obtain ⟨zCp0, zCp1, zCp2, zCp3, zCp4, zCp5, zCp6, zCp7, zCp8, zCp9, zCp10, zCp11, zCp12, zCp13, zCp14, zCp15⟩ := z_alloc hzC' (.cells #[.int .i64 pk, .int .i64 pc, .int .i64 po, .bool pu, .int .i64 pvk, .int .i64 pvn, .slice pa pn pm, .slice pa2 pn2 pm2] 31); have hn3' : wP.heap.size ≠ wQ.heap.size := Nat.ne_of_lt (Array.getElem?_eq_some_iff.1 hzC').1; have hn3'' : wQ.heap.size ≠ wP.heap.size := Ne.symm hn3') | skip))
        | (go_at_call_of 22 (Value.slice a1 len1 cap1); refine (HPp.out _ (by repeat (first | (with_reducible assumption) | (with_reducible exact below_drw _ _) | (with_reducible exact Below.refl _ _) | (with_reducible refine below_lay ?_ _) | (with_reducible refine below_dr ?_) | fail))).mono ?_; rintro e wP ⟨pk, pc, po, pvk, pvn, pu, pa, pn, pm, pa2, pn2, pm2, rfl, hrP, hbP⟩; have HRP := Lib.hid hrP; have HBP := Lib.hid hbP; have hBP : Below W2.heap.size W2 wP := (by first | exact below_then hBQ hbP | exact below_then (below_lay hBQ _) hbP | exact below_then (below_lay (below_lay hBQ _) _) hbP | exact below_then (below_drw _ _) hbP | exact below_then (below_dr (below_lay (Below.refl _ _) _)) hbP | exact below_then (below_dr (below_lay (below_lay (Below.refl _ _) _) _)) hbP | exact hbP | fail); have csP := (hBP.cell (World.block_lt_of_cell? _ _ cs0)).trans cs0; have csQ := fun o : Obj => Lib.cell?_alloc_some (W := wP) o csP; try (have hzA : wP.heap[W2.heap.size]? = some zObj := (by first | exact (hbP.block W2.heap.size (by first | (simp; done) | (simp; omega) | fail)).trans (heap_alloc_new W2 _) | exact (hbP.block W2.heap.size (by first | (simp; done) | (simp; omega) | fail)).trans ((heap_alloc_old (W2.alloc _) _ (by simp)).trans (heap_alloc_new W2 _)) | fail); have hnA := (Array.getElem?_eq_some_iff.1 hzA).1); try (have hzB : wP.heap[W2.heap.size + 1]? = some zObj := (by first | exact (hbP.block (W2.heap.size + 1) (by first | (simp; done) | (simp; omega) | fail)).trans (heap2 W2 _ _) | fail); have hnB := (Array.getElem?_eq_some_iff.1 hzB).1))
        | fail)
    all_goals
      first | go_meet | (go_wp2_with fail; go_meet)
      refine ⟨_, _, rfl, rfl, _, _, ⟨pk, pc, po, pvk, pvn, pu, pa, pn, pm, pa2, pn2, pm2, rfl, hrP _ (fun i h1 h2 => ?_)⟩, ⟨qk, qc, qo, qvk, qvn, qu, qa, qn, qm, qa2, qn2, qm2, rfl, hrQ _ (fun i h1 h2 => ?_)⟩, ?_, ?_, ?_⟩
      · (try simp at h1); (repeat (first | (with_reducible rfl) | (with_reducible exact hPQ.block i h2) | (with_reducible assumption) | (with_reducible exact heap_alloc_new _ _) | (with_reducible exact z_new _) | (with_reducible exact heap2 _ _ _) | (with_reducible refine set8z ?_) | (with_reducible refine (heap_setCell_other _ _ _ _ (by dsimp only; omega)).trans ?_) | (with_reducible refine (heap_alloc_old _ _ (by first | omega | (simp; omega) | (simp; done) | fail)).trans ?_)))
      · (try simp at h1); (repeat (first | (with_reducible rfl) | (with_reducible assumption) | (with_reducible exact heap_alloc_new _ _) | (with_reducible exact z_new _) | (with_reducible exact heap2 _ _ _) | (with_reducible refine set8z ?_) | (with_reducible refine (heap_setCell_other _ _ _ _ (by dsimp only; omega)).trans ?_) | (with_reducible refine (heap_alloc_old _ _ (by first | omega | (simp; omega) | (simp; done) | fail)).trans ?_)))
      · (repeat (first | (with_reducible rfl) | (with_reducible assumption) | (with_reducible exact heap_alloc_new _ _) | (with_reducible exact z_new _) | (with_reducible exact heap2 _ _ _) | (with_reducible refine set8z ?_) | (with_reducible refine (heap_setCell_other _ _ _ _ (by dsimp only; omega)).trans ?_) | (with_reducible refine (heap_alloc_old _ _ (by first | omega | (simp; omega) | (simp; done) | fail)).trans ?_)))
      · (repeat (first | (with_reducible rfl) | (with_reducible assumption) | (with_reducible exact heap_alloc_new _ _) | (with_reducible exact z_new _) | (with_reducible exact heap2 _ _ _) | (with_reducible refine set8z ?_) | (with_reducible refine (heap_setCell_other _ _ _ _ (by dsimp only; omega)).trans ?_) | (with_reducible refine (heap_alloc_old _ _ (by first | omega | (simp; omega) | (simp; done) | fail)).trans ?_)))
      · (repeat (first | (with_reducible assumption) | (with_reducible refine Below.setCell ?_ (by dsimp only; omega) _) | (with_reducible refine below_lay ?_ _) | (with_reducible refine below_dr ?_)))
  case rest =>
    obtain ⟨PB, QB, rfl, rfl, OP, OQ, ⟨pk, pc, po, pvk, pvn, pu, pa, pn, pm, pa2, pn2, pm2, hOP, hrp⟩, ⟨qk, qc, qo, qvk, qvn, qu, qa, qn, qm, qa2, qn2, qm2, hOQ, hrq⟩, hpb, hqb, hbw⟩ := hcut
    subst hOP hOQ
    obtain ⟨V, hV⟩ := name_w2 hbw
    rw [← hV] at hrp hrq hpb hqb hbw ⊢
    have HBV := Lib.hid (below_then HB1.out hbw)
    have HCV := Lib.hid (RdC.kept HC1.out hbw)
    have HSV := Lib.hid ((hbw.block SB (Array.getElem?_eq_some_iff.1 HSB.out).1).trans HSB.out)
    clear hV hbw cs0 HPp HPq
    have cp0 : V.cell? ⟨PB, 0, none⟩ = some (.int .i64 pk) := by rw [cell_of_row V PB 0 _ _ _ hpb]; rfl
    have cp1 : V.cell? ⟨PB, 1, none⟩ = some (.int .i64 pc) := by rw [cell_of_row V PB 1 _ _ _ hpb]; rfl
    have cp2 : V.cell? ⟨PB, 2, none⟩ = some (.int .i64 po) := by rw [cell_of_row V PB 2 _ _ _ hpb]; rfl
    have cp3 : V.cell? ⟨PB, 3, none⟩ = some (.bool pu) := by rw [cell_of_row V PB 3 _ _ _ hpb]; rfl
    have cp4 : V.cell? ⟨PB, 4, none⟩ = some (.int .i64 pvk) := by rw [cell_of_row V PB 4 _ _ _ hpb]; rfl
    have cp5 : V.cell? ⟨PB, 5, none⟩ = some (.int .i64 pvn) := by rw [cell_of_row V PB 5 _ _ _ hpb]; rfl
    have cp6 : V.cell? ⟨PB, 6, none⟩ = some (.slice pa pn pm) := by rw [cell_of_row V PB 6 _ _ _ hpb]; rfl
    have cp7 : V.cell? ⟨PB, 7, none⟩ = some (.slice pa2 pn2 pm2) := by rw [cell_of_row V PB 7 _ _ _ hpb]; rfl
    have cq0 : V.cell? ⟨QB, 0, none⟩ = some (.int .i64 qk) := by rw [cell_of_row V QB 0 _ _ _ hqb]; rfl
    have cq1 : V.cell? ⟨QB, 1, none⟩ = some (.int .i64 qc) := by rw [cell_of_row V QB 1 _ _ _ hqb]; rfl
    have cq2 : V.cell? ⟨QB, 2, none⟩ = some (.int .i64 qo) := by rw [cell_of_row V QB 2 _ _ _ hqb]; rfl
    have cq3 : V.cell? ⟨QB, 3, none⟩ = some (.bool qu) := by rw [cell_of_row V QB 3 _ _ _ hqb]; rfl
    have cq4 : V.cell? ⟨QB, 4, none⟩ = some (.int .i64 qvk) := by rw [cell_of_row V QB 4 _ _ _ hqb]; rfl
    have cq5 : V.cell? ⟨QB, 5, none⟩ = some (.int .i64 qvn) := by rw [cell_of_row V QB 5 _ _ _ hqb]; rfl
    have cq6 : V.cell? ⟨QB, 6, none⟩ = some (.slice qa qn qm) := by rw [cell_of_row V QB 6 _ _ _ hqb]; rfl
    have cq7 : V.cell? ⟨QB, 7, none⟩ = some (.slice qa2 qn2 qm2) := by rw [cell_of_row V QB 7 _ _ _ hqb]; rfl
    have HL := Lib.hid (lits3 V pp pq [.int .i64 pk, .int .i64 pc, .int .i64 po, .bool pu, .int .i64 pvk, .int .i64 pvn, .slice pa pn pm, .slice pa2 pn2 pm2] [.int .i64 qk, .int .i64 qc, .int .i64 qo, .bool qu, .int .i64 qvk, .int .i64 qvn, .slice qa qn qm, .slice qa2 qn2 qm2] rfl rfl hrp hrq #[.int .i64 qk, .int .i64 qc, .int .i64 qo, .bool qu, .int .i64 qvk, .int .i64 qvn, .slice qa qn qm, .slice qa2 qn2 qm2, .int .i64 pk, .int .i64 pc, .int .i64 po, .bool pu, .int .i64 pvk, .int .i64 pvn, .slice pa pn pm, .slice pa2 pn2 pm2, .int .i64 qk, .int .i64 qc, .int .i64 qo, .bool qu, .int .i64 qvk, .int .i64 qvn, .slice qa qn qm, .slice qa2 qn2 qm2] #[.int .i64 qk, .int .i64 qc, .int .i64 qo, .bool qu, .int .i64 qvk, .int .i64 qvn, .slice qa qn qm, .slice qa2 qn2 qm2] #[.int .i64 pk, .int .i64 pc, .int .i64 po, .bool pu, .int .i64 pvk, .int .i64 pvn, .slice pa pn pm, .slice pa2 pn2 pm2, .int .i64 qk, .int .i64 qc, .int .i64 qo, .bool qu, .int .i64 qvk, .int .i64 qvn, .slice qa qn qm, .slice qa2 qn2 qm2, .int .i64 4, .int .i64 0, .int .i64 0, .bool false, .int .i64 0, .int .i64 0, .slice none 0 0, .slice (some ⟨V.heap.size, 0, none⟩) 3 3, .int .i64 6, .int .i64 0, .int .i64 0, .bool false, .int .i64 0, .int .i64 0, .slice none 0 0, .slice (some ⟨V.heap.size + 1, 0, none⟩) 1 1] 31 rfl rfl rfl)
    have HB3 := Lib.hid (below3 V (.cells #[.int .i64 qk, .int .i64 qc, .int .i64 qo, .bool qu, .int .i64 qvk, .int .i64 qvn, .slice qa qn qm, .slice qa2 qn2 qm2, .int .i64 pk, .int .i64 pc, .int .i64 po, .bool pu, .int .i64 pvk, .int .i64 pvn, .slice pa pn pm, .slice pa2 pn2 pm2, .int .i64 qk, .int .i64 qc, .int .i64 qo, .bool qu, .int .i64 qvk, .int .i64 qvn, .slice qa qn qm, .slice qa2 qn2 qm2] 31) (.cells #[.int .i64 qk, .int .i64 qc, .int .i64 qo, .bool qu, .int .i64 qvk, .int .i64 qvn, .slice qa qn qm, .slice qa2 qn2 qm2] 31) (.cells #[.int .i64 pk, .int .i64 pc, .int .i64 po, .bool pu, .int .i64 pvk, .int .i64 pvn, .slice pa pn pm, .slice pa2 pn2 pm2, .int .i64 qk, .int .i64 qc, .int .i64 qo, .bool qu, .int .i64 qvk, .int .i64 qvn, .slice qa qn qm, .slice qa2 qn2 qm2, .int .i64 4, .int .i64 0, .int .i64 0, .bool false, .int .i64 0, .int .i64 0, .slice none 0 0, .slice (some ⟨V.heap.size, 0, none⟩) 3 3, .int .i64 6, .int .i64 0, .int .i64 0, .bool false, .int .i64 0, .int .i64 0, .slice none 0 0, .slice (some ⟨V.heap.size + 1, 0, none⟩) 1 1] 31))
    clear hrp hrq hpb hqb
    have cqa0 := Lib.cell?_alloc_some (W := V) (.cells #[.int .i64 qk, .int .i64 qc, .int .i64 qo, .bool qu, .int .i64 qvk, .int .i64 qvn, .slice qa qn qm, .slice qa2 qn2 qm2, .int .i64 pk, .int .i64 pc, .int .i64 po, .bool pu, .int .i64 pvk, .int .i64 pvn, .slice pa pn pm, .slice pa2 pn2 pm2, .int .i64 qk, .int .i64 qc, .int .i64 qo, .bool qu, .int .i64 qvk, .int .i64 qvn, .slice qa qn qm, .slice qa2 qn2 qm2] 31) cq0
    have cqa1 := Lib.cell?_alloc_some (W := V) (.cells #[.int .i64 qk, .int .i64 qc, .int .i64 qo, .bool qu, .int .i64 qvk, .int .i64 qvn, .slice qa qn qm, .slice qa2 qn2 qm2, .int .i64 pk, .int .i64 pc, .int .i64 po, .bool pu, .int .i64 pvk, .int .i64 pvn, .slice pa pn pm, .slice pa2 pn2 pm2, .int .i64 qk, .int .i64 qc, .int .i64 qo, .bool qu, .int .i64 qvk, .int .i64 qvn, .slice qa qn qm, .slice qa2 qn2 qm2] 31) cq1
    have cqa2 := Lib.cell?_alloc_some (W := V) (.cells #[.int .i64 qk, .int .i64 qc, .int .i64 qo, .bool qu, .int .i64 qvk, .int .i64 qvn, .slice qa qn qm, .slice qa2 qn2 qm2, .int .i64 pk, .int .i64 pc, .int .i64 po, .bool pu, .int .i64 pvk, .int .i64 pvn, .slice pa pn pm, .slice pa2 pn2 pm2, .int .i64 qk, .int .i64 qc, .int .i64 qo, .bool qu, .int .i64 qvk, .int .i64 qvn, .slice qa qn qm, .slice qa2 qn2 qm2] 31) cq2
    have cqa3 := Lib.cell?_alloc_some (W := V) (.cells #[.int .i64 qk, .int .i64 qc, .int .i64 qo, .bool qu, .int .i64 qvk, .int .i64 qvn, .slice qa qn qm, .slice qa2 qn2 qm2, .int .i64 pk, .int .i64 pc, .int .i64 po, .bool pu, .int .i64 pvk, .int .i64 pvn, .slice pa pn pm, .slice pa2 pn2 pm2, .int .i64 qk, .int .i64 qc, .int .i64 qo, .bool qu, .int .i64 qvk, .int .i64 qvn, .slice qa qn qm, .slice qa2 qn2 qm2] 31) cq3
    have cqa4 := Lib.cell?_alloc_some (W := V) (.cells #[.int .i64 qk, .int .i64 qc, .int .i64 qo, .bool qu, .int .i64 qvk, .int .i64 qvn, .slice qa qn qm, .slice qa2 qn2 qm2, .int .i64 pk, .int .i64 pc, .int .i64 po, .bool pu, .int .i64 pvk, .int .i64 pvn, .slice pa pn pm, .slice pa2 pn2 pm2, .int .i64 qk, .int .i64 qc, .int .i64 qo, .bool qu, .int .i64 qvk, .int .i64 qvn, .slice qa qn qm, .slice qa2 qn2 qm2] 31) cq4
    have cqa5 := Lib.cell?_alloc_some (W := V) (.cells #[.int .i64 qk, .int .i64 qc, .int .i64 qo, .bool qu, .int .i64 qvk, .int .i64 qvn, .slice qa qn qm, .slice qa2 qn2 qm2, .int .i64 pk, .int .i64 pc, .int .i64 po, .bool pu, .int .i64 pvk, .int .i64 pvn, .slice pa pn pm, .slice pa2 pn2 pm2, .int .i64 qk, .int .i64 qc, .int .i64 qo, .bool qu, .int .i64 qvk, .int .i64 qvn, .slice qa qn qm, .slice qa2 qn2 qm2] 31) cq5
    have cqa6 := Lib.cell?_alloc_some (W := V) (.cells #[.int .i64 qk, .int .i64 qc, .int .i64 qo, .bool qu, .int .i64 qvk, .int .i64 qvn, .slice qa qn qm, .slice qa2 qn2 qm2, .int .i64 pk, .int .i64 pc, .int .i64 po, .bool pu, .int .i64 pvk, .int .i64 pvn, .slice pa pn pm, .slice pa2 pn2 pm2, .int .i64 qk, .int .i64 qc, .int .i64 qo, .bool qu, .int .i64 qvk, .int .i64 qvn, .slice qa qn qm, .slice qa2 qn2 qm2] 31) cq6
    have cqa7 := Lib.cell?_alloc_some (W := V) (.cells #[.int .i64 qk, .int .i64 qc, .int .i64 qo, .bool qu, .int .i64 qvk, .int .i64 qvn, .slice qa qn qm, .slice qa2 qn2 qm2, .int .i64 pk, .int .i64 pc, .int .i64 po, .bool pu, .int .i64 pvk, .int .i64 pvn, .slice pa pn pm, .slice pa2 pn2 pm2, .int .i64 qk, .int .i64 qc, .int .i64 qo, .bool qu, .int .i64 qvk, .int .i64 qvn, .slice qa qn qm, .slice qa2 qn2 qm2] 31) cq7
    go_wp2_with fail
    clear cqa0 cqa1 cqa2 cqa3 cqa4 cqa5 cqa6 cqa7
    obtain ⟨W3, hW3⟩ : ∃ W3 : World, W3 = ((V.alloc (.cells #[.int .i64 qk, .int .i64 qc, .int .i64 qo, .bool qu, .int .i64 qvk, .int .i64 qvn, .slice qa qn qm, .slice qa2 qn2 qm2, .int .i64 pk, .int .i64 pc, .int .i64 po, .bool pu, .int .i64 pvk, .int .i64 pvn, .slice pa pn pm, .slice pa2 pn2 pm2, .int .i64 qk, .int .i64 qc, .int .i64 qo, .bool qu, .int .i64 qvk, .int .i64 qvn, .slice qa qn qm, .slice qa2 qn2 qm2] 31)).alloc (.cells #[.int .i64 qk, .int .i64 qc, .int .i64 qo, .bool qu, .int .i64 qvk, .int .i64 qvn, .slice qa qn qm, .slice qa2 qn2 qm2] 31)).alloc (.cells #[.int .i64 pk, .int .i64 pc, .int .i64 po, .bool pu, .int .i64 pvk, .int .i64 pvn, .slice pa pn pm, .slice pa2 pn2 pm2, .int .i64 qk, .int .i64 qc, .int .i64 qo, .bool qu, .int .i64 qvk, .int .i64 qvn, .slice qa qn qm, .slice qa2 qn2 qm2, .int .i64 4, .int .i64 0, .int .i64 0, .bool false, .int .i64 0, .int .i64 0, .slice none 0 0, .slice (some ⟨V.heap.size, 0, none⟩) 3 3, .int .i64 6, .int .i64 0, .int .i64 0, .bool false, .int .i64 0, .int .i64 0, .slice none 0 0, .slice (some ⟨V.heap.size + 1, 0, none⟩) 1 1] 31) := ⟨_, rfl⟩
    rw [← hW3] at HL HB3 ⊢
    obtain ⟨B3, hB3⟩ : ∃ B3, B3 = V.heap.size + 1 + 1 := ⟨_, rfl⟩
    rw [← hB3] at HL ⊢
    obtain ⟨css, hcss⟩ : ∃ css, css = [[.int .i64 pk, .int .i64 pc, .int .i64 po, .bool pu, .int .i64 pvk, .int .i64 pvn, .slice pa pn pm, .slice pa2 pn2 pm2], [.int .i64 qk, .int .i64 qc, .int .i64 qo, .bool qu, .int .i64 qvk, .int .i64 qvn, .slice qa qn qm, .slice qa2 qn2 qm2], listC 4 V.heap.size 3, listC 6 (V.heap.size + 1) 1] := ⟨_, rfl⟩
    rw [← hcss] at HL
    obtain ⟨ps, hps⟩ : ∃ ps, ps = [pp, pq, .mk 4 0 0 zeroV [pq, pp, pq], .mk 6 0 0 zeroV [pq]] := ⟨_, rfl⟩
    rw [← hps] at HL HNT
    have HPL := Lib.hid (show ps.length = 4 by rw [hps]; rfl)
    have HBW := Lib.hid (below_then HBV.out HB3.out)
    have HCW := Lib.hid (RdC.kept HCV.out HB3.out)
    have HSW := Lib.hid ((HB3.out.block SB (Array.getElem?_eq_some_iff.1 HSV.out).1).trans HSV.out)
    clear hW3 hB3 hcss hps cp0 cp1 cp2 cp3 cp4 cp5 cp6 cp7 cq0 cq1 cq2 cq3 cq4 cq5 cq6 cq7 HBV HCV HSV HB3
    go_loopw [40] (fun i wr => ∃ q : Nat, q ≤ 4 ∧ i = .int .i64 (q : Int) ∧ Below W3.heap.size W3 wr) (fun i _ => 4 - (intOf i).toNat)
    case atStart => exact ⟨0, Nat.zero_le _, rfl, Below.refl _ _⟩
    case round =>
      obtain ⟨q, hq, rfl, hb⟩ := hrel
      have HB := Lib.hid hb
      have HBR := Lib.hid (below_then HBW.out hb)
      have HCR := Lib.hid (RdC.kept HCW.out hb)
      have hsb := (hb.block SB (Array.getElem?_eq_some_iff.1 HSW.out).1).trans HSW.out
      by_cases hlt : q < 4
      · obtain ⟨x, hx⟩ : ∃ x, ps[q]? = some x := ⟨_, List.getElem?_eq_getElem (by rw [HPL.out]; exact hlt)⟩
        have HN := Lib.hid (HNT.out x (List.mem_of_getElem? hx))
        obtain ⟨ct, hct, hrt⟩ := rdTs_at HL.out.2 hx
        have hat := (HL.out.1.kept HB.out).at hct
        have HXR := Lib.hid (RdT1.kept HB.out _ hrt)
        obtain ⟨xk, xc, xo, xvk, xvn, xu, xa, xn, xm, xa2, xn2, xm2, hcs⟩ := rdT1_shape hrt
        subst hcs
        obtain ⟨b, off, hbo, hcell⟩ := hat
        simp only [Option.some.injEq, Addr.mk.injEq] at hbo
        obtain ⟨e1, e2, _⟩ := hbo
        rw [← e1, ← e2] at hcell
        clear hb hx hct hrt
        have k0 : wr.cell? ⟨B3, q * 8, none⟩ = some (.int .i64 xk) := by have h := hcell 0 _ rfl; simpa using h
        have k1 : wr.cell? ⟨B3, q * 8 + 1, none⟩ = some (.int .i64 xc) := by have h := hcell 1 _ rfl; simpa using h
        have k2 : wr.cell? ⟨B3, q * 8 + 2, none⟩ = some (.int .i64 xo) := by have h := hcell 2 _ rfl; simpa using h
        have k3 : wr.cell? ⟨B3, q * 8 + 3, none⟩ = some (.bool xu) := by have h := hcell 3 _ rfl; simpa using h
        have k4 : wr.cell? ⟨B3, q * 8 + 4, none⟩ = some (.int .i64 xvk) := by have h := hcell 4 _ rfl; simpa using h
        have k5 : wr.cell? ⟨B3, q * 8 + 5, none⟩ = some (.int .i64 xvn) := by have h := hcell 5 _ rfl; simpa using h
        have k6 : wr.cell? ⟨B3, q * 8 + 6, none⟩ = some (.slice xa xn xm) := by have h := hcell 6 _ rfl; simpa using h
        have k7 : wr.cell? ⟨B3, q * 8 + 7, none⟩ = some (.slice xa2 xn2 xm2) := by have h := hcell 7 _ rfl; simpa using h
        clear hcell e1 e2
        have hd1 : decide ((q : Int) < 4) = true := by rw [decide_eq_true_eq]; omega
        have hd1i : (q : Int) < 4 := by omega
        have hl0 : (0 : Int) ≤ (q : Int) := by omega
        go_upto_region 6 with (fail)
        obtain ⟨W5, hW5⟩ : ∃ W5 : World, W5 = wr.alloc (.cells #[.int .i64 xk, .int .i64 xc, .int .i64 xo, .bool xu, .int .i64 xvk, .int .i64 xvn, .slice xa xn xm, .slice xa2 xn2 xm2] 31) := ⟨_, rfl⟩
        rw [← hW5]
        have hby : Below wr.heap.size wr W5 := by rw [hW5]; exact below_alloc _ _
        have hxb : W5.heap[wr.heap.size]? = some (.cells #[.int .i64 xk, .int .i64 xc, .int .i64 xo, .bool xu, .int .i64 xvk, .int .i64 xvn, .slice xa xn xm, .slice xa2 xn2 xm2] 31 (0, 0)) := by rw [hW5]; exact heap_alloc_new wr _
        replace hsb := (hby.block SB (Array.getElem?_eq_some_iff.1 hsb).1).trans hsb
        obtain ⟨XB, hXB⟩ : ∃ XB, XB = wr.heap.size := ⟨_, rfl⟩
        rw [← hXB] at hxb ⊢
        have HB5 := Lib.hid (below_then HB.out hby)
        have HC5 := Lib.hid (RdC.kept HCR.out hby)
        have HX5 := Lib.hid (RdT1.kept hby _ HXR.out)
        clear hby hW5 hXB k0 k1 k2 k3 k4 k5 k6 k7
        have cs0 : W5.cell? ⟨SB, 0, none⟩ = some (.slice so sn sc) := by rw [cell_of_row W5 SB 0 _ _ _ hsb]; rfl
        have cx0 : W5.cell? ⟨XB, 0, none⟩ = some (.int .i64 xk) := by rw [cell_of_row W5 XB 0 _ _ _ hxb]; rfl
        have cx1 : W5.cell? ⟨XB, 1, none⟩ = some (.int .i64 xc) := by rw [cell_of_row W5 XB 1 _ _ _ hxb]; rfl
        have cx2 : W5.cell? ⟨XB, 2, none⟩ = some (.int .i64 xo) := by rw [cell_of_row W5 XB 2 _ _ _ hxb]; rfl
        have cx3 : W5.cell? ⟨XB, 3, none⟩ = some (.bool xu) := by rw [cell_of_row W5 XB 3 _ _ _ hxb]; rfl
        have cx4 : W5.cell? ⟨XB, 4, none⟩ = some (.int .i64 xvk) := by rw [cell_of_row W5 XB 4 _ _ _ hxb]; rfl
        have cx5 : W5.cell? ⟨XB, 5, none⟩ = some (.int .i64 xvn) := by rw [cell_of_row W5 XB 5 _ _ _ hxb]; rfl
        have cx6 : W5.cell? ⟨XB, 6, none⟩ = some (.slice xa xn xm) := by rw [cell_of_row W5 XB 6 _ _ _ hxb]; rfl
        have cx7 : W5.cell? ⟨XB, 7, none⟩ = some (.slice xa2 xn2 xm2) := by rw [cell_of_row W5 XB 7 _ _ _ hxb]; rfl
        have HQ := Lib.hid (okpred_some (colsN a0) x HN.out.right _ (.slice so sn sc) W5 HC5.out HX5.out)
        go_wp2_with fail
        refine HQ.out.mono ?_
        rintro e W6 ⟨bb, rfl, hby⟩
        replace hsb := (hby.block SB (Array.getElem?_eq_some_iff.1 hsb).1).trans hsb
        replace hxb := (hby.block XB (Array.getElem?_eq_some_iff.1 hxb).1).trans hxb
        have HB6 := Lib.hid (below_then HB5.out hby)
        have HX6 := Lib.hid (RdT1.kept hby _ HX5.out)
        clear hby cs0 cx0 cx1 cx2 cx3 cx4 cx5 cx6 cx7 hsb HQ
        cases bb
        · clear hxb
          go_wp2_with fail
          go_roundw
          case rel => exact ⟨q + 1, by omega, by go_num, HB6.out⟩
          case measure => simp [intOf]; omega
        · obtain ⟨sb, hsbq⟩ : ∃ sb, sb = (normT x).isSome := ⟨_, rfl⟩
          have HSQ := Lib.hid hsbq
          clear hsbq
          have HN1 := Lib.hid (norm_f HN.out _ W6 HX6.out)
          have cx0 : W6.cell? ⟨XB, 0, none⟩ = some (.int .i64 xk) := by rw [cell_of_row W6 XB 0 _ _ _ hxb]; rfl
          have cx1 : W6.cell? ⟨XB, 1, none⟩ = some (.int .i64 xc) := by rw [cell_of_row W6 XB 1 _ _ _ hxb]; rfl
          have cx2 : W6.cell? ⟨XB, 2, none⟩ = some (.int .i64 xo) := by rw [cell_of_row W6 XB 2 _ _ _ hxb]; rfl
          have cx3 : W6.cell? ⟨XB, 3, none⟩ = some (.bool xu) := by rw [cell_of_row W6 XB 3 _ _ _ hxb]; rfl
          have cx4 : W6.cell? ⟨XB, 4, none⟩ = some (.int .i64 xvk) := by rw [cell_of_row W6 XB 4 _ _ _ hxb]; rfl
          have cx5 : W6.cell? ⟨XB, 5, none⟩ = some (.int .i64 xvn) := by rw [cell_of_row W6 XB 5 _ _ _ hxb]; rfl
          have cx6 : W6.cell? ⟨XB, 6, none⟩ = some (.slice xa xn xm) := by rw [cell_of_row W6 XB 6 _ _ _ hxb]; rfl
          have cx7 : W6.cell? ⟨XB, 7, none⟩ = some (.slice xa2 xn2 xm2) := by rw [cell_of_row W6 XB 7 _ _ _ hxb]; rfl
          go_wp2_with fail
          refine HN1.out.mono ?_
          rintro e W7 ⟨⟨yk, yc, yo, yvk, yvn, yu, ya, yn, ym, ya2, yn2, ym2, he, hry⟩, hby⟩
          rw [← HSQ.out] at he
          subst he
          replace hxb := (hby.block XB (Array.getElem?_eq_some_iff.1 hxb).1).trans hxb
          have HB7 := Lib.hid (below_then HB6.out hby)
          have HX7 := Lib.hid (RdT1.kept hby _ HX6.out)
          have HY7 := Lib.hid hry
          clear hby hry cx0 cx1 cx2 cx3 cx4 cx5 cx6 cx7 HN1
          go_upto_region 8 with (fail)
          obtain ⟨W8, hW8⟩ : ∃ W8 : World, W8 = W7.alloc (.cells #[.int .i64 yk, .int .i64 yc, .int .i64 yo, .bool yu, .int .i64 yvk, .int .i64 yvn, .slice ya yn ym, .slice ya2 yn2 ym2] 31) := ⟨_, rfl⟩
          rw [← hW8]
          have hby : Below W7.heap.size W7 W8 := by rw [hW8]; exact below_alloc _ _
          have hyb : W8.heap[W7.heap.size]? = some (.cells #[.int .i64 yk, .int .i64 yc, .int .i64 yo, .bool yu, .int .i64 yvk, .int .i64 yvn, .slice ya yn ym, .slice ya2 yn2 ym2] 31 (0, 0)) := by rw [hW8]; exact heap_alloc_new W7 _
          replace hxb := (hby.block XB (Array.getElem?_eq_some_iff.1 hxb).1).trans hxb
          obtain ⟨YB, hYB⟩ : ∃ YB, YB = W7.heap.size := ⟨_, rfl⟩
          rw [← hYB] at hyb ⊢
          have HB8 := Lib.hid (below_then HB7.out hby)
          have HX8 := Lib.hid (RdT1.kept hby _ HX7.out)
          have HY8 := Lib.hid (RdT1.kept hby _ HY7.out)
          clear hby hW8 hYB
          have cx0 : W8.cell? ⟨XB, 0, none⟩ = some (.int .i64 xk) := by rw [cell_of_row W8 XB 0 _ _ _ hxb]; rfl
          have cx1 : W8.cell? ⟨XB, 1, none⟩ = some (.int .i64 xc) := by rw [cell_of_row W8 XB 1 _ _ _ hxb]; rfl
          have cx2 : W8.cell? ⟨XB, 2, none⟩ = some (.int .i64 xo) := by rw [cell_of_row W8 XB 2 _ _ _ hxb]; rfl
          have cx3 : W8.cell? ⟨XB, 3, none⟩ = some (.bool xu) := by rw [cell_of_row W8 XB 3 _ _ _ hxb]; rfl
          have cx4 : W8.cell? ⟨XB, 4, none⟩ = some (.int .i64 xvk) := by rw [cell_of_row W8 XB 4 _ _ _ hxb]; rfl
          have cx5 : W8.cell? ⟨XB, 5, none⟩ = some (.int .i64 xvn) := by rw [cell_of_row W8 XB 5 _ _ _ hxb]; rfl
          have cx6 : W8.cell? ⟨XB, 6, none⟩ = some (.slice xa xn xm) := by rw [cell_of_row W8 XB 6 _ _ _ hxb]; rfl
          have cx7 : W8.cell? ⟨XB, 7, none⟩ = some (.slice xa2 xn2 xm2) := by rw [cell_of_row W8 XB 7 _ _ _ hxb]; rfl
          have HN2 := Lib.hid (refNorm_f HN.out _ W8 HX8.out)
          go_wp2_with fail
          refine HN2.out.mono ?_
          rintro e W9 ⟨⟨zk, zc, zo, zvk, zvn, zu, za, zn, zm, za2, zn2, zm2, he, hrz⟩, hby⟩
          rw [← HSQ.out] at he
          subst he
          replace hxb := (hby.block XB (Array.getElem?_eq_some_iff.1 hxb).1).trans hxb
          replace hyb := (hby.block YB (Array.getElem?_eq_some_iff.1 hyb).1).trans hyb
          have HB9 := Lib.hid (below_then HB8.out hby)
          have HX9 := Lib.hid (RdT1.kept hby _ HX8.out)
          have HY9 := Lib.hid (RdT1.kept hby _ HY8.out)
          have HZ9 := Lib.hid hrz
          clear hby hrz cx0 cx1 cx2 cx3 cx4 cx5 cx6 cx7 HN2
          go_upto_region 9 with (fail)
          obtain ⟨WA, hWA⟩ : ∃ WA : World, WA = W9.alloc (.cells #[.int .i64 zk, .int .i64 zc, .int .i64 zo, .bool zu, .int .i64 zvk, .int .i64 zvn, .slice za zn zm, .slice za2 zn2 zm2] 31) := ⟨_, rfl⟩
          rw [← hWA]
          have hby : Below W9.heap.size W9 WA := by rw [hWA]; exact below_alloc _ _
          have hzb : WA.heap[W9.heap.size]? = some (.cells #[.int .i64 zk, .int .i64 zc, .int .i64 zo, .bool zu, .int .i64 zvk, .int .i64 zvn, .slice za zn zm, .slice za2 zn2 zm2] 31 (0, 0)) := by rw [hWA]; exact heap_alloc_new W9 _
          replace hxb := (hby.block XB (Array.getElem?_eq_some_iff.1 hxb).1).trans hxb
          replace hyb := (hby.block YB (Array.getElem?_eq_some_iff.1 hyb).1).trans hyb
          obtain ⟨ZB, hZB⟩ : ∃ ZB, ZB = W9.heap.size := ⟨_, rfl⟩
          rw [← hZB] at hzb ⊢
          have HBA := Lib.hid (below_then HB9.out hby)
          have HXA := Lib.hid (RdT1.kept hby _ HX9.out)
          have HYA := Lib.hid (RdT1.kept hby _ HY9.out)
          have HZA := Lib.hid (RdT1.kept hby _ HZ9.out)
          clear hby hWA hZB
          obtain ⟨kv, hkv⟩ : ∃ kv, kv = keyNV x := ⟨_, rfl⟩
          obtain ⟨kb, hkb⟩ : ∃ kb, kb = keyNB x := ⟨_, rfl⟩
          have HK1 := Lib.hid (key_any x (by have := HN.out.dep; omega) (by have := HN.out.cnt; omega) (by have := HN.out.nod; omega) _ WA HXA.out)
          have HK2 := Lib.hid fun w' (h : RdT1 w' x [.int .i64 xk, .int .i64 xc, .int .i64 xo, .bool xu, .int .i64 xvk, .int .i64 xvn, .slice xa xn xm, .slice xa2 xn2 xm2]) => refKey_any x HN.out.good _ w' h
          rw [← hkv, ← hkb] at HK1 HK2
          clear hkv hkb
          have cx0 : WA.cell? ⟨XB, 0, none⟩ = some (.int .i64 xk) := by rw [cell_of_row WA XB 0 _ _ _ hxb]; rfl
          have cx1 : WA.cell? ⟨XB, 1, none⟩ = some (.int .i64 xc) := by rw [cell_of_row WA XB 1 _ _ _ hxb]; rfl
          have cx2 : WA.cell? ⟨XB, 2, none⟩ = some (.int .i64 xo) := by rw [cell_of_row WA XB 2 _ _ _ hxb]; rfl
          have cx3 : WA.cell? ⟨XB, 3, none⟩ = some (.bool xu) := by rw [cell_of_row WA XB 3 _ _ _ hxb]; rfl
          have cx4 : WA.cell? ⟨XB, 4, none⟩ = some (.int .i64 xvk) := by rw [cell_of_row WA XB 4 _ _ _ hxb]; rfl
          have cx5 : WA.cell? ⟨XB, 5, none⟩ = some (.int .i64 xvn) := by rw [cell_of_row WA XB 5 _ _ _ hxb]; rfl
          have cx6 : WA.cell? ⟨XB, 6, none⟩ = some (.slice xa xn xm) := by rw [cell_of_row WA XB 6 _ _ _ hxb]; rfl
          have cx7 : WA.cell? ⟨XB, 7, none⟩ = some (.slice xa2 xn2 xm2) := by rw [cell_of_row WA XB 7 _ _ _ hxb]; rfl
          go_wp2_with fail
          refine HK1.out.mono ?_
          rintro e WB ⟨rfl, hby⟩
          replace hxb := (hby.block XB (Array.getElem?_eq_some_iff.1 hxb).1).trans hxb
          replace hyb := (hby.block YB (Array.getElem?_eq_some_iff.1 hyb).1).trans hyb
          replace hzb := (hby.block ZB (Array.getElem?_eq_some_iff.1 hzb).1).trans hzb
          have HBB := Lib.hid (below_then HBA.out hby)
          have HXB := Lib.hid (RdT1.kept hby _ HXA.out)
          have HYB := Lib.hid (RdT1.kept hby _ HYA.out)
          have HZB := Lib.hid (RdT1.kept hby _ HZA.out)
          clear hby cx0 cx1 cx2 cx3 cx4 cx5 cx6 cx7 HK1
          have cx0 : WB.cell? ⟨XB, 0, none⟩ = some (.int .i64 xk) := by rw [cell_of_row WB XB 0 _ _ _ hxb]; rfl
          have cx1 : WB.cell? ⟨XB, 1, none⟩ = some (.int .i64 xc) := by rw [cell_of_row WB XB 1 _ _ _ hxb]; rfl
          have cx2 : WB.cell? ⟨XB, 2, none⟩ = some (.int .i64 xo) := by rw [cell_of_row WB XB 2 _ _ _ hxb]; rfl
          have cx3 : WB.cell? ⟨XB, 3, none⟩ = some (.bool xu) := by rw [cell_of_row WB XB 3 _ _ _ hxb]; rfl
          have cx4 : WB.cell? ⟨XB, 4, none⟩ = some (.int .i64 xvk) := by rw [cell_of_row WB XB 4 _ _ _ hxb]; rfl
          have cx5 : WB.cell? ⟨XB, 5, none⟩ = some (.int .i64 xvn) := by rw [cell_of_row WB XB 5 _ _ _ hxb]; rfl
          have cx6 : WB.cell? ⟨XB, 6, none⟩ = some (.slice xa xn xm) := by rw [cell_of_row WB XB 6 _ _ _ hxb]; rfl
          have cx7 : WB.cell? ⟨XB, 7, none⟩ = some (.slice xa2 xn2 xm2) := by rw [cell_of_row WB XB 7 _ _ _ hxb]; rfl
          go_wp2_with fail
          refine (HK2.out WB HXB.out).mono ?_
          rintro e WC ⟨rfl, hby⟩
          replace hyb := (hby.block YB (Array.getElem?_eq_some_iff.1 hyb).1).trans hyb
          replace hzb := (hby.block ZB (Array.getElem?_eq_some_iff.1 hzb).1).trans hzb
          have HBC := Lib.hid (below_then HBB.out hby)
          have HYC := Lib.hid (RdT1.kept hby _ HYB.out)
          have HZC := Lib.hid (RdT1.kept hby _ HZB.out)
          clear hby cx0 cx1 cx2 cx3 cx4 cx5 cx6 cx7 HK2 hxb
          have cy0 : WC.cell? ⟨YB, 0, none⟩ = some (.int .i64 yk) := by rw [cell_of_row WC YB 0 _ _ _ hyb]; rfl
          have cy1 : WC.cell? ⟨YB, 1, none⟩ = some (.int .i64 yc) := by rw [cell_of_row WC YB 1 _ _ _ hyb]; rfl
          have cy2 : WC.cell? ⟨YB, 2, none⟩ = some (.int .i64 yo) := by rw [cell_of_row WC YB 2 _ _ _ hyb]; rfl
          have cy3 : WC.cell? ⟨YB, 3, none⟩ = some (.bool yu) := by rw [cell_of_row WC YB 3 _ _ _ hyb]; rfl
          have cy4 : WC.cell? ⟨YB, 4, none⟩ = some (.int .i64 yvk) := by rw [cell_of_row WC YB 4 _ _ _ hyb]; rfl
          have cy5 : WC.cell? ⟨YB, 5, none⟩ = some (.int .i64 yvn) := by rw [cell_of_row WC YB 5 _ _ _ hyb]; rfl
          have cy6 : WC.cell? ⟨YB, 6, none⟩ = some (.slice ya yn ym) := by rw [cell_of_row WC YB 6 _ _ _ hyb]; rfl
          have cy7 : WC.cell? ⟨YB, 7, none⟩ = some (.slice ya2 yn2 ym2) := by rw [cell_of_row WC YB 7 _ _ _ hyb]; rfl
          have cz0 : WC.cell? ⟨ZB, 0, none⟩ = some (.int .i64 zk) := by rw [cell_of_row WC ZB 0 _ _ _ hzb]; rfl
          have cz1 : WC.cell? ⟨ZB, 1, none⟩ = some (.int .i64 zc) := by rw [cell_of_row WC ZB 1 _ _ _ hzb]; rfl
          have cz2 : WC.cell? ⟨ZB, 2, none⟩ = some (.int .i64 zo) := by rw [cell_of_row WC ZB 2 _ _ _ hzb]; rfl
          have cz3 : WC.cell? ⟨ZB, 3, none⟩ = some (.bool zu) := by rw [cell_of_row WC ZB 3 _ _ _ hzb]; rfl
          have cz4 : WC.cell? ⟨ZB, 4, none⟩ = some (.int .i64 zvk) := by rw [cell_of_row WC ZB 4 _ _ _ hzb]; rfl
          have cz5 : WC.cell? ⟨ZB, 5, none⟩ = some (.int .i64 zvn) := by rw [cell_of_row WC ZB 5 _ _ _ hzb]; rfl
          have cz6 : WC.cell? ⟨ZB, 6, none⟩ = some (.slice za zn zm) := by rw [cell_of_row WC ZB 6 _ _ _ hzb]; rfl
          have cz7 : WC.cell? ⟨ZB, 7, none⟩ = some (.slice za2 zn2 zm2) := by rw [cell_of_row WC ZB 7 _ _ _ hzb]; rfl
          have HSP := Lib.hid (same_ok _ (fxT x) (Nat.le_refl _) (by have := fxT_small HN.out; omega) (fxT x) _ _ WC HYC.out HZC.out)
          rw [eqP_refl] at HSP
          have q1 : (sb != sb) = false := by simp
          have q2 : (kb != kb) = false := by simp
          have q3 : (kv != kv) = false := by simp
          clear hyb hzb
          go_wp2_with fail
          refine HSP.out.mono ?_
          rintro e WD ⟨rfl, hby⟩
          have HBD := Lib.hid (below_then HBC.out hby)
          clear hby
          go_wp2_with fail
          go_roundw
          case rel => exact ⟨q + 1, by omega, by go_num, HBD.out⟩
          case measure => simp [intOf]; omega
      · have hq4 : q = 4 := by omega
        have hd1 : decide ((q : Int) < 4) = false := by rw [decide_eq_false_iff_not]; omega
        have hd1i : ¬ (q : Int) < 4 := by omega
        clear hb hsb hq4
        go_wp2_with fail
        refine (awake8_any _).mono ?_
        rintro e w5 ⟨rfl, hb5⟩
        have HF := Lib.hid (below_then HBR.out hb5)
        clear hb5
        go_wp2_with fail
        go_ret
        exact ⟨rfl, HF.out⟩

end Go.Proofs.Ytfmkalnnpddefaa
