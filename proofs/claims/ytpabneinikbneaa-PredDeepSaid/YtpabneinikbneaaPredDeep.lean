/-
  The walk of PredDeep.
-/
import Derived.Test.YtpabneinikbneaaMake7
import Derived.Test.YtpabneinikbneaaNormKeys
import Derived.Test.YtpabneinikbneaaAwake7
namespace Go.Proofs.Ytpabneinikbneaa
set_option linter.unusedVariables false
set_option linter.unusedSimpArgs false
open Go.RowKit


theorem all_two {α : Type} {P : α → Prop} {a b : α} (h : P a) (k : P b) : ∀ t ∈ [a, b], P t := fun t ht => by
  simp only [List.mem_cons, List.not_mem_nil, or_false] at ht
  rcases ht with rfl | rfl
  · exact h
  · exact k
theorem agree_none {a b : World} (h : Below a.heap.size a b) : Agree (fun _ => False) a b := ⟨h.os, h.tape, h.output, h.size, fun i hi _ => h.block i hi⟩
/-- A predicate built up q times. -/
structure DG (cols : List Co) (q : Nat) (p : Pt) : Prop where
  all : allB cols p = true
  dep : depT p = q + 1
  bel : belT p ≤ 2 * q
  cnt : cntT p ≤ 2 * q
  nod : nodesT p ≤ 2 * q + 1
theorem dg_start (cols : List Co) : DG cols 0 trT := by
  refine ⟨?_, ?_, ?_, ?_, ?_⟩ <;> unfold trT
  · simp [allB, allBl, shapeB, isZ, zeroV]
  · simp [depT, depL]
  · simp [belT, belL]
  · simp [cntT, cntL, zeroV]
  · simp [nodesT, nodesL]
theorem dg_one {cols : List Co} {q : Nat} {p : Pt} (h : DG cols q p) (k : Int) (hk : k = 4 ∨ k = 6) : DG cols (q + 1) (.mk k 0 0 zeroV [p]) := by
  obtain ⟨h1, h2, h3, h4, h5⟩ := h
  refine ⟨?_, ?_, ?_, ?_, ?_⟩
  · rcases hk with rfl | rfl <;> simp [allB, allBl, shapeB, isZ, zeroV, h1]
  · simp [depT, depL, h2]
  · simp [belT, belL]; omega
  · simp [cntT, cntL, zeroV]; omega
  · simp [nodesT, nodesL]; omega
theorem dg_two {cols : List Co} {q : Nat} {p : Pt} (h : DG cols q p) : DG cols (q + 1) (.mk 5 0 0 zeroV [p, trT]) := by
  obtain ⟨h1, h2, h3, h4, h5⟩ := h
  refine ⟨?_, ?_, ?_, ?_, ?_⟩ <;> unfold trT
  · simp [allB, allBl, shapeB, isZ, zeroV, h1]
  · simp [depT, depL, h2]
  · simp [belT, belL]; omega
  · simp [cntT, cntL, zeroV]; omega
  · simp [nodesT, nodesL]; omega
theorem dg_ok {cols : List Co} {q : Nat} {p : Pt} (h : DG cols q p) (hq : q ≤ 7) : predOkB cols p = decide ((q : Int) ≤ 4) := by
  obtain ⟨h1, h2, h3, h4, h5⟩ := h
  unfold predOkB
  rw [h1, decide_eq_true (show belT p ≤ 63 by omega), Bool.true_and, Bool.and_true, decide_eq_decide]
  omega
def nS : Nat → Nat
  | 0 => 1
  | q + 1 => nS q + 1 + q % 8
theorem nS_le : ∀ q : Nat, nS q ≤ 1 + 8 * q
  | 0 => by simp [nS]
  | q + 1 => by have := nS_le q; rw [nS]; omega
def allK (i : Nat) : Pt := .mk 4 0 0 zeroV (List.replicate (i % 8) trT)
theorem repl_all (cols : List Co) : ∀ n : Nat, allBl cols (List.replicate n trT) = true ∧ belL (List.replicate n trT) = 0 ∧ depL (List.replicate n trT) ≤ 1 ∧ cntL (List.replicate n trT) = 0 ∧ nodesL (List.replicate n trT) = n
  | 0 => by simp [allBl, belL, depL, cntL, nodesL]
  | n + 1 => by
    obtain ⟨h1, h2, h3, h4, h5⟩ := repl_all cols n
    rw [List.replicate_succ]
    unfold allBl belL depL cntL nodesL
    rw [h1, h2, h4, h5]
    refine ⟨?_, ?_, ?_, ?_, ?_⟩
    · rw [(dg_start cols).all]; rfl
    · have := (dg_start cols).bel; omega
    · have := (dg_start cols).dep; omega
    · rw [small_tr.2.1]
    · rw [small_tr.2.2]; omega
theorem allK_all (cols : List Co) (i : Nat) : allB cols (allK i) = true ∧ belT (allK i) = i % 8 ∧ depT (allK i) ≤ 2 ∧ cntT (allK i) ≤ 7 ∧ nodesT (allK i) ≤ 8 := by
  obtain ⟨h1, h2, h3, h4, h5⟩ := repl_all cols (i % 8)
  unfold allK
  refine ⟨?_, ?_, ?_, ?_, ?_⟩
  · unfold allB
    rw [h1, List.length_replicate]
    have : i % 8 ≤ 8 := by omega
    simp [shapeB, isZ, zeroV, this]
  · unfold belT
    rw [h2, List.length_replicate]; rfl
  · unfold depT; omega
  · unfold cntT
    rw [h4, List.length_replicate]
    show i % 8 + 0 + 0 ≤ 7
    omega
  · unfold nodesT
    rw [h5]; omega
theorem listK_all (cols : List Co) : ∀ q : Nat, allBl cols ((List.range q).map allK) = true ∧ belL ((List.range q).map allK) + q + 1 = nS q ∧ depL ((List.range q).map allK) ≤ 2 ∧ nodesL ((List.range q).map allK) ≤ 8 * q
  | 0 => by simp [allBl, belL, depL, nodesL, nS]
  | q + 1 => by
    obtain ⟨h1, h2, h3, h4⟩ := listK_all cols q
    obtain ⟨k1, k2, k3, k4, k5⟩ := allK_all cols q
    rw [range_snoc]
    have e : ∀ (a : List Pt), allBl cols (a ++ [allK q]) = (allBl cols a && allB cols (allK q)) ∧ belL (a ++ [allK q]) = belL a + belT (allK q) ∧ depL (a ++ [allK q]) = max (depL a) (depT (allK q)) ∧ nodesL (a ++ [allK q]) = nodesL a + nodesT (allK q) := fun a => by
      induction a with
      | nil => simp [allBl, belL, depL, nodesL]
      | cons x r ih =>
        obtain ⟨i1, i2, i3, i4⟩ := ih
        rw [List.cons_append]
        unfold allBl belL depL nodesL
        rw [i1, i2, i3, i4]
        exact ⟨(Bool.and_assoc _ _ _).symm, by omega, by omega, by omega⟩
    obtain ⟨e1, e2, e3, e4⟩ := e ((List.range q).map allK)
    rw [e1, e2, e3, e4, h1, k1]
    refine ⟨rfl, ?_, by omega, by omega⟩
    rw [nS]; omega
theorem treeK_ok (cols : List Co) (q : Nat) : predOkB cols (.mk 5 0 0 zeroV ((List.range q).map allK)) = (decide ((q : Int) ≤ 8) && decide ((nS q : Int) ≤ 64)) := by
  obtain ⟨h1, h2, h3, h4⟩ := listK_all cols q
  unfold predOkB allB depT belT
  rw [h1, List.length_map, List.length_range, decide_eq_true (show depL ((List.range q).map allK) + 1 ≤ 5 by omega), Bool.and_true, Bool.and_true]
  have e : shapeB cols 5 0 0 zeroV q = decide ((q : Int) ≤ 8) := by
    simp [shapeB, isZ, zeroV]
    omega
  rw [e]
  congr 1
  rw [decide_eq_decide]
  omega
theorem allK_pok (i : Nat) : PredOK (allK i) := fpred_any _ (by have := (allK_all [] i).2.2.1; omega) (by have := (allK_all [] i).2.2.2.1; omega)
theorem dg_pok {cols : List Co} {q : Nat} {p : Pt} (h : DG cols q p) (hq : q ≤ 7) : PredOK p := fpred_any p (by have := h.dep; omega) (by have := h.cnt; omega)
theorem tr_pok : PredOK trT := fpred_any trT (by rw [small_tr.1]; omega) (by rw [small_tr.2.1]; omega)

set_option maxRecDepth 100000 in
set_option maxHeartbeats 32000000 in
theorem walk_PredDeep (a0 a1 a2 : Int) (w : World) (w0 : (Lit.int .i64 a0).wf = true) (w1 : (Lit.int .i64 a1).wf = true) (w2 : (Lit.int .i64 a2).wf = true) :
    Calls Try.prog 3 #[.int .i64 a0, .int .i64 a1, .int .i64 a2] w fun e w' => e = .returned (.bool true) ∧ Below w.heap.size w w' := by
  obtain ⟨dn, hdn, hd7⟩ := and_some a0 7 7 rfl (by decide)
  obtain ⟨mn, hmn, hm15⟩ := and_some a1 15 15 rfl (by decide)
  have HS := Lib.hid (schema_rd 3 w)
  obtain ⟨cols, hcols⟩ : ∃ cols, cols = colsN 3 := ⟨_, rfl⟩
  rw [← hcols] at HS
  clear w0 w1 w2 hcols
  go_enter Try.func3, Try.ntmps3
  go_wp2_with fail
  refine HS.out.mono ?_
  rintro e W1 ⟨so, sc, rfl, hs1, hb1⟩
  have hc1 := rdC_of hs1
  obtain ⟨sn, hsn⟩ : ∃ sn, sn = cols.length := ⟨_, rfl⟩
  rw [← hsn] at hs1 hc1 ⊢
  have HC1 := Lib.hid hc1
  have HB1 := Lib.hid hb1
  clear hs1 hc1 hb1 hsn HS
  go_upto_region 4 with (fail)
  have HB0 := Lib.hid (below2 W1 (.cells #[.slice so sn sc] 24) (.cells #[.int .i64 1, .int .i64 0, .int .i64 0, .bool false, .int .i64 0, .int .i64 0, .slice none 0 0, .slice none 0 0] 31))
  have HX0 := Lib.hid ((heap_alloc_old (W1.alloc (.cells #[.slice so sn sc] 24)) (.cells #[.int .i64 1, .int .i64 0, .int .i64 0, .bool false, .int .i64 0, .int .i64 0, .slice none 0 0, .slice none 0 0] 31) (r := W1.heap.size) (by simp)).trans (heap_alloc_new W1 _))
  have HY0 := Lib.hid (heap2 W1 (.cells #[.slice so sn sc] 24) (.cells #[.int .i64 1, .int .i64 0, .int .i64 0, .bool false, .int .i64 0, .int .i64 0, .slice none 0 0, .slice none 0 0] 31))
  obtain ⟨W2, hW⟩ : ∃ W2 : World, W2 = (W1.alloc (.cells #[.slice so sn sc] 24)).alloc (.cells #[.int .i64 1, .int .i64 0, .int .i64 0, .bool false, .int .i64 0, .int .i64 0, .slice none 0 0, .slice none 0 0] 31) := ⟨_, rfl⟩
  rw [← hW] at HB0 HX0 HY0 ⊢
  obtain ⟨SB, hA⟩ : ∃ SB, SB = W1.heap.size := ⟨_, rfl⟩
  rw [← hA] at HX0 HY0 ⊢
  obtain ⟨PB, hB⟩ : ∃ PB, PB = SB + 1 := ⟨_, rfl⟩
  rw [← hB] at HY0 ⊢
  have HAB := Lib.hid (show PB ≠ SB by omega)
  have HSZ := Lib.hid (show W2.heap.size = PB + 1 by rw [hW, hB, hA]; simp)
  have HSA := Lib.hid (show W1.heap.size ≤ SB ∧ SB < PB by omega)
  clear hW hA hB
  have HC2 := Lib.hid (RdC.kept HC1.out HB0.out)
  go_wp2_with fail
  go_loopw [9] (fun i wr => ∃ (q : Nat) (p : Pt) (cs : List Value), q ≤ dn ∧ i = .int .i64 (q : Int) ∧ DG cols q p ∧ wr.heap[PB]? = some (.cells cs.toArray 31 (0, 0)) ∧ RdA1 (PB + 1) wr p cs ∧ Agree (fun b => b = PB) W2 wr) (fun i _ => dn - (intOf i).toNat)
  case atStart => exact ⟨0, trT, _, Nat.zero_le _, rfl, dg_start cols, HY0.out, (by unfold trT RdA1; exact ⟨_, _, [], rfl, ⟨rdB_none _ _, fun x h => by simp [zeroV] at h⟩, rdSK_none _ _ _, by unfold RdAs; trivial⟩), Agree.refl _ _⟩
  case round =>
    obtain ⟨q, p, cs, hq, rfl, hdg, hy, hra, hag⟩ := hrel
    obtain ⟨wo, rfl⟩ : ∃ wo : World, wo = wr := ⟨_, rfl⟩
    have HRA := Lib.hid hra
    obtain ⟨pk, pc, po, pvk, pvn, pu, pa, pn, pm, pa2, pn2, pm2, rfl⟩ := rdA1_shape hra
    have HDG := Lib.hid hdg
    have HY := Lib.hid hy
    have HAG := Lib.hid hag
    have hsx := (hag.block SB (Array.getElem?_eq_some_iff.1 HX0.out).1 (fun e => HAB.out e.symm)).trans HX0.out
    have HSX := Lib.hid hsx
    have HPO := Lib.hid (show PredOK p from dg_pok hdg (by omega))
    have HSI := Lib.hid (show PB + 1 ≤ wo.heap.size by have := hag.size; rw [HSZ.out] at this; exact this)
    clear hag hdg hra hsx
    have hy' : wo.heap[PB]? = some (.cells #[.int .i64 pk, .int .i64 pc, .int .i64 po, .bool pu, .int .i64 pvk, .int .i64 pvn, .slice pa pn pm, .slice pa2 pn2 pm2] 31 (0, 0)) := hy
    have p0 : wo.cell? ⟨PB, 0, none⟩ = some (.int .i64 pk) := by rw [cell_of_row wo PB 0 _ _ _ hy']; rfl
    have p1 : wo.cell? ⟨PB, 1, none⟩ = some (.int .i64 pc) := by rw [cell_of_row wo PB 1 _ _ _ hy']; rfl
    have p2 : wo.cell? ⟨PB, 2, none⟩ = some (.int .i64 po) := by rw [cell_of_row wo PB 2 _ _ _ hy']; rfl
    have p3 : wo.cell? ⟨PB, 3, none⟩ = some (.bool pu) := by rw [cell_of_row wo PB 3 _ _ _ hy']; rfl
    have p4 : wo.cell? ⟨PB, 4, none⟩ = some (.int .i64 pvk) := by rw [cell_of_row wo PB 4 _ _ _ hy']; rfl
    have p5 : wo.cell? ⟨PB, 5, none⟩ = some (.int .i64 pvn) := by rw [cell_of_row wo PB 5 _ _ _ hy']; rfl
    have p6 : wo.cell? ⟨PB, 6, none⟩ = some (.slice pa pn pm) := by rw [cell_of_row wo PB 6 _ _ _ hy']; rfl
    have p7 : wo.cell? ⟨PB, 7, none⟩ = some (.slice pa2 pn2 pm2) := by rw [cell_of_row wo PB 7 _ _ _ hy']; rfl
    clear hy hy'
    by_cases hlt : q < dn
    · have hqi : (q : Int) < (dn : Int) := by omega
      go_upto_region 7 with (fail)
      go_cut [30] (fun s wx => (∃ c : Nat, c ≤ 3 ∧ s = .int .i64 (c : Int)) ∧ wo = wx)
      case first =>
        go_wp2_with fail
        go_meet
        refine ⟨?_, rfl⟩
        obtain ⟨c, h1, h2⟩ := and_some (a2 / 2 ^ (2 * q)) 3 3 rfl (by decide)
        exact ⟨c, h2, by rw [h1]⟩
      case rest =>
        obtain ⟨⟨c, hc3, rfl⟩, rfl⟩ := hcut
        rcases (by omega : c = 0 ∨ c = 1 ∨ c = 2 ∨ c = 3) with rfl | rfl | rfl | rfl
        · have HC := Lib.hid (pnot_any p HPO.out _ wo (RdA1.rd p HRA.out))
          go_wp2_with fail
          refine HC.out.mono ?_
          rintro e W3 ⟨cs', rfl, ha, hb3⟩
          have HA := Lib.hid ha
          obtain ⟨rk, rc, ro, rvk, rvn, ru, ra, rn, rm, ra2, rn2, rm2, rfl⟩ := rdA1_shape ha
          have HB3 := Lib.hid hb3
          have hy3 := (hb3.block PB (Array.getElem?_eq_some_iff.1 HY.out).1).trans HY.out
          have HY3 := Lib.hid hy3
          clear ha hb3 p0 p1 p2 p3 p4 p5 p6 p7
          have hy3' : W3.heap[PB]? = some (.cells #[.int .i64 pk, .int .i64 pc, .int .i64 po, .bool pu, .int .i64 pvk, .int .i64 pvn, .slice pa pn pm, .slice pa2 pn2 pm2] 31 (0, 0)) := HY3.out
          have p0 : W3.cell? ⟨PB, 0, none⟩ = some (.int .i64 pk) := by rw [cell_of_row W3 PB 0 _ _ _ hy3']; rfl
          have pf0 : W3.frozen? ⟨PB, 0, none⟩ = false := frozen_of_row W3 PB 0 _ _ hy3'
          have p1 : W3.cell? ⟨PB, 1, none⟩ = some (.int .i64 pc) := by rw [cell_of_row W3 PB 1 _ _ _ hy3']; rfl
          have pf1 : W3.frozen? ⟨PB, 1, none⟩ = false := frozen_of_row W3 PB 1 _ _ hy3'
          have p2 : W3.cell? ⟨PB, 2, none⟩ = some (.int .i64 po) := by rw [cell_of_row W3 PB 2 _ _ _ hy3']; rfl
          have pf2 : W3.frozen? ⟨PB, 2, none⟩ = false := frozen_of_row W3 PB 2 _ _ hy3'
          have p3 : W3.cell? ⟨PB, 3, none⟩ = some (.bool pu) := by rw [cell_of_row W3 PB 3 _ _ _ hy3']; rfl
          have pf3 : W3.frozen? ⟨PB, 3, none⟩ = false := frozen_of_row W3 PB 3 _ _ hy3'
          have p4 : W3.cell? ⟨PB, 4, none⟩ = some (.int .i64 pvk) := by rw [cell_of_row W3 PB 4 _ _ _ hy3']; rfl
          have pf4 : W3.frozen? ⟨PB, 4, none⟩ = false := frozen_of_row W3 PB 4 _ _ hy3'
          have p5 : W3.cell? ⟨PB, 5, none⟩ = some (.int .i64 pvn) := by rw [cell_of_row W3 PB 5 _ _ _ hy3']; rfl
          have pf5 : W3.frozen? ⟨PB, 5, none⟩ = false := frozen_of_row W3 PB 5 _ _ hy3'
          have p6 : W3.cell? ⟨PB, 6, none⟩ = some (.slice pa pn pm) := by rw [cell_of_row W3 PB 6 _ _ _ hy3']; rfl
          have pf6 : W3.frozen? ⟨PB, 6, none⟩ = false := frozen_of_row W3 PB 6 _ _ hy3'
          have p7 : W3.cell? ⟨PB, 7, none⟩ = some (.slice pa2 pn2 pm2) := by rw [cell_of_row W3 PB 7 _ _ _ hy3']; rfl
          have pf7 : W3.frozen? ⟨PB, 7, none⟩ = false := frozen_of_row W3 PB 7 _ _ hy3'
          clear hy3'
          go_wp2_with fail
          go_roundw
          case rel =>
            have hst : ∀ i u (wx : World), Agree (fun b => b = PB) W3 wx → Agree (fun b => b = PB) W3 (wx.setCell ⟨PB, i, none⟩ u) := fun i u wx h => h.set ⟨PB, i, none⟩ u (.inl rfl)
            have hag8 := hst 7 (.slice ra2 rn2 rm2) _ (hst 6 (.slice ra rn rm) _ (hst 5 (.int .i64 rvn) _ (hst 4 (.int .i64 rvk) _ (hst 3 (.bool ru) _ (hst 2 (.int .i64 ro) _ (hst 1 (.int .i64 rc) _ (hst 0 (.int .i64 rk) _ (Agree.refl _ W3))))))))
            refine ⟨q + 1, _, _, by omega, by go_num, dg_one HDG.out 6 (.inr rfl), eight_heap HY3.out, RdA1.above (agree_above hag8 (fun i h => by have := HSI.out; omega)) (by have := HSI.out; omega) _ HA.out, ?_⟩
            exact (HAG.out.then (agree_none HB3.out) (fun i _ h => h.elim)).trans hag8
          case measure => simp [intOf]; omega
        · have HRD1 := Lib.hid (RdA1.rd p HRA.out)
          have HS1 := Lib.hid (rdS_lit wo #[.int .i64 pk, .int .i64 pc, .int .i64 po, .bool pu, .int .i64 pvk, .int .i64 pvn, .slice pa pn pm, .slice pa2 pn2 pm2] 31 8 rfl)
          have HSW := Lib.hid (show (wo.alloc (.cells #[.int .i64 pk, .int .i64 pc, .int .i64 po, .bool pu, .int .i64 pvk, .int .i64 pvn, .slice pa pn pm, .slice pa2 pn2 pm2] 31)).heap.size = wo.heap.size + 1 by simp)
          have HC := Lib.hid (pall_any [p] (by simp) (fun i t ht => by have := List.mem_of_getElem? ht; rw [List.mem_singleton.1 this]; exact HPO.out) _ _ (wo.alloc (.cells #[.int .i64 pk, .int .i64 pc, .int .i64 po, .bool pu, .int .i64 pvk, .int .i64 pvn, .slice pa pn pm, .slice pa2 pn2 pm2] 31)) HS1.out (rdTs_one (RdT1.kept (below_alloc wo _) p HRD1.out)))
          go_wp2_with fail
          refine HC.out.mono ?_
          rintro e W3 ⟨cs', rfl, ha, hb3⟩
          have HA := Lib.hid ha
          obtain ⟨rk, rc, ro, rvk, rvn, ru, ra, rn, rm, ra2, rn2, rm2, rfl⟩ := rdA1_shape ha
          have hb3 := below_then (below_alloc wo _) hb3
          have hy3 := (hb3.block PB (Array.getElem?_eq_some_iff.1 HY.out).1).trans HY.out
          have HY3 := Lib.hid hy3
          have HB3 := Lib.hid hb3
          clear ha hb3 p0 p1 p2 p3 p4 p5 p6 p7
          have hy3' : W3.heap[PB]? = some (.cells #[.int .i64 pk, .int .i64 pc, .int .i64 po, .bool pu, .int .i64 pvk, .int .i64 pvn, .slice pa pn pm, .slice pa2 pn2 pm2] 31 (0, 0)) := HY3.out
          have p0 : W3.cell? ⟨PB, 0, none⟩ = some (.int .i64 pk) := by rw [cell_of_row W3 PB 0 _ _ _ hy3']; rfl
          have pf0 : W3.frozen? ⟨PB, 0, none⟩ = false := frozen_of_row W3 PB 0 _ _ hy3'
          have p1 : W3.cell? ⟨PB, 1, none⟩ = some (.int .i64 pc) := by rw [cell_of_row W3 PB 1 _ _ _ hy3']; rfl
          have pf1 : W3.frozen? ⟨PB, 1, none⟩ = false := frozen_of_row W3 PB 1 _ _ hy3'
          have p2 : W3.cell? ⟨PB, 2, none⟩ = some (.int .i64 po) := by rw [cell_of_row W3 PB 2 _ _ _ hy3']; rfl
          have pf2 : W3.frozen? ⟨PB, 2, none⟩ = false := frozen_of_row W3 PB 2 _ _ hy3'
          have p3 : W3.cell? ⟨PB, 3, none⟩ = some (.bool pu) := by rw [cell_of_row W3 PB 3 _ _ _ hy3']; rfl
          have pf3 : W3.frozen? ⟨PB, 3, none⟩ = false := frozen_of_row W3 PB 3 _ _ hy3'
          have p4 : W3.cell? ⟨PB, 4, none⟩ = some (.int .i64 pvk) := by rw [cell_of_row W3 PB 4 _ _ _ hy3']; rfl
          have pf4 : W3.frozen? ⟨PB, 4, none⟩ = false := frozen_of_row W3 PB 4 _ _ hy3'
          have p5 : W3.cell? ⟨PB, 5, none⟩ = some (.int .i64 pvn) := by rw [cell_of_row W3 PB 5 _ _ _ hy3']; rfl
          have pf5 : W3.frozen? ⟨PB, 5, none⟩ = false := frozen_of_row W3 PB 5 _ _ hy3'
          have p6 : W3.cell? ⟨PB, 6, none⟩ = some (.slice pa pn pm) := by rw [cell_of_row W3 PB 6 _ _ _ hy3']; rfl
          have pf6 : W3.frozen? ⟨PB, 6, none⟩ = false := frozen_of_row W3 PB 6 _ _ hy3'
          have p7 : W3.cell? ⟨PB, 7, none⟩ = some (.slice pa2 pn2 pm2) := by rw [cell_of_row W3 PB 7 _ _ _ hy3']; rfl
          have pf7 : W3.frozen? ⟨PB, 7, none⟩ = false := frozen_of_row W3 PB 7 _ _ hy3'
          clear hy3'
          go_wp2_with fail
          go_roundw
          case rel =>
            have hst : ∀ i u (wx : World), Agree (fun b => b = PB) W3 wx → Agree (fun b => b = PB) W3 (wx.setCell ⟨PB, i, none⟩ u) := fun i u wx h => h.set ⟨PB, i, none⟩ u (.inl rfl)
            have hag8 := hst 7 (.slice ra2 rn2 rm2) _ (hst 6 (.slice ra rn rm) _ (hst 5 (.int .i64 rvn) _ (hst 4 (.int .i64 rvk) _ (hst 3 (.bool ru) _ (hst 2 (.int .i64 ro) _ (hst 1 (.int .i64 rc) _ (hst 0 (.int .i64 rk) _ (Agree.refl _ W3))))))))
            refine ⟨q + 1, _, _, by omega, by go_num, dg_one HDG.out 4 (.inl rfl), eight_heap HY3.out, RdA1.above (agree_above hag8 (fun i h => by have := HSI.out; rw [HSW.out]; omega)) (by have := HSI.out; rw [HSW.out]; omega) _ HA.out, ?_⟩
            exact (HAG.out.then (agree_none HB3.out) (fun i _ h => h.elim)).trans hag8
          case measure => simp [intOf]; omega
        · have HRD1 := Lib.hid (RdA1.rd p HRA.out)
          have HS1 := Lib.hid (rdS_lits wo #[.int .i64 pk, .int .i64 pc, .int .i64 po, .bool pu, .int .i64 pvk, .int .i64 pvn, .slice pa pn pm, .slice pa2 pn2 pm2, .int .i64 1, .int .i64 0, .int .i64 0, .bool false, .int .i64 0, .int .i64 0, .slice none 0 0, .slice none 0 0] 31 8 2 [[.int .i64 pk, .int .i64 pc, .int .i64 po, .bool pu, .int .i64 pvk, .int .i64 pvn, .slice pa pn pm, .slice pa2 pn2 pm2], trC] rfl (all_two rfl rfl) rfl)
          have HSW := Lib.hid (show (wo.alloc (.cells #[.int .i64 pk, .int .i64 pc, .int .i64 po, .bool pu, .int .i64 pvk, .int .i64 pvn, .slice pa pn pm, .slice pa2 pn2 pm2, .int .i64 1, .int .i64 0, .int .i64 0, .bool false, .int .i64 0, .int .i64 0, .slice none 0 0, .slice none 0 0] 31)).heap.size = wo.heap.size + 1 by simp)
          have HTR := Lib.hid (show RdT1 (wo.alloc (.cells #[.int .i64 pk, .int .i64 pc, .int .i64 po, .bool pu, .int .i64 pvk, .int .i64 pvn, .slice pa pn pm, .slice pa2 pn2 pm2, .int .i64 1, .int .i64 0, .int .i64 0, .bool false, .int .i64 0, .int .i64 0, .slice none 0 0, .slice none 0 0] 31)) trT trC from rdT1_tr _)
          have HC := Lib.hid (pany_any [p, trT] (by simp) (fun i t ht => all_two HPO.out tr_pok t (List.mem_of_getElem? ht)) _ _ (wo.alloc (.cells #[.int .i64 pk, .int .i64 pc, .int .i64 po, .bool pu, .int .i64 pvk, .int .i64 pvn, .slice pa pn pm, .slice pa2 pn2 pm2, .int .i64 1, .int .i64 0, .int .i64 0, .bool false, .int .i64 0, .int .i64 0, .slice none 0 0, .slice none 0 0] 31)) HS1.out (rdTs_two (RdT1.kept (below_alloc wo _) p HRD1.out) HTR.out))
          go_wp2_with fail
          refine HC.out.mono ?_
          rintro e W3 ⟨cs', rfl, ha, hb3⟩
          have HA := Lib.hid ha
          obtain ⟨rk, rc, ro, rvk, rvn, ru, ra, rn, rm, ra2, rn2, rm2, rfl⟩ := rdA1_shape ha
          have hb3 := below_then (below_alloc wo _) hb3
          have hy3 := (hb3.block PB (Array.getElem?_eq_some_iff.1 HY.out).1).trans HY.out
          have HY3 := Lib.hid hy3
          have HB3 := Lib.hid hb3
          clear ha hb3 p0 p1 p2 p3 p4 p5 p6 p7
          have hy3' : W3.heap[PB]? = some (.cells #[.int .i64 pk, .int .i64 pc, .int .i64 po, .bool pu, .int .i64 pvk, .int .i64 pvn, .slice pa pn pm, .slice pa2 pn2 pm2] 31 (0, 0)) := HY3.out
          have p0 : W3.cell? ⟨PB, 0, none⟩ = some (.int .i64 pk) := by rw [cell_of_row W3 PB 0 _ _ _ hy3']; rfl
          have pf0 : W3.frozen? ⟨PB, 0, none⟩ = false := frozen_of_row W3 PB 0 _ _ hy3'
          have p1 : W3.cell? ⟨PB, 1, none⟩ = some (.int .i64 pc) := by rw [cell_of_row W3 PB 1 _ _ _ hy3']; rfl
          have pf1 : W3.frozen? ⟨PB, 1, none⟩ = false := frozen_of_row W3 PB 1 _ _ hy3'
          have p2 : W3.cell? ⟨PB, 2, none⟩ = some (.int .i64 po) := by rw [cell_of_row W3 PB 2 _ _ _ hy3']; rfl
          have pf2 : W3.frozen? ⟨PB, 2, none⟩ = false := frozen_of_row W3 PB 2 _ _ hy3'
          have p3 : W3.cell? ⟨PB, 3, none⟩ = some (.bool pu) := by rw [cell_of_row W3 PB 3 _ _ _ hy3']; rfl
          have pf3 : W3.frozen? ⟨PB, 3, none⟩ = false := frozen_of_row W3 PB 3 _ _ hy3'
          have p4 : W3.cell? ⟨PB, 4, none⟩ = some (.int .i64 pvk) := by rw [cell_of_row W3 PB 4 _ _ _ hy3']; rfl
          have pf4 : W3.frozen? ⟨PB, 4, none⟩ = false := frozen_of_row W3 PB 4 _ _ hy3'
          have p5 : W3.cell? ⟨PB, 5, none⟩ = some (.int .i64 pvn) := by rw [cell_of_row W3 PB 5 _ _ _ hy3']; rfl
          have pf5 : W3.frozen? ⟨PB, 5, none⟩ = false := frozen_of_row W3 PB 5 _ _ hy3'
          have p6 : W3.cell? ⟨PB, 6, none⟩ = some (.slice pa pn pm) := by rw [cell_of_row W3 PB 6 _ _ _ hy3']; rfl
          have pf6 : W3.frozen? ⟨PB, 6, none⟩ = false := frozen_of_row W3 PB 6 _ _ hy3'
          have p7 : W3.cell? ⟨PB, 7, none⟩ = some (.slice pa2 pn2 pm2) := by rw [cell_of_row W3 PB 7 _ _ _ hy3']; rfl
          have pf7 : W3.frozen? ⟨PB, 7, none⟩ = false := frozen_of_row W3 PB 7 _ _ hy3'
          clear hy3'
          go_wp2_with fail
          go_roundw
          case rel =>
            have hst : ∀ i u (wx : World), Agree (fun b => b = PB) W3 wx → Agree (fun b => b = PB) W3 (wx.setCell ⟨PB, i, none⟩ u) := fun i u wx h => h.set ⟨PB, i, none⟩ u (.inl rfl)
            have hag8 := hst 7 (.slice ra2 rn2 rm2) _ (hst 6 (.slice ra rn rm) _ (hst 5 (.int .i64 rvn) _ (hst 4 (.int .i64 rvk) _ (hst 3 (.bool ru) _ (hst 2 (.int .i64 ro) _ (hst 1 (.int .i64 rc) _ (hst 0 (.int .i64 rk) _ (Agree.refl _ W3))))))))
            refine ⟨q + 1, _, _, by omega, by go_num, dg_two HDG.out, eight_heap HY3.out, RdA1.above (agree_above hag8 (fun i h => by have := HSI.out; rw [HSW.out]; omega)) (by have := HSI.out; rw [HSW.out]; omega) _ HA.out, ?_⟩
            exact (HAG.out.then (agree_none HB3.out) (fun i _ h => h.elim)).trans hag8
          case measure => simp [intOf]; omega
        · have HRD1 := Lib.hid (RdA1.rd p HRA.out)
          have HS1 := Lib.hid (rdS_lits wo #[.int .i64 pk, .int .i64 pc, .int .i64 po, .bool pu, .int .i64 pvk, .int .i64 pvn, .slice pa pn pm, .slice pa2 pn2 pm2, .int .i64 1, .int .i64 0, .int .i64 0, .bool false, .int .i64 0, .int .i64 0, .slice none 0 0, .slice none 0 0] 31 8 2 [[.int .i64 pk, .int .i64 pc, .int .i64 po, .bool pu, .int .i64 pvk, .int .i64 pvn, .slice pa pn pm, .slice pa2 pn2 pm2], trC] rfl (all_two rfl rfl) rfl)
          have HSW := Lib.hid (show (wo.alloc (.cells #[.int .i64 pk, .int .i64 pc, .int .i64 po, .bool pu, .int .i64 pvk, .int .i64 pvn, .slice pa pn pm, .slice pa2 pn2 pm2, .int .i64 1, .int .i64 0, .int .i64 0, .bool false, .int .i64 0, .int .i64 0, .slice none 0 0, .slice none 0 0] 31)).heap.size = wo.heap.size + 1 by simp)
          have HTR := Lib.hid (show RdT1 (wo.alloc (.cells #[.int .i64 pk, .int .i64 pc, .int .i64 po, .bool pu, .int .i64 pvk, .int .i64 pvn, .slice pa pn pm, .slice pa2 pn2 pm2, .int .i64 1, .int .i64 0, .int .i64 0, .bool false, .int .i64 0, .int .i64 0, .slice none 0 0, .slice none 0 0] 31)) trT trC from rdT1_tr _)
          have HC := Lib.hid (pany_any [p, trT] (by simp) (fun i t ht => all_two HPO.out tr_pok t (List.mem_of_getElem? ht)) _ _ (wo.alloc (.cells #[.int .i64 pk, .int .i64 pc, .int .i64 po, .bool pu, .int .i64 pvk, .int .i64 pvn, .slice pa pn pm, .slice pa2 pn2 pm2, .int .i64 1, .int .i64 0, .int .i64 0, .bool false, .int .i64 0, .int .i64 0, .slice none 0 0, .slice none 0 0] 31)) HS1.out (rdTs_two (RdT1.kept (below_alloc wo _) p HRD1.out) HTR.out))
          go_wp2_with fail
          refine HC.out.mono ?_
          rintro e W3 ⟨cs', rfl, ha, hb3⟩
          have HA := Lib.hid ha
          obtain ⟨rk, rc, ro, rvk, rvn, ru, ra, rn, rm, ra2, rn2, rm2, rfl⟩ := rdA1_shape ha
          have hb3 := below_then (below_alloc wo _) hb3
          have hy3 := (hb3.block PB (Array.getElem?_eq_some_iff.1 HY.out).1).trans HY.out
          have HY3 := Lib.hid hy3
          have HB3 := Lib.hid hb3
          clear ha hb3 p0 p1 p2 p3 p4 p5 p6 p7
          have hy3' : W3.heap[PB]? = some (.cells #[.int .i64 pk, .int .i64 pc, .int .i64 po, .bool pu, .int .i64 pvk, .int .i64 pvn, .slice pa pn pm, .slice pa2 pn2 pm2] 31 (0, 0)) := HY3.out
          have p0 : W3.cell? ⟨PB, 0, none⟩ = some (.int .i64 pk) := by rw [cell_of_row W3 PB 0 _ _ _ hy3']; rfl
          have pf0 : W3.frozen? ⟨PB, 0, none⟩ = false := frozen_of_row W3 PB 0 _ _ hy3'
          have p1 : W3.cell? ⟨PB, 1, none⟩ = some (.int .i64 pc) := by rw [cell_of_row W3 PB 1 _ _ _ hy3']; rfl
          have pf1 : W3.frozen? ⟨PB, 1, none⟩ = false := frozen_of_row W3 PB 1 _ _ hy3'
          have p2 : W3.cell? ⟨PB, 2, none⟩ = some (.int .i64 po) := by rw [cell_of_row W3 PB 2 _ _ _ hy3']; rfl
          have pf2 : W3.frozen? ⟨PB, 2, none⟩ = false := frozen_of_row W3 PB 2 _ _ hy3'
          have p3 : W3.cell? ⟨PB, 3, none⟩ = some (.bool pu) := by rw [cell_of_row W3 PB 3 _ _ _ hy3']; rfl
          have pf3 : W3.frozen? ⟨PB, 3, none⟩ = false := frozen_of_row W3 PB 3 _ _ hy3'
          have p4 : W3.cell? ⟨PB, 4, none⟩ = some (.int .i64 pvk) := by rw [cell_of_row W3 PB 4 _ _ _ hy3']; rfl
          have pf4 : W3.frozen? ⟨PB, 4, none⟩ = false := frozen_of_row W3 PB 4 _ _ hy3'
          have p5 : W3.cell? ⟨PB, 5, none⟩ = some (.int .i64 pvn) := by rw [cell_of_row W3 PB 5 _ _ _ hy3']; rfl
          have pf5 : W3.frozen? ⟨PB, 5, none⟩ = false := frozen_of_row W3 PB 5 _ _ hy3'
          have p6 : W3.cell? ⟨PB, 6, none⟩ = some (.slice pa pn pm) := by rw [cell_of_row W3 PB 6 _ _ _ hy3']; rfl
          have pf6 : W3.frozen? ⟨PB, 6, none⟩ = false := frozen_of_row W3 PB 6 _ _ hy3'
          have p7 : W3.cell? ⟨PB, 7, none⟩ = some (.slice pa2 pn2 pm2) := by rw [cell_of_row W3 PB 7 _ _ _ hy3']; rfl
          have pf7 : W3.frozen? ⟨PB, 7, none⟩ = false := frozen_of_row W3 PB 7 _ _ hy3'
          clear hy3'
          go_wp2_with fail
          go_roundw
          case rel =>
            have hst : ∀ i u (wx : World), Agree (fun b => b = PB) W3 wx → Agree (fun b => b = PB) W3 (wx.setCell ⟨PB, i, none⟩ u) := fun i u wx h => h.set ⟨PB, i, none⟩ u (.inl rfl)
            have hag8 := hst 7 (.slice ra2 rn2 rm2) _ (hst 6 (.slice ra rn rm) _ (hst 5 (.int .i64 rvn) _ (hst 4 (.int .i64 rvk) _ (hst 3 (.bool ru) _ (hst 2 (.int .i64 ro) _ (hst 1 (.int .i64 rc) _ (hst 0 (.int .i64 rk) _ (Agree.refl _ W3))))))))
            refine ⟨q + 1, _, _, by omega, by go_num, dg_two HDG.out, eight_heap HY3.out, RdA1.above (agree_above hag8 (fun i h => by have := HSI.out; rw [HSW.out]; omega)) (by have := HSI.out; rw [HSW.out]; omega) _ HA.out, ?_⟩
            exact (HAG.out.then (agree_none HB3.out) (fun i _ h => h.elim)).trans hag8
          case measure => simp [intOf]; omega
    · have hqi : ¬ (q : Int) < (dn : Int) := by omega
      have hqd : q = dn := by omega
      have csx : wo.cell? ⟨SB, 0, none⟩ = some (.slice so sn sc) := by rw [cell_of_row wo SB 0 _ _ _ HSX.out]; rfl
      have HCW := Lib.hid (show RdC wo (.slice so sn sc) cols from RdC.kept HC1.out ((HB0.out.mono (Nat.le_refl _)).trans (HAG.out.below (fun i h e => by have := HSA.out; omega) HB0.out.size)))
      have HBW := Lib.hid (show Below w.heap.size w wo from HB1.out.trans ((HB0.out.mono HB1.out.size).trans (HAG.out.below (fun i h e => by have := HSA.out; have := HB1.out.size; omega) (Nat.le_trans HB1.out.size HB0.out.size))))
      have HC := Lib.hid (predOk_any cols _ _ p wo HCW.out (RdA1.rd p HRA.out) (by have := HDG.out.nod; omega))
      rw [dg_ok HDG.out (by omega), hqd] at HC
      obtain ⟨r, hr⟩ : ∃ r, r = decide ((dn : Int) ≤ 4) := ⟨_, rfl⟩
      have hrr := hr.symm
      rw [hrr] at HC
      clear hqd hr
      go_wp2_with fail
      refine HC.out.mono ?_
      rintro e W4 ⟨rfl, hb4⟩
      have HB4 := Lib.hid (below_then HBW.out hb4)
      have HS4 := Lib.hid ((hb4.block SB (Array.getElem?_eq_some_iff.1 HSX.out).1).trans HSX.out)
      have HC4 := Lib.hid (RdC.kept HCW.out hb4)
      clear hb4 csx p0 p1 p2 p3 p4 p5 p6 p7
      have hne : (r != r) = false := by cases r <;> rfl
      go_wp2_with fail
      have HE0 := Lib.hid (show Below w.heap.size w W4 from HB4.out)
      clear HB0 HX0 HY0 HAB HSZ HSA HC2 HC1 HB1 HRA HDG HY HAG HSX HPO HSI HCW HBW HC hdn hmn hrr hne hqi
      go_loopw [10, 11] (fun v i wr => ∃ (q2 : Nat) (vo : Option Addr) (vc : Nat) (css : List (List Value)), q2 ≤ mn ∧ i = .int .i64 (q2 : Int) ∧ v = .slice vo q2 vc ∧ css.length = q2 ∧ wr.ownsRow W4.heap.size 31 8 (.slice vo q2 vc) q2 css.flatten ∧ Free (fun b => (Value.slice vo q2 vc).ownBlock = some b) wr (fun w' => RdAs W4.heap.size w' ((List.range q2).map allK) css) ∧ Below W4.heap.size W4 wr) (fun _ i _ => mn - (intOf i).toNat)
      case atStart => exact ⟨0, none, 0, [], Nat.zero_le _, rfl, rfl, rfl, World.ownsRow_nil .., fun w' _ => by simp [RdAs], Below.refl _ _⟩
      case round =>
        obtain ⟨q2, vo, vc, css, hq2, rfl, rfl, hcl, hown, hel, hbel⟩ := hrel
        obtain ⟨wl, rfl⟩ : ∃ wl : World, wl = wr := ⟨_, rfl⟩
        have HCL := Lib.hid hcl
        have HO := Lib.hid hown
        have HE := Lib.hid hel
        have HB := Lib.hid hbel
        clear hown hel hbel hcl
        by_cases hlt2 : q2 < mn
        · have hq2i : (q2 : Int) < (mn : Int) := by omega
          have hb7 : bits .and .i64 (q2 : Int) 7 = ((q2 % 8 : Nat) : Int) := by rw [and_low (q2 : Int) 3 (by decide) 7 rfl]; omega
          obtain ⟨m8, hm8⟩ : ∃ m8, m8 = q2 % 8 := ⟨_, rfl⟩
          rw [← hm8] at hb7
          have HM8 := Lib.hid hm8
          clear hm8
          have HM := Lib.hid (make7_any m8 (by have := HM8.out; omega) wl)
          go_wp2_with (first
            | (go_at_call 20; refine HM.out.mono ?_; rintro e w5 ⟨ma, mc, rfl, hs5, ht5, hb5⟩; have HS5 := Lib.hid hs5; have HT5 := Lib.hid ht5; have HB5 := Lib.hid hb5; have HC5 := Lib.hid (pall_any (List.replicate m8 trT) (by rw [List.length_replicate]; have := HM8.out; omega) (fun i t ht => by rw [(List.mem_replicate.1 (List.mem_of_getElem? ht)).2]; exact tr_pok) _ _ w5 hs5 ht5); clear hs5 ht5 hb5)
            | (go_at_call 17; refine HC5.out.mono ?_; rintro e w6 ⟨cs', rfl, ha, hb6⟩; have HA := Lib.hid ha; obtain ⟨rk, rc, ro, rvk, rvn, ru, ra, rn, rm, ra2, rn2, rm2, rfl⟩ := rdA1_shape ha; have HB6 := Lib.hid (below_then HB5.out hb6); have HS6 := Lib.hid (show wl.heap.size ≤ w5.heap.size from HB5.out.size); clear ha hb6)
            | (at_builtin; go_must (refine wpList_append_k elmPred rfl _ _ rfl W4.heap.size _ _ _ rfl ((own_kept HO.out HB6.out).alloc _) _ [[.int .i64 rk, .int .i64 rc, .int .i64 ro, .bool ru, .int .i64 rvk, .int .i64 rvn, .slice ra rn rm, .slice ra2 rn2 rm2]] rfl (rdS_lit w6 _ _ 8 rfl) (fun t ht => by rw [List.mem_singleton.1 ht]; exact ⟨rfl, by simp [Value.oneCell']⟩) (by simp; omega) (by have := HB6.out.size; have := HB.out.size; simp; omega) (q2 + 1) rfl ?_); intro ao7 cap7 w7 hown7 hgrow7 hnew7; have HO7 := Lib.hid hown7; have HG7 : Hid (World.grownBy _ w7 (Value.slice vo q2 vc).ownBlock) := Lib.hid hgrow7; have HN7 : Hid (∀ g, (Value.slice ao7 (q2 + 1) cap7).ownBlock = some g → (Value.slice vo q2 vc).ownBlock = some g ∨ g = _) := Lib.hid hnew7; clear hown7 hgrow7 hnew7))
          go_roundw
          case rel =>
            have hag2 : Agree (fun _ => False) wl w6 := agree_none HB6.out
            have hag5 : Agree (fun b => (Value.slice vo q2 vc).ownBlock = some b) wl w7 := (hag2.mono fun _ _ h => h.elim).trans ((agree_alloc _ w6 _).thenGrown HG7.out fun i _ h => h)
            have hs67 := HB6.out.size
            have hnb : ∀ b, (Value.slice ao7 (q2 + 1) cap7).ownBlock = some b → b < w6.heap.size → (Value.slice vo q2 vc).ownBlock = some b := fun b h1 h2 => (HN7.out b h1).elim id fun h => by have := World.size_alloc w6 (.cells #[.int .i64 rk, .int .i64 rc, .int .i64 ro, .bool ru, .int .i64 rvk, .int .i64 rvn, .slice ra rn rm, .slice ra2 rn2 rm2] 31); omega
            have hol := own_lt HO.out
            refine ⟨q2 + 1, ao7, cap7, css ++ [[.int .i64 rk, .int .i64 rc, .int .i64 ro, .bool ru, .int .i64 rvk, .int .i64 rvn, .slice ra rn rm, .slice ra2 rn2 rm2]], by omega, by go_num, rfl, by rw [List.length_append, HCL.out]; rfl, by rw [List.flatten_append]; exact HO7.out, ?_, ?_⟩
            · rw [range_snoc]
              intro w' ha
              refine RdAs.snoc ?_ (HE.out w' (hag5.then ha fun i hi h => hnb i h (by omega)))
              have hab : Above wl.heap.size w6 w' := fun b h1 h2 => by
                have e1 : w7.heap[b]? = w6.heap[b]? := (HG7.out.block b (by rw [World.size_alloc]; omega) (fun h => by have := hol b h.symm; omega)).trans (heap_alloc_old w6 _ h2)
                have hs7 : b < w7.heap.size := by have := HG7.out.size; rw [World.size_alloc] at this; omega
                exact (ha.block b hs7 (fun h => by have := hol b (hnb b h h2); omega)).trans e1
              have hs4 := HB.out.size
              unfold allK
              have hA := HA.out
              rw [HM8.out] at hA
              exact RdA1.above (hab.mono HS6.out) (by have := HS6.out; omega) _ hA
            · exact HB.out.trans (hag5.below (fun i hi h => by have := own_base HO.out i h; omega) HB.out.size)
          case measure => simp [intOf]; omega
        · have hq2i : ¬ (q2 : Int) < (mn : Int) := by omega
          have hqm : q2 = mn := by omega
          have HRD := Lib.hid (show ∀ W, Below wl.heap.size wl W → RdS W 8 (.slice vo mn vc) css ∧ RdTs W ((List.range mn).map allK) css from fun W h => by
            have h1 := (HE.out wl (Agree.refl _ _))
            rw [hqm] at h1
            have h2 := RdAs.rd _ h1
            refine ⟨(rdS_own HO.out HCL.out.symm (fun t ht => (rdTs_ones h2 t ht).1)).kept h |> fun z => by rw [hqm] at z; exact z, RdTs.kept h _ h2⟩)
          have hcm := HCL.out
          rw [hqm] at hcm
          have HSL := Lib.hid ((HB.out.block SB (Array.getElem?_eq_some_iff.1 HS4.out).1).trans HS4.out)
          have HCC := Lib.hid (RdC.kept HC4.out HB.out)
          have HBL := Lib.hid (below_then HE0.out HB.out)
          have HOP := Lib.hid (treeK_ok cols mn)
          have HNS := Lib.hid (nS_le mn)
          have HND := Lib.hid (listK_all cols mn).2.2.2
          have HCA := Lib.hid (show ∀ W, Below wl.heap.size wl W → Calls Try.prog 18 #[.slice vo mn vc] W fun e w' => ∃ cs', e = .returned (.agg cs'.toArray) ∧ RdA1 W.heap.size w' (.mk 5 0 0 zeroV ((List.range mn).map allK)) cs' ∧ Below W.heap.size W w' from fun W h => pany_any _ (by rw [List.length_map, List.length_range]; omega) (fun i t ht => by obtain ⟨j, _, rfl⟩ := List.mem_map.1 (List.mem_of_getElem? ht); exact allK_pok j) _ css W (HRD.out W h).1 (HRD.out W h).2)
          clear HO HE HB HCL HS4 HC4 HE0 HRD hcm
          obtain ⟨T, hT⟩ : ∃ T, T = Pt.mk 5 0 0 zeroV ((List.range mn).map allK) := ⟨_, rfl⟩
          have HTN := Lib.hid (show nodesT T ≤ 1000000 by rw [hT, nodesT]; have := HND.out; omega)
          rw [← hT] at HOP HCA
          clear hT HND
          subst hqm
          go_wp2_with fail
          go_loopw [12, 13, 64] (fun n x k wr => ∃ q3 : Nat, q3 ≤ q2 ∧ k = .int .i64 (q3 : Int) ∧ n = .int .i64 (nS q3 : Int) ∧ wl = wr) (fun _ _ k _ => q2 - (intOf k).toNat)
          case atStart => exact ⟨0, Nat.zero_le _, rfl, rfl, rfl⟩
          case round =>
            obtain ⟨q3, hq3, rfl, rfl, rfl⟩ := hrel
            have hn3 := nS_le q3
            by_cases hlt3 : q3 < q2
            · have hq3i : (q3 : Int) < (q2 : Int) := by omega
              have hb7 : bits .and .i64 (q3 : Int) 7 = ((q3 % 8 : Nat) : Int) := by rw [and_low (q3 : Int) 3 (by decide) 7 rfl]; omega
              obtain ⟨m8, hm8⟩ : ∃ m8, m8 = q3 % 8 := ⟨_, rfl⟩
              rw [← hm8] at hb7
              have hm8' : m8 ≤ 7 := by omega
              have HM8 := Lib.hid hm8
              obtain ⟨n3, hn3e⟩ : ∃ n3, n3 = nS q3 := ⟨_, rfl⟩
              rw [← hn3e] at hn3 ⊢
              have HN3 := Lib.hid hn3e
              clear hm8 hn3e
              go_wp2_with fail
              go_roundw
              case rel => exact ⟨q3 + 1, by omega, by go_num, by rw [nS, ← HN3.out, ← HM8.out]; go_num, (by first | rfl | trivial)⟩
              case measure => simp [intOf]; omega
            · have hq3i : ¬ (q3 : Int) < (q2 : Int) := by omega
              obtain rfl : q3 = q2 := by omega
              obtain ⟨n3, hn3e⟩ : ∃ n3, n3 = nS q3 := ⟨_, rfl⟩
              rw [← hn3e] at hn3 HOP ⊢
              clear hn3e hlt3 HNS
              have hS := Below.refl wl.heap.size wl
              have cs0 : wl.cell? ⟨SB, 0, none⟩ = some (.slice so sn sc) := by rw [cell_of_row wl SB 0 _ _ _ HSL.out]; rfl
              have HOKC := Lib.hid (fun (cs' : List Value) (W : World) (h : Below wl.heap.size wl W) (k : RdT1 W T cs') => predOk_any cols (.slice so sn sc) cs' T W (RdC.kept HCC.out h) k HTN.out)
              obtain ⟨A, hA⟩ : ∃ A, A = decide ((q3 : Int) ≤ 8) := ⟨_, rfl⟩
              obtain ⟨B, hB⟩ : ∃ B, B = decide ((n3 : Int) ≤ 64) := ⟨_, rfl⟩
              rw [← hA, ← hB] at HOP
              have hA' := hA.symm
              have hB' := hB.symm
              have hA2 : decide (q3 ≤ 8) = A := by rw [hA]; exact decide_eq_decide.2 (by omega)
              have hB2 : decide (n3 ≤ 64) = B := by rw [hB]; exact decide_eq_decide.2 (by omega)
              clear hA hB
              go_upto_region 26 with (fail)
              have hfin : ∀ W : World, Below wl.heap.size wl W → Below w.heap.size w W := fun W h => below_then HBL.out h
              have HFIN := Lib.hid hfin
              clear hfin hq3 hq3i hn3 hlt2 hq2i hlt
              cases A
              · have HOP2 : Hid (predOkB cols T = false) := Lib.hid (by rw [HOP.out]; rfl)
                first
                | (go_region_law
                  (first
                    | (go_simp; go_at_call 21; refine (awake7_any _).mono ?_; rintro e wC ⟨rfl, hbC⟩; have hBC : Below wl.heap.size wl wC := below_then hBB hbC; have hB9 := hBC)
                    | (go_simp; go_at_call 19; refine (HOKC.out _ _ hBA (RdA1.rd _ HAA.out)).mono ?_; rintro e wB ⟨rfl, hbB⟩; rw [HOP2.out]; have hBB : Below wl.heap.size wl wB := below_then hBA hbB; have hB9 := hBB)
                    | (go_simp; go_at_call 18; refine (HCA.out _ (by first | assumption | exact Below.refl _ _ | exact below_drw _ _ | exact Below.trans (by assumption) (below_drw _ _))).mono ?_; rintro e wA ⟨cs', rfl, ha, hbA⟩; have HAA := Lib.hid ha; obtain ⟨rk, rc, ro, rvk, rvn, ru, ra, rn, rm, ra2, rn2, rm2, rfl⟩ := rdA1_shape ha; have hBA : Below wl.heap.size wl wA := (by first | exact hbA | exact below_then (below_drw _ _) hbA); have csA : wA.cell? ⟨SB, 0, none⟩ = some (.slice so sn sc) := (hBA.cell (World.block_lt_of_cell? _ _ cs0)).trans cs0)))
                | fail
                all_goals
                  go_wp2_with fail
                  go_ret
                  exact ⟨rfl, HFIN.out _ hBC⟩
              cases B
              all_goals
                set_option maxRecDepth 1000000 in
                go_region_held3 (fun w' => w'.cell? ⟨SB, 0, none⟩ = some (.slice so sn sc) ∧ Below wl.heap.size wl w') (first | assumption | exact below_drw _ _ | exact Below.refl _ _ | exact ⟨(by first | assumption | exact (hB9.cell (World.block_lt_of_cell? _ _ cs0)).trans cs0), (by first | assumption | exact below_drw _ _ | exact Below.refl _ _)⟩)
                  (first
                    | (go_at_call 21; refine (awake7_any _).mono ?_; rintro e wC ⟨rfl, hbC⟩; have hBC : Below wl.heap.size wl wC := below_then hBB hbC; have hB9 := hBC)
                    | (go_at_call 19; refine (HOKC.out _ _ hBA (RdA1.rd _ HAA.out)).mono ?_; rintro e wB ⟨rfl, hbB⟩; rw [HOP.out]; have hBB : Below wl.heap.size wl wB := below_then hBA hbB; have hB9 := hBB)
                    | (go_at_call 18; refine (HCA.out _ (by first | assumption | exact Below.refl _ _ | exact below_drw _ _ | exact Below.trans (by assumption) (below_drw _ _))).mono ?_; rintro e wA ⟨cs', rfl, ha, hbA⟩; have HAA := Lib.hid ha; obtain ⟨rk, rc, ro, rvk, rvn, ru, ra, rn, rm, ra2, rn2, rm2, rfl⟩ := rdA1_shape ha; have hBA : Below wl.heap.size wl wA := (by first | exact hbA | exact below_then (below_drw _ _) hbA); have hB9 := hBA))
                all_goals
                  go_wp2_with fail
                  go_ret
                  exact ⟨rfl, HFIN.out _ hBC⟩

end Go.Proofs.Ytpabneinikbneaa
