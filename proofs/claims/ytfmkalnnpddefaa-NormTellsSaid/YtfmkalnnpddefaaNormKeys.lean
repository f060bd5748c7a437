/-
  The walk of NormKeys.
-/
import Derived.Test.YtfmkalnnpddefaaNkeym
import Derived.Test.YtfmkalnnpddefaaColn
import Derived.Test.YtfmkalnnpddefaaLpred
import Derived.Test.YtfmkalnnpddefaaAwake8
namespace Go.Proofs.Ytfmkalnnpddefaa
set_option linter.unusedVariables false
set_option linter.unusedSimpArgs false
open Go.RowKit

/-- Things laid one behind the other, read as a slice. -/
theorem rdS_lits (w : World) (cs : Array Value) (E : TypeId) (sz n : Nat) (css : List (List Value)) (h : cs.toList = css.flatten) (hl : ∀ t ∈ css, t.length = sz) (hn : n = css.length) : RdS (w.alloc (.cells cs E)) sz (.slice (some ⟨w.heap.size, 0, none⟩) n n) css := by
  subst hn
  refine ⟨some ⟨w.heap.size, 0, none⟩, css.length, rfl, ⟨(fun h => by cases h), Nat.le_refl _⟩, fun k t ht => ⟨w.heap.size, 0, rfl, fun j u hu => ?_⟩⟩
  rw [cell_of_row _ w.heap.size _ _ _ _ (heap_alloc_new w _), Nat.zero_add, ← Array.getElem?_toList, h]
  exact flatten_at css sz hl k t j u ht hu
theorem rdT1_kp (w : World) (key : Int) : RdT1 w (kpT key) (cellsP 2 0 1 ⟨false, 1, key, []⟩ (.slice none 0 0) (.slice none 0 0)) := by
  unfold kpT RdT1
  exact ⟨_, _, [], rfl, ⟨Rd.nil w, fun x h => by cases h⟩, RdS.nil w 8, by unfold RdTs; trivial⟩
theorem rdT1_tr (w : World) : RdT1 w trT (cellsP 1 0 0 zeroV (.slice none 0 0) (.slice none 0 0)) := by
  unfold trT RdT1
  exact ⟨_, _, [], rfl, ⟨Rd.nil w, fun x h => by cases h⟩, RdS.nil w 8, by unfold RdTs; trivial⟩
/-- A predicate made of a list just laid. -/
theorem rdT1_lits (w : World) (cs : Array Value) (n : Nat) (k : Int) (l : List Pt) (css : List (List Value)) (h : cs.toList = css.flatten) (hn : n = css.length) (hr : RdTs w l css) : RdT1 (w.alloc (.cells cs 31)) (.mk k 0 0 zeroV l) (cellsP k 0 0 zeroV (.slice none 0 0) (.slice (some ⟨w.heap.size, 0, none⟩) n n)) := by
  unfold RdT1
  exact ⟨_, _, css, rfl, ⟨Rd.nil _, fun x h => by cases h⟩, rdS_lits w cs _ 8 n css h (fun t ht => (rdTs_ones hr t ht).1) hn, RdTs.kept (below_alloc w _) _ hr⟩
theorem rdTs_two {w : World} {a b : Pt} {ca cb : List Value} (h : RdT1 w a ca) (k : RdT1 w b cb) : RdTs w [a, b] [ca, cb] := by
  unfold RdTs; refine ⟨h, ?_⟩
  unfold RdTs; refine ⟨k, ?_⟩
  unfold RdTs; trivial
theorem rdTs_one {w : World} {a : Pt} {ca : List Value} (h : RdT1 w a ca) : RdTs w [a] [ca] := by
  unfold RdTs; refine ⟨h, ?_⟩
  unfold RdTs; trivial
theorem small_kp (key : Int) : depT (kpT key) = 1 ∧ cntT (kpT key) = 0 ∧ nodesT (kpT key) = 1 := by unfold kpT; simp [depT, depL, cntT, cntL, nodesT, nodesL]
theorem small_tr : depT trT = 1 ∧ cntT trT = 0 ∧ nodesT trT = 1 := by unfold trT; simp [depT, depL, cntT, cntL, nodesT, nodesL, zeroV]

set_option maxRecDepth 100000 in
set_option maxHeartbeats 16000000 in
theorem walk_NormKeys (a0 : Int) (a1 : Option Addr) (len1 cap1 : Nat) (z1 : List Int) (a2 a3 : Int) (w : World) (w0 : (Lit.int .i64 a0).wf = true) (w1 : IsRow .i64 w a1 len1 cap1 z1) (w2 : (Lit.int .i64 a2).wf = true) (w3 : (Lit.int .i64 a3).wf = true) :
    Calls Try.prog 4 #[.int .i64 a0, .slice a1 len1 cap1, .int .i64 a2, .int .i64 a3] w fun e w' => e = .returned (.bool true) ∧ Below w.heap.size w w' := by
  obtain ⟨la, hla, h1, _⟩ := isRow_rd w1
  have HLA := Lib.hid hla
  have HR1 := Lib.hid h1
  have HS := Lib.hid (schema_rd a0 w)
  have HOK := Lib.hid (colsN_ok a0)
  clear hla h1 w0 w1 w2 w3
  go_enter Try.func4, Try.ntmps4
  go_wp2_with fail
  refine HS.out.mono ?_
  rintro e W1 ⟨so, sc, rfl, hs1, hb1⟩
  obtain ⟨sn, hsn⟩ : ∃ sn, sn = (colsN a0).length := ⟨_, rfl⟩
  rw [← hsn] at hs1 ⊢
  have HB1 := Lib.hid hb1
  have HC1 := Lib.hid (rdC_of hs1)
  have HP := fun o => Lib.hid (lawpred_any (colsN a0) HOK.out.ne HOK.out.le la 2 (by decide) 0 (.slice so sn sc) a1 len1 cap1 (W1.alloc o) (by decide) HLA.out.symm (RdC.kept HC1.out (below_alloc W1 o)) (HR1.out.kept (below_lay HB1.out o)))
  have HPP := Lib.hid (predOf_small (colsN a0) la 2 0)
  have HTWO := Lib.hid (nrm_two (colsN a0) la 0)
  obtain ⟨pp, hpp⟩ : ∃ pp, pp = predOf (colsN a0) la 2 0 := ⟨_, rfl⟩
  rw [← hpp] at HP HPP HTWO
  clear hs1 hb1 hsn hpp
  go_wp2_with fail
  refine (HP _).out.mono ?_
  rintro e W2 ⟨cs, rfl, ha, hb2⟩
  have HB2 := Lib.hid (below_then (below_lay HB1.out _) hb2)
  have hrd := RdA1.rd _ ha
  obtain ⟨pk, pc, po, pvk, pvn, pu, psa, psn, psc, pla, pln, plc, hcs⟩ := rdA1_shape ha
  subst hcs
  have HRD := Lib.hid hrd
  clear hrd ha hb2 HP
  go_upto_region 5 with (fail)
  obtain ⟨W4, hW4⟩ : ∃ W4 : World, W4 = ((W2.alloc (.cells #[.int .i64 pk, .int .i64 pc, .int .i64 po, .bool pu, .int .i64 pvk, .int .i64 pvn, .slice psa psn psc, .slice pla pln plc] 31)).alloc (.cells #[.int .i64 2, .int .i64 0, .int .i64 1, .bool false, .int .i64 1, .int .i64 a2, .slice none 0 0, .slice none 0 0] 31)).alloc (.cells #[.int .i64 2, .int .i64 0, .int .i64 1, .bool false, .int .i64 1, .int .i64 a3, .slice none 0 0, .slice none 0 0] 31) := ⟨_, rfl⟩
  rw [← hW4]
  have hB24 : Below W2.heap.size W2 W4 := by rw [hW4]; exact below3 _ _ _ _
  have hp : W4.heap[W2.heap.size]? = some (.cells #[.int .i64 pk, .int .i64 pc, .int .i64 po, .bool pu, .int .i64 pvk, .int .i64 pvn, .slice psa psn psc, .slice pla pln plc] 31 (0, 0)) := by rw [hW4]; exact (heap_alloc_old _ _ (by simp; try omega)).trans ((heap_alloc_old _ _ (by simp)).trans (heap_alloc_new W2 _))
  have hk : W4.heap[W2.heap.size + 1]? = some (.cells #[.int .i64 2, .int .i64 0, .int .i64 1, .bool false, .int .i64 1, .int .i64 a2, .slice none 0 0, .slice none 0 0] 31 (0, 0)) := by rw [hW4]; exact heap3 W2 _ _ _
  have hj : W4.heap[W2.heap.size + 1 + 1]? = some (.cells #[.int .i64 2, .int .i64 0, .int .i64 1, .bool false, .int .i64 1, .int .i64 a3, .slice none 0 0, .slice none 0 0] 31 (0, 0)) := by rw [hW4]; exact (heaps3 W2 _ _ _).2
  have HB4 := Lib.hid (below_then HB2.out hB24)
  have HR4 := Lib.hid (RdT1.kept hB24 _ HRD.out)
  obtain ⟨PB, hPB⟩ : ∃ PB, PB = W2.heap.size := ⟨_, rfl⟩
  rw [← hPB] at hp hk hj ⊢
  obtain ⟨KB, hKB⟩ : ∃ KB, KB = PB + 1 := ⟨_, rfl⟩
  rw [← hKB] at hk hj ⊢
  obtain ⟨JB, hJB⟩ : ∃ JB, JB = KB + 1 := ⟨_, rfl⟩
  rw [← hJB] at hj ⊢
  clear hW4 hB24 hPB hKB hJB
  have ck0 : W4.cell? ⟨KB, 0, none⟩ = some (.int .i64 2) := by rw [cell_of_row W4 KB 0 _ _ _ hk]; rfl
  have ck1 : W4.cell? ⟨KB, 1, none⟩ = some (.int .i64 0) := by rw [cell_of_row W4 KB 1 _ _ _ hk]; rfl
  have ck2 : W4.cell? ⟨KB, 2, none⟩ = some (.int .i64 1) := by rw [cell_of_row W4 KB 2 _ _ _ hk]; rfl
  have ck3 : W4.cell? ⟨KB, 3, none⟩ = some (.bool false) := by rw [cell_of_row W4 KB 3 _ _ _ hk]; rfl
  have ck4 : W4.cell? ⟨KB, 4, none⟩ = some (.int .i64 1) := by rw [cell_of_row W4 KB 4 _ _ _ hk]; rfl
  have ck5 : W4.cell? ⟨KB, 5, none⟩ = some (.int .i64 a2) := by rw [cell_of_row W4 KB 5 _ _ _ hk]; rfl
  have ck6 : W4.cell? ⟨KB, 6, none⟩ = some (.slice none 0 0) := by rw [cell_of_row W4 KB 6 _ _ _ hk]; rfl
  have ck7 : W4.cell? ⟨KB, 7, none⟩ = some (.slice none 0 0) := by rw [cell_of_row W4 KB 7 _ _ _ hk]; rfl
  have HLa := Lib.hid (rdT1_lits W4 #[.int .i64 2, .int .i64 0, .int .i64 1, .bool false, .int .i64 1, .int .i64 a2, .slice none 0 0, .slice none 0 0, .int .i64 1, .int .i64 0, .int .i64 0, .bool false, .int .i64 0, .int .i64 0, .slice none 0 0, .slice none 0 0] 2 4 [kpT a2, trT] [cellsP 2 0 1 ⟨false, 1, a2, []⟩ (.slice none 0 0) (.slice none 0 0), cellsP 1 0 0 zeroV (.slice none 0 0) (.slice none 0 0)] (by rfl) (by rfl) (rdTs_two (rdT1_kp W4 a2) (rdT1_tr W4)))
  have HKa := Lib.hid (key_any (.mk 4 0 0 zeroV [kpT a2, trT]) (by have h1 := small_kp a2; have h2 := small_kp a3; have h3 := small_tr; have h4 := HPP.out; have h5 := nodes_cnt pp; simp only [depT, depL, cntT, cntL, nodesT, nodesL, zeroV, List.length_nil, List.length_cons]; omega) (by have h1 := small_kp a2; have h2 := small_kp a3; have h3 := small_tr; have h4 := HPP.out; have h5 := nodes_cnt pp; simp only [depT, depL, cntT, cntL, nodesT, nodesL, zeroV, List.length_nil, List.length_cons]; omega) (by have h1 := small_kp a2; have h2 := small_kp a3; have h3 := small_tr; have h4 := HPP.out; have h5 := nodes_cnt pp; simp only [depT, depL, cntT, cntL, nodesT, nodesL, zeroV, List.length_nil, List.length_cons]; omega) _ _ HLa.out)
  have hkva : keyNV (.mk 4 0 0 zeroV [kpT a2, trT]) = a2 := by unfold keyNV; rw [key_and a2]; rfl
  have hkba : keyNB (.mk 4 0 0 zeroV [kpT a2, trT]) = true := by unfold keyNB; rw [key_and a2]; rfl
  rw [hkva, hkba] at HKa
  clear hkva hkba
  unfold cellsP at HKa
  go_wp2_with fail
  refine HKa.out.mono ?_
  rintro e V0 ⟨rfl, hbx⟩
  have hby := below_then (below_alloc W4 (.cells #[.int .i64 2, .int .i64 0, .int .i64 1, .bool false, .int .i64 1, .int .i64 a2, .slice none 0 0, .slice none 0 0, .int .i64 1, .int .i64 0, .int .i64 0, .bool false, .int .i64 0, .int .i64 0, .slice none 0 0, .slice none 0 0] 31)) hbx
  clear ck0 ck1 ck2 ck3 ck4 ck5 ck6 ck7
  replace hk : V0.heap[KB]? = some (.cells #[.int .i64 2, .int .i64 0, .int .i64 1, .bool false, .int .i64 1, .int .i64 a2, .slice none 0 0, .slice none 0 0] 31 (0, 0)) := (hby.block KB (Array.getElem?_eq_some_iff.1 hk).1).trans hk
  replace hj : V0.heap[JB]? = some (.cells #[.int .i64 2, .int .i64 0, .int .i64 1, .bool false, .int .i64 1, .int .i64 a3, .slice none 0 0, .slice none 0 0] 31 (0, 0)) := (hby.block JB (Array.getElem?_eq_some_iff.1 hj).1).trans hj
  replace hp : V0.heap[PB]? = some (.cells #[.int .i64 pk, .int .i64 pc, .int .i64 po, .bool pu, .int .i64 pvk, .int .i64 pvn, .slice psa psn psc, .slice pla pln plc] 31 (0, 0)) := (hby.block PB (Array.getElem?_eq_some_iff.1 hp).1).trans hp
  have HBa := Lib.hid (below_then HB4.out hby)
  have HRa := Lib.hid (RdT1.kept hby _ HR4.out)
  clear hbx hby
  go_upto_region 6 with (fail)
  have ck0 : V0.cell? ⟨KB, 0, none⟩ = some (.int .i64 2) := by rw [cell_of_row V0 KB 0 _ _ _ hk]; rfl
  have ck1 : V0.cell? ⟨KB, 1, none⟩ = some (.int .i64 0) := by rw [cell_of_row V0 KB 1 _ _ _ hk]; rfl
  have ck2 : V0.cell? ⟨KB, 2, none⟩ = some (.int .i64 1) := by rw [cell_of_row V0 KB 2 _ _ _ hk]; rfl
  have ck3 : V0.cell? ⟨KB, 3, none⟩ = some (.bool false) := by rw [cell_of_row V0 KB 3 _ _ _ hk]; rfl
  have ck4 : V0.cell? ⟨KB, 4, none⟩ = some (.int .i64 1) := by rw [cell_of_row V0 KB 4 _ _ _ hk]; rfl
  have ck5 : V0.cell? ⟨KB, 5, none⟩ = some (.int .i64 a2) := by rw [cell_of_row V0 KB 5 _ _ _ hk]; rfl
  have ck6 : V0.cell? ⟨KB, 6, none⟩ = some (.slice none 0 0) := by rw [cell_of_row V0 KB 6 _ _ _ hk]; rfl
  have ck7 : V0.cell? ⟨KB, 7, none⟩ = some (.slice none 0 0) := by rw [cell_of_row V0 KB 7 _ _ _ hk]; rfl
  have cj0 : V0.cell? ⟨JB, 0, none⟩ = some (.int .i64 2) := by rw [cell_of_row V0 JB 0 _ _ _ hj]; rfl
  have cj1 : V0.cell? ⟨JB, 1, none⟩ = some (.int .i64 0) := by rw [cell_of_row V0 JB 1 _ _ _ hj]; rfl
  have cj2 : V0.cell? ⟨JB, 2, none⟩ = some (.int .i64 1) := by rw [cell_of_row V0 JB 2 _ _ _ hj]; rfl
  have cj3 : V0.cell? ⟨JB, 3, none⟩ = some (.bool false) := by rw [cell_of_row V0 JB 3 _ _ _ hj]; rfl
  have cj4 : V0.cell? ⟨JB, 4, none⟩ = some (.int .i64 1) := by rw [cell_of_row V0 JB 4 _ _ _ hj]; rfl
  have cj5 : V0.cell? ⟨JB, 5, none⟩ = some (.int .i64 a3) := by rw [cell_of_row V0 JB 5 _ _ _ hj]; rfl
  have cj6 : V0.cell? ⟨JB, 6, none⟩ = some (.slice none 0 0) := by rw [cell_of_row V0 JB 6 _ _ _ hj]; rfl
  have cj7 : V0.cell? ⟨JB, 7, none⟩ = some (.slice none 0 0) := by rw [cell_of_row V0 JB 7 _ _ _ hj]; rfl
  have HLb := Lib.hid (rdT1_lits V0 #[.int .i64 2, .int .i64 0, .int .i64 1, .bool false, .int .i64 1, .int .i64 a2, .slice none 0 0, .slice none 0 0, .int .i64 2, .int .i64 0, .int .i64 1, .bool false, .int .i64 1, .int .i64 a3, .slice none 0 0, .slice none 0 0] 2 5 [kpT a2, kpT a3] [cellsP 2 0 1 ⟨false, 1, a2, []⟩ (.slice none 0 0) (.slice none 0 0), cellsP 2 0 1 ⟨false, 1, a3, []⟩ (.slice none 0 0) (.slice none 0 0)] (by rfl) (by rfl) (rdTs_two (rdT1_kp V0 a2) (rdT1_kp V0 a3)))
  have HKb := Lib.hid (key_any (.mk 5 0 0 zeroV [kpT a2, kpT a3]) (by have h1 := small_kp a2; have h2 := small_kp a3; have h3 := small_tr; have h4 := HPP.out; have h5 := nodes_cnt pp; simp only [depT, depL, cntT, cntL, nodesT, nodesL, zeroV, List.length_nil, List.length_cons]; omega) (by have h1 := small_kp a2; have h2 := small_kp a3; have h3 := small_tr; have h4 := HPP.out; have h5 := nodes_cnt pp; simp only [depT, depL, cntT, cntL, nodesT, nodesL, zeroV, List.length_nil, List.length_cons]; omega) (by have h1 := small_kp a2; have h2 := small_kp a3; have h3 := small_tr; have h4 := HPP.out; have h5 := nodes_cnt pp; simp only [depT, depL, cntT, cntL, nodesT, nodesL, zeroV, List.length_nil, List.length_cons]; omega) _ _ HLb.out)
  have hkvb : keyNV (.mk 5 0 0 zeroV [kpT a2, kpT a3]) = 0 := by unfold keyNV; rw [key_or a2 a3]; rfl
  have hkbb : keyNB (.mk 5 0 0 zeroV [kpT a2, kpT a3]) = false := by unfold keyNB; rw [key_or a2 a3]; rfl
  rw [hkvb, hkbb] at HKb
  clear hkvb hkbb
  unfold cellsP at HKb
  go_wp2_with fail
  refine HKb.out.mono ?_
  rintro e V1 ⟨rfl, hbx⟩
  have hby := below_then (below_alloc V0 (.cells #[.int .i64 2, .int .i64 0, .int .i64 1, .bool false, .int .i64 1, .int .i64 a2, .slice none 0 0, .slice none 0 0, .int .i64 2, .int .i64 0, .int .i64 1, .bool false, .int .i64 1, .int .i64 a3, .slice none 0 0, .slice none 0 0] 31)) hbx
  clear ck0 ck1 ck2 ck3 ck4 ck5 ck6 ck7
  clear cj0 cj1 cj2 cj3 cj4 cj5 cj6 cj7
  replace hk : V1.heap[KB]? = some (.cells #[.int .i64 2, .int .i64 0, .int .i64 1, .bool false, .int .i64 1, .int .i64 a2, .slice none 0 0, .slice none 0 0] 31 (0, 0)) := (hby.block KB (Array.getElem?_eq_some_iff.1 hk).1).trans hk
  replace hj : V1.heap[JB]? = some (.cells #[.int .i64 2, .int .i64 0, .int .i64 1, .bool false, .int .i64 1, .int .i64 a3, .slice none 0 0, .slice none 0 0] 31 (0, 0)) := (hby.block JB (Array.getElem?_eq_some_iff.1 hj).1).trans hj
  replace hp : V1.heap[PB]? = some (.cells #[.int .i64 pk, .int .i64 pc, .int .i64 po, .bool pu, .int .i64 pvk, .int .i64 pvn, .slice psa psn psc, .slice pla pln plc] 31 (0, 0)) := (hby.block PB (Array.getElem?_eq_some_iff.1 hp).1).trans hp
  have HBb := Lib.hid (below_then HBa.out hby)
  have HRb := Lib.hid (RdT1.kept hby _ HRa.out)
  clear hbx hby
  go_upto_region 7 with (fail)
  have ck0 : V1.cell? ⟨KB, 0, none⟩ = some (.int .i64 2) := by rw [cell_of_row V1 KB 0 _ _ _ hk]; rfl
  have ck1 : V1.cell? ⟨KB, 1, none⟩ = some (.int .i64 0) := by rw [cell_of_row V1 KB 1 _ _ _ hk]; rfl
  have ck2 : V1.cell? ⟨KB, 2, none⟩ = some (.int .i64 1) := by rw [cell_of_row V1 KB 2 _ _ _ hk]; rfl
  have ck3 : V1.cell? ⟨KB, 3, none⟩ = some (.bool false) := by rw [cell_of_row V1 KB 3 _ _ _ hk]; rfl
  have ck4 : V1.cell? ⟨KB, 4, none⟩ = some (.int .i64 1) := by rw [cell_of_row V1 KB 4 _ _ _ hk]; rfl
  have ck5 : V1.cell? ⟨KB, 5, none⟩ = some (.int .i64 a2) := by rw [cell_of_row V1 KB 5 _ _ _ hk]; rfl
  have ck6 : V1.cell? ⟨KB, 6, none⟩ = some (.slice none 0 0) := by rw [cell_of_row V1 KB 6 _ _ _ hk]; rfl
  have ck7 : V1.cell? ⟨KB, 7, none⟩ = some (.slice none 0 0) := by rw [cell_of_row V1 KB 7 _ _ _ hk]; rfl
  have HLc := Lib.hid (rdT1_lits V1 #[.int .i64 2, .int .i64 0, .int .i64 1, .bool false, .int .i64 1, .int .i64 a2, .slice none 0 0, .slice none 0 0] 1 6 [kpT a2] [cellsP 2 0 1 ⟨false, 1, a2, []⟩ (.slice none 0 0) (.slice none 0 0)] (by rfl) (by rfl) (rdTs_one (rdT1_kp V1 a2)))
  have HKc := Lib.hid (key_any (.mk 6 0 0 zeroV [kpT a2]) (by have h1 := small_kp a2; have h2 := small_kp a3; have h3 := small_tr; have h4 := HPP.out; have h5 := nodes_cnt pp; simp only [depT, depL, cntT, cntL, nodesT, nodesL, zeroV, List.length_nil, List.length_cons]; omega) (by have h1 := small_kp a2; have h2 := small_kp a3; have h3 := small_tr; have h4 := HPP.out; have h5 := nodes_cnt pp; simp only [depT, depL, cntT, cntL, nodesT, nodesL, zeroV, List.length_nil, List.length_cons]; omega) (by have h1 := small_kp a2; have h2 := small_kp a3; have h3 := small_tr; have h4 := HPP.out; have h5 := nodes_cnt pp; simp only [depT, depL, cntT, cntL, nodesT, nodesL, zeroV, List.length_nil, List.length_cons]; omega) _ _ HLc.out)
  have hkvc : keyNV (.mk 6 0 0 zeroV [kpT a2]) = 0 := by unfold keyNV; rw [key_not a2]; rfl
  have hkbc : keyNB (.mk 6 0 0 zeroV [kpT a2]) = false := by unfold keyNB; rw [key_not a2]; rfl
  rw [hkvc, hkbc] at HKc
  clear hkvc hkbc
  unfold cellsP at HKc
  go_wp2_with fail
  refine HKc.out.mono ?_
  rintro e V2 ⟨rfl, hbx⟩
  have hby := below_then (below_alloc V1 (.cells #[.int .i64 2, .int .i64 0, .int .i64 1, .bool false, .int .i64 1, .int .i64 a2, .slice none 0 0, .slice none 0 0] 31)) hbx
  clear ck0 ck1 ck2 ck3 ck4 ck5 ck6 ck7
  replace hk : V2.heap[KB]? = some (.cells #[.int .i64 2, .int .i64 0, .int .i64 1, .bool false, .int .i64 1, .int .i64 a2, .slice none 0 0, .slice none 0 0] 31 (0, 0)) := (hby.block KB (Array.getElem?_eq_some_iff.1 hk).1).trans hk
  replace hj : V2.heap[JB]? = some (.cells #[.int .i64 2, .int .i64 0, .int .i64 1, .bool false, .int .i64 1, .int .i64 a3, .slice none 0 0, .slice none 0 0] 31 (0, 0)) := (hby.block JB (Array.getElem?_eq_some_iff.1 hj).1).trans hj
  replace hp : V2.heap[PB]? = some (.cells #[.int .i64 pk, .int .i64 pc, .int .i64 po, .bool pu, .int .i64 pvk, .int .i64 pvn, .slice psa psn psc, .slice pla pln plc] 31 (0, 0)) := (hby.block PB (Array.getElem?_eq_some_iff.1 hp).1).trans hp
  have HBc := Lib.hid (below_then HBb.out hby)
  have HRc := Lib.hid (RdT1.kept hby _ HRb.out)
  clear hbx hby
  go_upto_region 8 with (fail)
  have cp0 : V2.cell? ⟨PB, 0, none⟩ = some (.int .i64 pk) := by rw [cell_of_row V2 PB 0 _ _ _ hp]; rfl
  have cp1 : V2.cell? ⟨PB, 1, none⟩ = some (.int .i64 pc) := by rw [cell_of_row V2 PB 1 _ _ _ hp]; rfl
  have cp2 : V2.cell? ⟨PB, 2, none⟩ = some (.int .i64 po) := by rw [cell_of_row V2 PB 2 _ _ _ hp]; rfl
  have cp3 : V2.cell? ⟨PB, 3, none⟩ = some (.bool pu) := by rw [cell_of_row V2 PB 3 _ _ _ hp]; rfl
  have cp4 : V2.cell? ⟨PB, 4, none⟩ = some (.int .i64 pvk) := by rw [cell_of_row V2 PB 4 _ _ _ hp]; rfl
  have cp5 : V2.cell? ⟨PB, 5, none⟩ = some (.int .i64 pvn) := by rw [cell_of_row V2 PB 5 _ _ _ hp]; rfl
  have cp6 : V2.cell? ⟨PB, 6, none⟩ = some (.slice psa psn psc) := by rw [cell_of_row V2 PB 6 _ _ _ hp]; rfl
  have cp7 : V2.cell? ⟨PB, 7, none⟩ = some (.slice pla pln plc) := by rw [cell_of_row V2 PB 7 _ _ _ hp]; rfl
  obtain ⟨a, hna, ha32, hax⟩ := HTWO.out
  have hnt : normT pp = some (.mk 5 0 0 zeroV (a.map fun x => .mk 4 0 0 zeroV x)) := by unfold normT; rw [hna]; rfl
  have HNA := Lib.hid hna
  have HAX := Lib.hid hax
  have HNM := Lib.hid (norm_any pp (by have h4 := HPP.out; have h5 := nodes_cnt pp; omega) (by have h4 := HPP.out; have h5 := nodes_cnt pp; omega) (by have h4 := HPP.out; have h5 := nodes_cnt pp; omega) _ V2 HRc.out)
  rw [hnt] at HNM
  obtain ⟨na, hna2⟩ : ∃ na, na = a.length := ⟨_, rfl⟩
  have HNL := Lib.hid hna2
  clear hna hax hnt
  go_wp2_with fail
  refine HNM.out.mono ?_
  rintro e V3 ⟨hret, hby⟩
  obtain ⟨cs', rfl, ha⟩ : ∃ cs' : List Value, e = .returned (.tuple #[.agg cs'.toArray, .bool true]) ∧ RdA1 _ V3 (.mk 5 0 0 zeroV (a.map fun x => .mk 4 0 0 zeroV x)) cs' := hret
  obtain ⟨sa1, sc1, ea1, css1, ec1, rfl, hs1, hr1⟩ := rdA1_cells ha
  rw [List.length_map, ← hna2]
  rw [← hna2] at ha32
  unfold cellsP
  clear ha hs1 hr1 hna2 cp0 cp1 cp2 cp3 cp4 cp5 cp6 cp7
  replace hk : V3.heap[KB]? = some (.cells #[.int .i64 2, .int .i64 0, .int .i64 1, .bool false, .int .i64 1, .int .i64 a2, .slice none 0 0, .slice none 0 0] 31 (0, 0)) := (hby.block KB (Array.getElem?_eq_some_iff.1 hk).1).trans hk
  replace hp : V3.heap[PB]? = some (.cells #[.int .i64 pk, .int .i64 pc, .int .i64 po, .bool pu, .int .i64 pvk, .int .i64 pvn, .slice psa psn psc, .slice pla pln plc] 31 (0, 0)) := (hby.block PB (Array.getElem?_eq_some_iff.1 hp).1).trans hp
  have HBd := Lib.hid (below_then HBc.out hby)
  have HRd := Lib.hid (RdT1.kept hby _ HRc.out)
  clear hby hj
  go_upto_region 9 with (fail)
  obtain ⟨V4, hV4⟩ : ∃ V4 : World, V4 = V3.alloc (.cells #[.int .i64 5, .int .i64 0, .int .i64 0, .bool zeroV.u, .int .i64 zeroV.k, .int .i64 zeroV.n, .slice sa1 zeroV.b.length sc1, .slice ea1 na ec1] 31) := ⟨_, rfl⟩
  rw [← hV4]
  have hby : Below V3.heap.size V3 V4 := by rw [hV4]; exact below_alloc _ _
  have ho : V4.heap[V3.heap.size]? = some (.cells #[.int .i64 5, .int .i64 0, .int .i64 0, .bool zeroV.u, .int .i64 zeroV.k, .int .i64 zeroV.n, .slice sa1 zeroV.b.length sc1, .slice ea1 na ec1] 31 (0, 0)) := by rw [hV4]; exact heap_alloc_new V3 _
  replace hk : V4.heap[KB]? = some (.cells #[.int .i64 2, .int .i64 0, .int .i64 1, .bool false, .int .i64 1, .int .i64 a2, .slice none 0 0, .slice none 0 0] 31 (0, 0)) := (hby.block KB (Array.getElem?_eq_some_iff.1 hk).1).trans hk
  replace hp : V4.heap[PB]? = some (.cells #[.int .i64 pk, .int .i64 pc, .int .i64 po, .bool pu, .int .i64 pvk, .int .i64 pvn, .slice psa psn psc, .slice pla pln plc] 31 (0, 0)) := (hby.block PB (Array.getElem?_eq_some_iff.1 hp).1).trans hp
  have HBe := Lib.hid (below_then HBd.out hby)
  have HRe := Lib.hid (RdT1.kept hby _ HRd.out)
  obtain ⟨OB, hOB⟩ : ∃ OB, OB = V3.heap.size := ⟨_, rfl⟩
  rw [← hOB] at ho ⊢
  clear hV4 hby hOB
  have ck0 : V4.cell? ⟨KB, 0, none⟩ = some (.int .i64 2) := by rw [cell_of_row V4 KB 0 _ _ _ hk]; rfl
  have ck1 : V4.cell? ⟨KB, 1, none⟩ = some (.int .i64 0) := by rw [cell_of_row V4 KB 1 _ _ _ hk]; rfl
  have ck2 : V4.cell? ⟨KB, 2, none⟩ = some (.int .i64 1) := by rw [cell_of_row V4 KB 2 _ _ _ hk]; rfl
  have ck3 : V4.cell? ⟨KB, 3, none⟩ = some (.bool false) := by rw [cell_of_row V4 KB 3 _ _ _ hk]; rfl
  have ck4 : V4.cell? ⟨KB, 4, none⟩ = some (.int .i64 1) := by rw [cell_of_row V4 KB 4 _ _ _ hk]; rfl
  have ck5 : V4.cell? ⟨KB, 5, none⟩ = some (.int .i64 a2) := by rw [cell_of_row V4 KB 5 _ _ _ hk]; rfl
  have ck6 : V4.cell? ⟨KB, 6, none⟩ = some (.slice none 0 0) := by rw [cell_of_row V4 KB 6 _ _ _ hk]; rfl
  have ck7 : V4.cell? ⟨KB, 7, none⟩ = some (.slice none 0 0) := by rw [cell_of_row V4 KB 7 _ _ _ hk]; rfl
  have cp0 : V4.cell? ⟨PB, 0, none⟩ = some (.int .i64 pk) := by rw [cell_of_row V4 PB 0 _ _ _ hp]; rfl
  have cp1 : V4.cell? ⟨PB, 1, none⟩ = some (.int .i64 pc) := by rw [cell_of_row V4 PB 1 _ _ _ hp]; rfl
  have cp2 : V4.cell? ⟨PB, 2, none⟩ = some (.int .i64 po) := by rw [cell_of_row V4 PB 2 _ _ _ hp]; rfl
  have cp3 : V4.cell? ⟨PB, 3, none⟩ = some (.bool pu) := by rw [cell_of_row V4 PB 3 _ _ _ hp]; rfl
  have cp4 : V4.cell? ⟨PB, 4, none⟩ = some (.int .i64 pvk) := by rw [cell_of_row V4 PB 4 _ _ _ hp]; rfl
  have cp5 : V4.cell? ⟨PB, 5, none⟩ = some (.int .i64 pvn) := by rw [cell_of_row V4 PB 5 _ _ _ hp]; rfl
  have cp6 : V4.cell? ⟨PB, 6, none⟩ = some (.slice psa psn psc) := by rw [cell_of_row V4 PB 6 _ _ _ hp]; rfl
  have cp7 : V4.cell? ⟨PB, 7, none⟩ = some (.slice pla pln plc) := by rw [cell_of_row V4 PB 7 _ _ _ hp]; rfl
  have HLd := Lib.hid (rdT1_lits V4 #[.int .i64 2, .int .i64 0, .int .i64 1, .bool false, .int .i64 1, .int .i64 a2, .slice none 0 0, .slice none 0 0, .int .i64 pk, .int .i64 pc, .int .i64 po, .bool pu, .int .i64 pvk, .int .i64 pvn, .slice psa psn psc, .slice pla pln plc] 2 4 [kpT a2, pp] [cellsP 2 0 1 ⟨false, 1, a2, []⟩ (.slice none 0 0) (.slice none 0 0), [.int .i64 pk, .int .i64 pc, .int .i64 po, .bool pu, .int .i64 pvk, .int .i64 pvn, .slice psa psn psc, .slice pla pln plc]] (by rfl) (by rfl) (rdTs_two (rdT1_kp V4 a2) HRe.out))
  have HKd := Lib.hid (key_any (.mk 4 0 0 zeroV [kpT a2, pp]) (by have h1 := small_kp a2; have h2 := small_kp a3; have h3 := small_tr; have h4 := HPP.out; have h5 := nodes_cnt pp; simp only [depT, depL, cntT, cntL, nodesT, nodesL, zeroV, List.length_nil, List.length_cons]; omega) (by have h1 := small_kp a2; have h2 := small_kp a3; have h3 := small_tr; have h4 := HPP.out; have h5 := nodes_cnt pp; simp only [depT, depL, cntT, cntL, nodesT, nodesL, zeroV, List.length_nil, List.length_cons]; omega) (by have h1 := small_kp a2; have h2 := small_kp a3; have h3 := small_tr; have h4 := HPP.out; have h5 := nodes_cnt pp; simp only [depT, depL, cntT, cntL, nodesT, nodesL, zeroV, List.length_nil, List.length_cons]; omega) _ _ HLd.out)
  have hkk := key_with a2 pp HNA.out (by rw [← HNL.out]; exact ha32) HAX.out
  rw [← HNL.out] at hkk
  have hkb : keyNB (.mk 4 0 0 zeroV [kpT a2, pp]) = decide (na = 1) := by unfold keyNB; rw [hkk]; by_cases h : na = 1 <;> simp [h]
  have hkv : keyNV (.mk 4 0 0 zeroV [kpT a2, pp]) = if na = 1 then a2 else 0 := by unfold keyNV; rw [hkk]; by_cases h : na = 1 <;> simp [h]
  rw [hkb, hkv] at HKd
  have HOC := Lib.hid ho
  unfold cellsP at HKd
  clear hkk hkb hkv ho
  by_cases hn1 : na = 1
  all_goals
    first
      | rw [if_pos hn1, decide_eq_true hn1] at HKd
      | rw [if_neg hn1, decide_eq_false hn1] at HKd
    go_wp2_with fail
    refine HKd.out.mono ?_
    rintro e V5 ⟨rfl, hbx⟩
    have hby := below_then (below_alloc V4 (.cells #[.int .i64 2, .int .i64 0, .int .i64 1, .bool false, .int .i64 1, .int .i64 a2, .slice none 0 0, .slice none 0 0, .int .i64 pk, .int .i64 pc, .int .i64 po, .bool pu, .int .i64 pvk, .int .i64 pvn, .slice psa psn psc, .slice pla pln plc] 31)) hbx
    have ho := (hby.block OB (Array.getElem?_eq_some_iff.1 HOC.out).1).trans HOC.out
    have co7 : V5.cell? ⟨OB, 7, none⟩ = some (.slice ea1 na ec1) := by rw [cell_of_row V5 OB 7 _ _ _ ho]; rfl
    have HBf := Lib.hid (below_then HBe.out hby)
    have HAW := Lib.hid (awake8_any V5)
    have q1 : ((na : Int) == 1) = decide (na = 1) := by by_cases h : na = 1 <;> simp [h] <;> omega
    first
      | rw [decide_eq_true hn1] at q1
      | rw [decide_eq_false hn1] at q1
    clear hbx hby ho
    clear hn1
    go_wp2_with fail
    refine HAW.out.mono ?_
    rintro e V6 ⟨rfl, hbz⟩
    have HBz := Lib.hid (below_then HBf.out hbz)
    clear hbz
    go_wp2_with fail
    go_ret
    exact ⟨rfl, HBz.out⟩

end Go.Proofs.Ytfmkalnnpddefaa
