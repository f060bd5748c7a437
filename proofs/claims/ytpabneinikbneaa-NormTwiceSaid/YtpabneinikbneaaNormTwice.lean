/-
  The walk of NormTwice.
-/
import Derived.Test.YtpabneinikbneaaOke
import Derived.Test.YtpabneinikbneaaAwake8
namespace Go.Proofs.Ytpabneinikbneaa
set_option linter.unusedVariables false
set_option linter.unusedSimpArgs false
open Go.RowKit

set_option maxRecDepth 100000 in
set_option maxHeartbeats 32000000 in
theorem walk_NormTwice (a0 : Int) (a1 : Option Addr) (len1 cap1 : Nat) (z1 : List Int) (w : World) (w0 : (Lit.int .i64 a0).wf = true) (w1 : IsRow .i64 w a1 len1 cap1 z1) :
    Calls Try.prog 4 #[.int .i64 a0, .slice a1 len1 cap1] w fun e w' => e = .returned (.bool true) ∧ Below w.heap.size w w' := by
  obtain ⟨la, hla, h1, _⟩ := isRow_rd w1
  have HLA := Lib.hid hla
  have HR1 := Lib.hid h1
  have HS := Lib.hid (schema_rd a0 w)
  have HOK := Lib.hid (colsN_ok a0)
  clear hla h1 w0 w1
  go_enter Try.func4, Try.ntmps4
  go_wp2_with fail
  refine HS.out.mono ?_
  rintro e W1 ⟨so, sc, rfl, hs1, hb1⟩
  obtain ⟨sn, hsn⟩ : ∃ sn, sn = (colsN a0).length := ⟨_, rfl⟩
  have hc1 := rdC_of hs1
  rw [← hsn] at hs1 hc1 ⊢
  have HSN := Lib.hid hsn
  have hc2 := RdC.kept hc1 (below_alloc W1 (.cells #[.slice so sn sc] 24))
  have HB1 := Lib.hid (below_lay hb1 (.cells #[.slice so sn sc] 24))
  have HC1 := Lib.hid hc2
  have hsb := heap_alloc_new W1 (.cells #[.slice so sn sc] 24)
  have HP := Lib.hid (lawpred_any (colsN a0) HOK.out.ne HOK.out.le la 3 (by decide) 0 (.slice so sn sc) a1 len1 cap1 (W1.alloc (.cells #[.slice so sn sc] 24)) (by decide) HLA.out.symm hc2 (HR1.out.kept HB1.out))
  obtain ⟨pp, hpp⟩ : ∃ pp, pp = predOf (colsN a0) la 3 0 := ⟨_, rfl⟩
  have HPP := Lib.hid (show depT pp ≤ 5 ∧ cntT pp ≤ 2048 by
    have h := predOf_small (colsN a0) la 3 0
    rw [← hpp] at h
    have h4 : (8 : Nat) * 4 ^ 3 = 512 := by decide
    rw [h4] at h
    omega)
  have HPR := Lib.hid (show okR (colsN a0) pp from hpp ▸ predOf_okR HOK.out la 3 0)
  rw [← hpp] at HP
  clear hs1 hc1 hc2 hb1 hsn hpp
  go_wp2_with fail
  refine HP.out.mono ?_
  rintro e W2 ⟨cs, rfl, ha, hb2⟩
  replace hsb := (hb2.block W1.heap.size (by simp)).trans hsb
  have HC2 := Lib.hid (RdC.kept HC1.out hb2)
  have HB2 := Lib.hid (below_then HB1.out hb2)
  have hrd := RdA1.rd _ ha
  obtain ⟨pk, pc, po, pvk, pvn, pu, psa, psn, psc, pla, pln, plc, hcs⟩ := rdA1_shape ha
  subst hcs
  have HRD := Lib.hid hrd
  obtain ⟨SB, hSB⟩ : ∃ SB, SB = W1.heap.size := ⟨_, rfl⟩
  rw [← hSB] at hsb ⊢
  clear hrd ha hb2 HP hSB
  obtain ⟨nr, hnr⟩ : ∃ nr, nr = nrm pp false := ⟨_, rfl⟩
  have HNR := Lib.hid hnr
  have hnt : normT pp = nr.map fun a => .mk 5 0 0 zeroV (a.map fun x => .mk 4 0 0 zeroV x) := by rw [hnr]; rfl
  have hnd : nodesT pp ≤ 4096 := by have h1 := nodes_cnt pp; have h2 := HPP.out; omega
  have HNM := Lib.hid (norm_any pp (by have h2 := HPP.out; omega) (by have h2 := HPP.out; omega) hnd _ W2 HRD.out)
  rw [hnt] at HNM
  clear hnr hnt hnd
  go_wp2_with fail
  refine HNM.out.mono ?_
  rintro e V3 ⟨hret, hby⟩
  replace hsb := (hby.block SB (Array.getElem?_eq_some_iff.1 hsb).1).trans hsb
  have HB5 := Lib.hid (below_then HB2.out hby)
  have HC5 := Lib.hid (RdC.kept HC2.out hby)
  clear hby
  cases nr with
  | none =>
    obtain rfl : e = .returned (.tuple #[.agg #[.int .i64 0, .int .i64 0, .int .i64 0, .bool false, .int .i64 0, .int .i64 0, .slice none 0 0, .slice none 0 0], .bool false]) := hret
    have HB6 := Lib.hid (below_lay HB5.out (.cells #[.int .i64 0, .int .i64 0, .int .i64 0, .bool false, .int .i64 0, .int .i64 0, .slice none 0 0, .slice none 0 0] 31))
    clear hsb
    go_wp2_with fail
    refine (awake8_any _).mono ?_
    rintro e w5 ⟨rfl, hb5⟩
    have HF := Lib.hid (below_then HB6.out hb5)
    clear hb5
    go_wp2_with fail
    go_ret
    exact ⟨rfl, HF.out⟩
  | some a =>
    obtain ⟨cs', rfl, ha⟩ : ∃ cs' : List Value, e = .returned (.tuple #[.agg cs'.toArray, .bool true]) ∧ RdA1 W2.heap.size V3 (.mk 5 0 0 zeroV (a.map fun x => .mk 4 0 0 zeroV x)) cs' := hret
    have hax := RdA1.rd _ ha
    obtain ⟨sa1, sc1, ea1, css1, ec1, rfl, hs1, hr1⟩ := rdA1_cells ha
    obtain ⟨na, hna⟩ : ∃ na, na = (a.map fun x => Pt.mk 4 0 0 zeroV x).length := ⟨_, rfl⟩
    have HNA := Lib.hid hna
    rw [← hna] at hax ⊢
    unfold cellsP at hax ⊢
    have HAX := Lib.hid hax
    have HSM := Lib.hid (nrm_small pp false HNR.out.symm)
    have HTS := Lib.hid (things_S HPR.out HNR.out.symm)
    have HFS := Lib.hid (form_small HSM.out HTS.out)
    obtain ⟨fm, hfm⟩ : ∃ fm, fm = Pt.mk 5 0 0 zeroV (a.map fun x => .mk 4 0 0 zeroV x) := ⟨_, rfl⟩
    have HFR := Lib.hid (show RightOK (colsN a0) fm from hfm ▸ form_right HSM.out fun x hx t ht => (HTS.out x hx t ht).1)
    have HFT := Lib.hid (show normT fm = some fm by
      rw [hfm]
      unfold normT
      rw [nrm_form HNR.out.symm]
      rfl)
    have HFE := Lib.hid (show fm = Pt.mk 5 0 0 zeroV (a.map fun x => .mk 4 0 0 zeroV x) from hfm)
    rw [← hfm] at HAX HFS
    clear ha hs1 hr1 hna hax hfm
    go_upto_region 3 with (fail)
    obtain ⟨V4, hV4⟩ : ∃ V4 : World, V4 = V3.alloc (.cells #[.int .i64 5, .int .i64 0, .int .i64 0, .bool zeroV.u, .int .i64 zeroV.k, .int .i64 zeroV.n, .slice sa1 zeroV.b.length sc1, .slice ea1 na ec1] 31) := ⟨_, rfl⟩
    rw [← hV4]
    have hby : Below V3.heap.size V3 V4 := by rw [hV4]; exact below_alloc _ _
    have hx : V4.heap[V3.heap.size]? = some (.cells #[.int .i64 5, .int .i64 0, .int .i64 0, .bool zeroV.u, .int .i64 zeroV.k, .int .i64 zeroV.n, .slice sa1 zeroV.b.length sc1, .slice ea1 na ec1] 31 (0, 0)) := by rw [hV4]; exact heap_alloc_new V3 _
    replace hsb := (hby.block SB (Array.getElem?_eq_some_iff.1 hsb).1).trans hsb
    obtain ⟨XB, hXB⟩ : ∃ XB, XB = V3.heap.size := ⟨_, rfl⟩
    rw [← hXB] at hx ⊢
    have HB6 := Lib.hid (below_then HB5.out hby)
    have HC6 := Lib.hid (RdC.kept HC5.out hby)
    have HX6 := Lib.hid (RdT1.kept hby _ HAX.out)
    have cs0 : V4.cell? ⟨SB, 0, none⟩ = some (.slice so sn sc) := by rw [cell_of_row V4 SB 0 _ _ _ hsb]; rfl
    clear hby hV4 hXB
    have cx0 : V4.cell? ⟨XB, 0, none⟩ = some (.int .i64 5) := by rw [cell_of_row V4 XB 0 _ _ _ hx]; rfl
    have cx1 : V4.cell? ⟨XB, 1, none⟩ = some (.int .i64 0) := by rw [cell_of_row V4 XB 1 _ _ _ hx]; rfl
    have cx2 : V4.cell? ⟨XB, 2, none⟩ = some (.int .i64 0) := by rw [cell_of_row V4 XB 2 _ _ _ hx]; rfl
    have cx3 : V4.cell? ⟨XB, 3, none⟩ = some (.bool zeroV.u) := by rw [cell_of_row V4 XB 3 _ _ _ hx]; rfl
    have cx4 : V4.cell? ⟨XB, 4, none⟩ = some (.int .i64 zeroV.k) := by rw [cell_of_row V4 XB 4 _ _ _ hx]; rfl
    have cx5 : V4.cell? ⟨XB, 5, none⟩ = some (.int .i64 zeroV.n) := by rw [cell_of_row V4 XB 5 _ _ _ hx]; rfl
    have cx6 : V4.cell? ⟨XB, 6, none⟩ = some (.slice sa1 zeroV.b.length sc1) := by rw [cell_of_row V4 XB 6 _ _ _ hx]; rfl
    have cx7 : V4.cell? ⟨XB, 7, none⟩ = some (.slice ea1 na ec1) := by rw [cell_of_row V4 XB 7 _ _ _ hx]; rfl
    have HQ := Lib.hid (okpred_some (colsN a0) fm HFR.out _ (.slice so sn sc) V4 HC6.out HX6.out)
    go_wp2_with fail
    refine HQ.out.mono ?_
    rintro e V5 ⟨bb, rfl, hby⟩
    replace hsb := (hby.block SB (Array.getElem?_eq_some_iff.1 hsb).1).trans hsb
    replace hx := (hby.block XB (Array.getElem?_eq_some_iff.1 hx).1).trans hx
    have HB7 := Lib.hid (below_then HB6.out hby)
    have HX7 := Lib.hid (RdT1.kept hby _ HX6.out)
    clear hby cs0 cx0 cx1 cx2 cx3 cx4 cx5 cx6 cx7
    cases bb
    · clear hsb hx
      go_wp2_with fail
      refine (awake8_any _).mono ?_
      rintro e w5 ⟨rfl, hb5⟩
      have HF := Lib.hid (below_then HB7.out hb5)
      clear hb5
      go_wp2_with fail
      go_ret
      exact ⟨rfl, HF.out⟩
    · have HN2 := Lib.hid (norm_any fm (by have h := HFS.out; omega) HFS.out.2.1 HFS.out.2.2 _ V5 HX7.out)
      rw [HFT.out] at HN2
      have cx0 : V5.cell? ⟨XB, 0, none⟩ = some (.int .i64 5) := by rw [cell_of_row V5 XB 0 _ _ _ hx]; rfl
      have cx1 : V5.cell? ⟨XB, 1, none⟩ = some (.int .i64 0) := by rw [cell_of_row V5 XB 1 _ _ _ hx]; rfl
      have cx2 : V5.cell? ⟨XB, 2, none⟩ = some (.int .i64 0) := by rw [cell_of_row V5 XB 2 _ _ _ hx]; rfl
      have cx3 : V5.cell? ⟨XB, 3, none⟩ = some (.bool zeroV.u) := by rw [cell_of_row V5 XB 3 _ _ _ hx]; rfl
      have cx4 : V5.cell? ⟨XB, 4, none⟩ = some (.int .i64 zeroV.k) := by rw [cell_of_row V5 XB 4 _ _ _ hx]; rfl
      have cx5 : V5.cell? ⟨XB, 5, none⟩ = some (.int .i64 zeroV.n) := by rw [cell_of_row V5 XB 5 _ _ _ hx]; rfl
      have cx6 : V5.cell? ⟨XB, 6, none⟩ = some (.slice sa1 zeroV.b.length sc1) := by rw [cell_of_row V5 XB 6 _ _ _ hx]; rfl
      have cx7 : V5.cell? ⟨XB, 7, none⟩ = some (.slice ea1 na ec1) := by rw [cell_of_row V5 XB 7 _ _ _ hx]; rfl
      go_wp2_with fail
      refine HN2.out.mono ?_
      rintro e V6 ⟨hret, hby⟩
      obtain ⟨cs2, rfl, ha2⟩ : ∃ cs' : List Value, e = .returned (.tuple #[.agg cs'.toArray, .bool true]) ∧ RdA1 V5.heap.size V6 fm cs' := hret
      have hax2 := RdA1.rd _ ha2
      rw [HFE.out] at ha2
      obtain ⟨sa2, sc2, ea2, css2, ec2, rfl, hs2, hr2⟩ := rdA1_cells ha2
      rw [← HNA.out] at hax2 ⊢
      unfold cellsP at hax2 ⊢
      replace hx := (hby.block XB (Array.getElem?_eq_some_iff.1 hx).1).trans hx
      have HB8 := Lib.hid (below_then HB7.out hby)
      have HX8 := Lib.hid (RdT1.kept hby _ HX7.out)
      have HY8 := Lib.hid hax2
      clear hby ha2 hs2 hr2 hax2 hsb cx0 cx1 cx2 cx3 cx4 cx5 cx6 cx7
      go_upto_region 6 with (fail)
      obtain ⟨V7, hV7⟩ : ∃ V7 : World, V7 = V6.alloc (.cells #[.int .i64 5, .int .i64 0, .int .i64 0, .bool zeroV.u, .int .i64 zeroV.k, .int .i64 zeroV.n, .slice sa2 zeroV.b.length sc2, .slice ea2 na ec2] 31) := ⟨_, rfl⟩
      rw [← hV7]
      have hby : Below V6.heap.size V6 V7 := by rw [hV7]; exact below_alloc _ _
      have hy : V7.heap[V6.heap.size]? = some (.cells #[.int .i64 5, .int .i64 0, .int .i64 0, .bool zeroV.u, .int .i64 zeroV.k, .int .i64 zeroV.n, .slice sa2 zeroV.b.length sc2, .slice ea2 na ec2] 31 (0, 0)) := by rw [hV7]; exact heap_alloc_new V6 _
      replace hx := (hby.block XB (Array.getElem?_eq_some_iff.1 hx).1).trans hx
      obtain ⟨YB, hYB⟩ : ∃ YB, YB = V6.heap.size := ⟨_, rfl⟩
      rw [← hYB] at hy ⊢
      have HB9 := Lib.hid (below_then HB8.out hby)
      have HX9 := Lib.hid (RdT1.kept hby _ HX8.out)
      have HY9 := Lib.hid (RdT1.kept hby _ HY8.out)
      clear hby hV7 hYB
      have cx0 : V7.cell? ⟨XB, 0, none⟩ = some (.int .i64 5) := by rw [cell_of_row V7 XB 0 _ _ _ hx]; rfl
      have cx1 : V7.cell? ⟨XB, 1, none⟩ = some (.int .i64 0) := by rw [cell_of_row V7 XB 1 _ _ _ hx]; rfl
      have cx2 : V7.cell? ⟨XB, 2, none⟩ = some (.int .i64 0) := by rw [cell_of_row V7 XB 2 _ _ _ hx]; rfl
      have cx3 : V7.cell? ⟨XB, 3, none⟩ = some (.bool zeroV.u) := by rw [cell_of_row V7 XB 3 _ _ _ hx]; rfl
      have cx4 : V7.cell? ⟨XB, 4, none⟩ = some (.int .i64 zeroV.k) := by rw [cell_of_row V7 XB 4 _ _ _ hx]; rfl
      have cx5 : V7.cell? ⟨XB, 5, none⟩ = some (.int .i64 zeroV.n) := by rw [cell_of_row V7 XB 5 _ _ _ hx]; rfl
      have cx6 : V7.cell? ⟨XB, 6, none⟩ = some (.slice sa1 zeroV.b.length sc1) := by rw [cell_of_row V7 XB 6 _ _ _ hx]; rfl
      have cx7 : V7.cell? ⟨XB, 7, none⟩ = some (.slice ea1 na ec1) := by rw [cell_of_row V7 XB 7 _ _ _ hx]; rfl
      have cy0 : V7.cell? ⟨YB, 0, none⟩ = some (.int .i64 5) := by rw [cell_of_row V7 YB 0 _ _ _ hy]; rfl
      have cy1 : V7.cell? ⟨YB, 1, none⟩ = some (.int .i64 0) := by rw [cell_of_row V7 YB 1 _ _ _ hy]; rfl
      have cy2 : V7.cell? ⟨YB, 2, none⟩ = some (.int .i64 0) := by rw [cell_of_row V7 YB 2 _ _ _ hy]; rfl
      have cy3 : V7.cell? ⟨YB, 3, none⟩ = some (.bool zeroV.u) := by rw [cell_of_row V7 YB 3 _ _ _ hy]; rfl
      have cy4 : V7.cell? ⟨YB, 4, none⟩ = some (.int .i64 zeroV.k) := by rw [cell_of_row V7 YB 4 _ _ _ hy]; rfl
      have cy5 : V7.cell? ⟨YB, 5, none⟩ = some (.int .i64 zeroV.n) := by rw [cell_of_row V7 YB 5 _ _ _ hy]; rfl
      have cy6 : V7.cell? ⟨YB, 6, none⟩ = some (.slice sa2 zeroV.b.length sc2) := by rw [cell_of_row V7 YB 6 _ _ _ hy]; rfl
      have cy7 : V7.cell? ⟨YB, 7, none⟩ = some (.slice ea2 na ec2) := by rw [cell_of_row V7 YB 7 _ _ _ hy]; rfl
      have HSP := Lib.hid (same_ok _ fm (Nat.le_refl _) (by have h := HFS.out.2.1; omega) fm _ _ V7 HY9.out HX9.out)
      rw [eqP_refl] at HSP
      clear hx hy
      go_wp2_with fail
      refine HSP.out.mono ?_
      rintro e V8 ⟨rfl, hby⟩
      have HB10 := Lib.hid (below_then HB9.out hby)
      clear hby
      go_wp2_with fail
      refine (awake8_any _).mono ?_
      rintro e w5 ⟨rfl, hb5⟩
      have HF := Lib.hid (below_then HB10.out hb5)
      clear hb5
      go_wp2_with fail
      go_ret
      exact ⟨rfl, HF.out⟩

end Go.Proofs.Ytpabneinikbneaa
