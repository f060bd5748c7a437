/-
  The walk of ZoneSafe.
-/
import Derived.Test.YtpabneinikbneaaZsafem
import Derived.Test.YtpabneinikbneaaAwake9
namespace Go.Proofs.Ytpabneinikbneaa
set_option linter.unusedVariables false
set_option linter.unusedSimpArgs false
open Go.RowKit

theorem rows9_bounds {cols : List Co} (h : ColsOk cols) {l : List Int} {w : World} {v : Value} {L : List (List (Vc × Value))} (hm : L.map (fun x => x.map Prod.fst) = rows9 cols l) (hr : RdRs w v L) : ∀ l ∈ L, l.length ≤ 1000 ∧ ∀ t ∈ l, t.1.b.length ≤ 1000000 ∧ ∀ x ∈ t.1.b, x < 256 := by
  intro x hx
  obtain ⟨i, hi, rfl⟩ := List.mem_iff_getElem.1 hx
  have hmem : (L[i].map Prod.fst) ∈ rows9 cols l := by rw [← hm]; exact List.mem_map.2 ⟨_, hx, rfl⟩
  obtain ⟨h1, h2⟩ := rows9_small h hmem
  rw [List.length_map] at h1
  obtain ⟨sls, h3, h4, h5⟩ := hr
  have h6 := h5 i _ _ (List.getElem?_eq_getElem (by rw [h4]; exact hi)) (List.getElem?_eq_getElem hi)
  refine ⟨by omega, fun t ht => ⟨?_, (h6.2 t ht).2⟩⟩
  have := h2 t.1 (List.mem_map.2 ⟨t, ht, rfl⟩)
  omega

set_option maxRecDepth 100000 in
set_option maxHeartbeats 32000000 in
theorem walk_ZoneSafe (a0 : Int) (a1 : Option Addr) (len1 cap1 : Nat) (z1 : List Int) (a2 : Option Addr) (len2 cap2 : Nat) (z2 : List Int) (w : World) (w0 : (Lit.int .i64 a0).wf = true) (w1 : IsRow .i64 w a1 len1 cap1 z1) (w2 : IsRow .i64 w a2 len2 cap2 z2) :
    Calls Try.prog 10 #[.int .i64 a0, .slice a1 len1 cap1, .slice a2 len2 cap2] w fun e w' => e = .returned (.bool true) ∧ Below w.heap.size w w' := by
  obtain ⟨la, hla, h1, _⟩ := isRow_rd w1
  obtain ⟨lb, hlb, h2, _⟩ := isRow_rd w2
  have HLA := Lib.hid hla
  have HLB := Lib.hid hlb
  have HR1 := Lib.hid h1
  have HR2 := Lib.hid h2
  have HS := Lib.hid (schema_rd a0 w)
  have HOK := Lib.hid (colsN_ok a0)
  clear hla h1 hlb h2 w0 w1 w2
  go_enter Try.func10, Try.ntmps10
  go_wp2_with fail
  refine HS.out.mono ?_
  rintro e W1 ⟨so, sc, rfl, hs1, hb1⟩
  obtain ⟨sn, hsn⟩ : ∃ sn, sn = (colsN a0).length := ⟨_, rfl⟩
  have hc1 := rdC_of hs1
  rw [← hsn] at hs1 hc1 ⊢
  have HSN := Lib.hid hsn
  have hc2 := RdC.kept hc1 (below_alloc W1 (.cells #[.slice so sn sc] 24))
  have HB1 := Lib.hid (below_lay hb1 (.cells #[.slice so sn sc] 24))
  have HC1 := Lib.hid hc2
  have hsb := heap_alloc_new W1 (.cells #[.slice so sn sc] 24)
  have HRW := Lib.hid (rows9_any (colsN a0) HOK.out la (.slice so sn sc) a1 len1 cap1 HLA.out.symm (W1.alloc (.cells #[.slice so sn sc] 24)) hc2 (HR1.out.kept HB1.out))
  clear hs1 hc1 hc2 hb1 hsn
  go_wp2_with fail
  refine HRW.out.mono ?_
  rintro e W2 ⟨rv, L, rfl, hm, hrr, hb2⟩
  obtain ⟨ra, rc, rfl⟩ := rdRs_shape hrr
  obtain ⟨rn, hrn⟩ : ∃ rn, rn = L.length := ⟨_, rfl⟩
  rw [← hrn] at hrr ⊢
  replace hsb := (hb2.block W1.heap.size (by simp)).trans hsb
  have HBD := Lib.hid (rows9_bounds HOK.out hm hrr)
  have HM := Lib.hid hm
  have HRN := Lib.hid hrn
  have HRN40 := Lib.hid (show rn ≤ 40 by rw [hrn, ← List.length_map (f := fun x : List (Vc × Value) => x.map Prod.fst), hm, rows9_len]; omega)
  have HRR2 := Lib.hid hrr
  have HC2 := Lib.hid (RdC.kept HC1.out hb2)
  have HB2 := Lib.hid (below_then HB1.out hb2)
  have HZ := Lib.hid (zoneOf_any (colsN a0) (by have := HOK.out.le; omega) L (by have := HRN40.out; omega) (.slice so sn sc) (.slice ra rn rc) W2 HC2.out hrr HBD.out)
  obtain ⟨SB, hSB⟩ : ∃ SB, SB = W1.heap.size := ⟨_, rfl⟩
  rw [← hSB] at hsb ⊢
  clear hm hrr hb2 hrn hSB HRW
  have cs0 : W2.cell? ⟨SB, 0, none⟩ = some (.slice so sn sc) := by rw [cell_of_row W2 SB 0 _ _ _ hsb]; rfl
  go_wp2_with fail
  refine HZ.out.mono ?_
  rintro e W3 ⟨zv, zs, rfl, hzt, hza, hb3⟩
  have hzr : RdZV W3 zv zs := ⟨hza.1.rd, fun z hz => (hza.2 z hz).ok⟩
  obtain ⟨za, zc, rfl⟩ := rdZV_shape hzr
  have hzl : zs.length = sn := by
    have := congrArg List.length hzt
    rw [List.length_map] at this
    rw [this, HSN.out]
    exact List.length_mapIdx
  rw [hzl] at hzr ⊢
  replace hsb := (hb3.block SB (Array.getElem?_eq_some_iff.1 hsb).1).trans hsb
  have HZT := Lib.hid hzt
  have HZL := Lib.hid hzl
  have HZR3 := Lib.hid hzr
  have HC3 := Lib.hid (RdC.kept HC2.out hb3)
  have HRR3 := Lib.hid (HRR2.out.kept hb3)
  have HB3 := Lib.hid (below_then HB2.out hb3)
  have HP := Lib.hid (lawpred_any (colsN a0) HOK.out.ne HOK.out.le lb 4 (by decide) 0 (.slice so sn sc) a2 len2 cap2 W3 (by decide) HLB.out.symm HC3.out (HR2.out.kept HB3.out))
  obtain ⟨pp, hpp⟩ : ∃ pp, pp = predOf (colsN a0) lb 4 0 := ⟨_, rfl⟩
  have HPP := Lib.hid (show depT pp ≤ 5 ∧ cntT pp ≤ 2048 by rw [hpp]; exact predOf_small (colsN a0) lb 4 0)
  have HPE := Lib.hid (show ∀ r ∈ rows9 (colsN a0) la, okE r pp from fun r hr => hpp ▸ predOf_ok9 HOK.out hr lb 4 0)
  have HPK := Lib.hid (show okK (kcOf (colsN a0)) pp from hpp ▸ predOf_okK HOK.out lb 4 0)
  rw [← hpp] at HP
  clear hzt hza hzr hzl hb3 hpp cs0 HZ
  have cs0 : W3.cell? ⟨SB, 0, none⟩ = some (.slice so sn sc) := by rw [cell_of_row W3 SB 0 _ _ _ hsb]; rfl
  go_wp2_with fail
  refine HP.out.mono ?_
  rintro e W4 ⟨cs, rfl, ha, hb4⟩
  replace hsb := (hb4.block SB (Array.getElem?_eq_some_iff.1 hsb).1).trans hsb
  have hrd := RdA1.rd _ ha
  obtain ⟨pk, pc, po, pvk, pvn, pu, psa, psn, psc, pla, pln, plc, hcs⟩ := rdA1_shape ha
  subst hcs
  have HRD := Lib.hid hrd
  have HZR4 := Lib.hid (HZR3.out.kept hb4)
  have HRR4 := Lib.hid (HRR3.out.kept hb4)
  have HB4 := Lib.hid (below_then HB3.out hb4)
  clear hrd ha hb4 HP cs0
  go_upto_region 5 with (fail)
  obtain ⟨W5, hW5⟩ : ∃ W5 : World, W5 = W4.alloc (.cells #[.int .i64 pk, .int .i64 pc, .int .i64 po, .bool pu, .int .i64 pvk, .int .i64 pvn, .slice psa psn psc, .slice pla pln plc] 31) := ⟨_, rfl⟩
  rw [← hW5]
  have hB45 : Below W4.heap.size W4 W5 := by rw [hW5]; exact below_alloc _ _
  have hp : W5.heap[W4.heap.size]? = some (.cells #[.int .i64 pk, .int .i64 pc, .int .i64 po, .bool pu, .int .i64 pvk, .int .i64 pvn, .slice psa psn psc, .slice pla pln plc] 31 (0, 0)) := by rw [hW5]; exact heap_alloc_new W4 _
  replace hsb := (hB45.block SB (Array.getElem?_eq_some_iff.1 hsb).1).trans hsb
  have HB5 := Lib.hid (below_then HB4.out hB45)
  have HZR5 := Lib.hid (HZR4.out.kept hB45)
  have HRR5 := Lib.hid (HRR4.out.kept hB45)
  have HRD5 := Lib.hid (RdT1.kept hB45 _ HRD.out)
  obtain ⟨PB, hPB⟩ : ∃ PB, PB = W4.heap.size := ⟨_, rfl⟩
  rw [← hPB] at hp ⊢
  clear hW5 hB45 hPB
  have cs0 : W5.cell? ⟨SB, 0, none⟩ = some (.slice so sn sc) := by rw [cell_of_row W5 SB 0 _ _ _ hsb]; rfl
  have cp0 : W5.cell? ⟨PB, 0, none⟩ = some (.int .i64 pk) := by rw [cell_of_row W5 PB 0 _ _ _ hp]; rfl
  have cp1 : W5.cell? ⟨PB, 1, none⟩ = some (.int .i64 pc) := by rw [cell_of_row W5 PB 1 _ _ _ hp]; rfl
  have cp2 : W5.cell? ⟨PB, 2, none⟩ = some (.int .i64 po) := by rw [cell_of_row W5 PB 2 _ _ _ hp]; rfl
  have cp3 : W5.cell? ⟨PB, 3, none⟩ = some (.bool pu) := by rw [cell_of_row W5 PB 3 _ _ _ hp]; rfl
  have cp4 : W5.cell? ⟨PB, 4, none⟩ = some (.int .i64 pvk) := by rw [cell_of_row W5 PB 4 _ _ _ hp]; rfl
  have cp5 : W5.cell? ⟨PB, 5, none⟩ = some (.int .i64 pvn) := by rw [cell_of_row W5 PB 5 _ _ _ hp]; rfl
  have cp6 : W5.cell? ⟨PB, 6, none⟩ = some (.slice psa psn psc) := by rw [cell_of_row W5 PB 6 _ _ _ hp]; rfl
  have cp7 : W5.cell? ⟨PB, 7, none⟩ = some (.slice pla pln plc) := by rw [cell_of_row W5 PB 7 _ _ _ hp]; rfl
  have hnd : nodesT pp ≤ 4096 := by have h1 := nodes_cnt pp; have h2 := HPP.out; omega
  have HMY := Lib.hid (may_any pp (by have h2 := HPP.out; omega) (by have h2 := HPP.out; omega) hnd _ (.slice za sn zc) zs (rn : Int) W5 HRD5.out HZR5.out (by have h1 := HZL.out; have h2 := HSN.out; have h3 := HOK.out.le; omega))
  obtain ⟨m, hm⟩ : ∃ m, m = mayT pp (zs.map Zv.t) (rn : Int) := ⟨_, rfl⟩
  rw [← hm] at HMY
  have HSAFE := Lib.hid (show ∀ r ∈ rows9 (colsN a0) la, evalT r pp = 1 → m = true from fun r hr he => by
    rw [hm, HZT.out, HM.out]
    have h1 := zone_safe (rows9_K HOK.out la) hr HPK.out (HPE.out r hr) he
    have h2 : (rows9 (colsN a0) la).length = rn := by rw [← HM.out, List.length_map]; exact HRN.out.symm
    rw [h2] at h1
    exact h1)
  clear hnd hm
  go_wp2_with fail
  refine HMY.out.mono ?_
  rintro e W6 ⟨rfl, hb6⟩
  have HSB := Lib.hid ((hb6.block SB (Array.getElem?_eq_some_iff.1 hsb).1).trans hsb)
  have HPW := Lib.hid ((hb6.block PB (Array.getElem?_eq_some_iff.1 hp).1).trans hp)
  have HRR6 := Lib.hid (HRR5.out.kept hb6)
  have HRD6 := Lib.hid (RdT1.kept hb6 _ HRD5.out)
  have HB6 := Lib.hid (below_then HB5.out hb6)
  clear hb6 hsb hp cs0 cp0 cp1 cp2 cp3 cp4 cp5 cp6 cp7
  go_wp2_with fail
  go_loopw [38] (fun i wr => ∃ q : Nat, q ≤ rn ∧ i = .int .i64 (q : Int) ∧ Below W6.heap.size W6 wr) (fun i _ => rn - (intOf i).toNat)
  case atStart => exact ⟨0, Nat.zero_le _, rfl, Below.refl _ _⟩
  case round =>
    obtain ⟨q, hq, rfl, hb⟩ := hrel
    have HB := Lib.hid hb
    have HBw := Lib.hid (below_then HB6.out hb)
    have hrn40 : rn ≤ 40 := HRN40.out
    by_cases hlt : q < rn
    · have hd1 : decide ((q : Int) < (rn : Int)) = true := by rw [decide_eq_true_eq]; omega
      have hd1n : decide (q < rn) = true := by rw [decide_eq_true_eq]; omega
      have hd1i : (q : Int) < (rn : Int) := by omega
      have hl0 : (0 : Int) ≤ (q : Int) := by omega
      obtain ⟨l, hl⟩ : ∃ l, L[q]? = some l := ⟨_, List.getElem?_eq_getElem (by rw [← HRN.out]; exact hlt)⟩
      obtain ⟨b, off, ta, tc, rfl, hcq, hrp⟩ := (HRR6.out.kept hb).at hl
      obtain ⟨r, hr⟩ : ∃ r, r = l.map Prod.fst := ⟨_, rfl⟩
      have hmem : r ∈ rows9 (colsN a0) la := by rw [← HM.out, hr]; exact List.mem_map.2 ⟨l, List.mem_of_getElem? hl, rfl⟩
      have HRR := Lib.hid (show RdRow wr (.slice ta l.length tc) r from ⟨l, hr.symm, hrp⟩)
      have hrl : r.length ≤ 6 := (rows9_small HOK.out hmem).1
      have HSF := Lib.hid (HSAFE.out r hmem)
      have hp := (hb.block PB (Array.getElem?_eq_some_iff.1 HPW.out).1).trans HPW.out
      have HEV := Lib.hid (evRef_any r (by omega) _ pp (Nat.le_refl _) (by have h2 := HPP.out; omega) (HPE.out r hmem) _ _ wr (RdT1.kept hb _ HRD6.out) HRR.out)
      obtain ⟨y, hy⟩ : ∃ y, y = evalT r pp := ⟨_, rfl⟩
      rw [← hy] at HEV HSF
      obtain ⟨ln, hln⟩ : ∃ ln, ln = l.length := ⟨_, rfl⟩
      rw [← hln] at hcq HEV
      have cp0 : wr.cell? ⟨PB, 0, none⟩ = some (.int .i64 pk) := by rw [cell_of_row wr PB 0 _ _ _ hp]; rfl
      have cp1 : wr.cell? ⟨PB, 1, none⟩ = some (.int .i64 pc) := by rw [cell_of_row wr PB 1 _ _ _ hp]; rfl
      have cp2 : wr.cell? ⟨PB, 2, none⟩ = some (.int .i64 po) := by rw [cell_of_row wr PB 2 _ _ _ hp]; rfl
      have cp3 : wr.cell? ⟨PB, 3, none⟩ = some (.bool pu) := by rw [cell_of_row wr PB 3 _ _ _ hp]; rfl
      have cp4 : wr.cell? ⟨PB, 4, none⟩ = some (.int .i64 pvk) := by rw [cell_of_row wr PB 4 _ _ _ hp]; rfl
      have cp5 : wr.cell? ⟨PB, 5, none⟩ = some (.int .i64 pvn) := by rw [cell_of_row wr PB 5 _ _ _ hp]; rfl
      have cp6 : wr.cell? ⟨PB, 6, none⟩ = some (.slice psa psn psc) := by rw [cell_of_row wr PB 6 _ _ _ hp]; rfl
      have cp7 : wr.cell? ⟨PB, 7, none⟩ = some (.slice pla pln plc) := by rw [cell_of_row wr PB 7 _ _ _ hp]; rfl
      clear hr hmem hrl hp hy hl hrp hb hln HRR
      by_cases hy1 : y = 1
      · have hmt : m = true := HSF.out hy1
        subst hmt
        have hq1 : (y == 1) = true := by rw [beq_iff_eq]; exact hy1
        clear hy1
        go_wp2_with fail
        refine HEV.out.mono ?_
        rintro e w4 ⟨rfl, hb4⟩
        have HB4' := Lib.hid (below_then HB.out hb4)
        clear hb4
        go_wp2_with fail
        go_roundw
        case rel => exact ⟨q + 1, by omega, by go_num, HB4'.out⟩
        case measure => simp [intOf]; omega
      · have hq1 : (y == 1) = false := by rw [beq_eq_false_iff_ne]; exact hy1
        clear hy1
        go_wp2_with fail
        refine HEV.out.mono ?_
        rintro e w4 ⟨rfl, hb4⟩
        have HB4' := Lib.hid (below_then HB.out hb4)
        clear hb4
        go_wp2_with fail
        go_roundw
        case rel => exact ⟨q + 1, by omega, by go_num, HB4'.out⟩
        case measure => simp [intOf]; omega
    · have hd1 : decide ((q : Int) < (rn : Int)) = false := by rw [decide_eq_false_iff_not]; omega
      have hd1n : decide (q < rn) = false := by rw [decide_eq_false_iff_not]; omega
      clear hlt hb
      go_wp2_with fail
      refine (awake9_any wr).mono ?_
      rintro e w5 ⟨rfl, hb5⟩
      have HF := Lib.hid (below_then HBw.out hb5)
      clear hb5
      go_wp2_with fail
      go_ret
      exact ⟨rfl, HF.out⟩

end Go.Proofs.Ytpabneinikbneaa
