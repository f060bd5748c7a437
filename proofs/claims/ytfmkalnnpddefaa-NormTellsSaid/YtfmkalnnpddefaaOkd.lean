/-
  Contract of the reference's right and OkPred.
-/
import Derived.Test.YtfmkalnnpddefaaOkc
namespace Go.Proofs.Ytfmkalnnpddefaa
set_option linter.unusedVariables false
set_option linter.unusedSimpArgs false
open Go.RowKit

set_option maxRecDepth 100000 in
set_option maxHeartbeats 16000000 in
theorem right_list (cols : List Co) (K : Int) (hK : K = 4 ∨ K = 5 ∨ K = 6) (l : List Pt) (hl : ∀ q ∈ l, RightOK cols q) (hll : l.length ≤ 1000) : RightOK cols (.mk K 0 0 zeroV l) := by
  intro cs sv w hv hr
  obtain ⟨sa, sc, rfl⟩ := rdC_shape hv
  unfold RdT1 at hr
  obtain ⟨s, ls, css, rfl, hok, hls, hts⟩ := hr
  obtain ⟨va, vc, hes⟩ := rd_shape8 hok.1
  obtain ⟨ea, ec, hel⟩ := rdS_shape hls
  simp only at hes
  subst hes hel
  have hcl := rdTs_len hts
  obtain ⟨n, hN⟩ : ∃ n, n = l.length := ⟨_, rfl⟩
  obtain ⟨sn, hsn⟩ : ∃ sn, sn = cols.length := ⟨_, rfl⟩
  rw [hcl, ← hN] at hls ⊢
  rw [← hN] at hll
  rw [← hsn] at hv ⊢
  have HN := Lib.hid hN
  have HLS := Lib.hid hls
  have HTS := Lib.hid hts
  have HV := Lib.hid hv
  have HL := Lib.hid hl
  clear hcl hN hls hts hok hv hsn hl
  unfold cellsP
  simp only [zeroV, List.length_nil]
  have key : (decide (8 < n) = true ∧ decide ((8 : Int) < (n : Int)) = true) ∨ (decide (8 < n) = false ∧ decide ((8 : Int) < (n : Int)) = false) := by
    by_cases h : 8 < n
    · exact .inl ⟨by rw [decide_eq_true_eq]; omega, by rw [decide_eq_true_eq]; omega⟩
    · exact .inr ⟨by rw [decide_eq_false_iff_not]; omega, by rw [decide_eq_false_iff_not]; omega⟩
  have key2 : ((n != 1) = true ∧ ((n : Int) != 1) = true) ∨ ((n != 1) = false ∧ ((n : Int) != 1) = false) := by
    by_cases h : n = 1
    · subst h; exact .inr ⟨rfl, rfl⟩
    · exact .inl ⟨by rw [bne_iff_ne]; omega, by rw [bne_iff_ne]; omega⟩
  have KEY := Lib.hid key
  have KEY2 := Lib.hid key2
  clear key key2
  rcases hK with rfl | rfl | rfl
  · have HB0 := Lib.hid (below2 w (.cells #[.slice sa sn sc] 24) (.cells #[.int .i64 4, .int .i64 0, .int .i64 0, .bool false, .int .i64 0, .int .i64 0, .slice va 0 vc, .slice ea n ec] 31))
    have HX0 := Lib.hid ((heap_alloc_old (w.alloc (.cells #[.slice sa sn sc] 24)) (.cells #[.int .i64 4, .int .i64 0, .int .i64 0, .bool false, .int .i64 0, .int .i64 0, .slice va 0 vc, .slice ea n ec] 31) (r := w.heap.size) (by simp)).trans (heap_alloc_new w _))
    have HY0 := Lib.hid (heap2 w (.cells #[.slice sa sn sc] 24) (.cells #[.int .i64 4, .int .i64 0, .int .i64 0, .bool false, .int .i64 0, .int .i64 0, .slice va 0 vc, .slice ea n ec] 31))
    go_enter Try.func67, Try.ntmps67
    go_upto_region 1 with (fail)
    obtain ⟨W, hW⟩ : ∃ W : World, W = (w.alloc (.cells #[.slice sa sn sc] 24)).alloc (.cells #[.int .i64 4, .int .i64 0, .int .i64 0, .bool false, .int .i64 0, .int .i64 0, .slice va 0 vc, .slice ea n ec] 31) := ⟨_, rfl⟩
    rw [← hW] at HB0 HX0 HY0 ⊢
    obtain ⟨SB, hSB⟩ : ∃ SB, SB = w.heap.size := ⟨_, rfl⟩
    rw [← hSB] at HX0 HY0 ⊢
    obtain ⟨PB, hPB⟩ : ∃ PB, PB = SB + 1 := ⟨_, rfl⟩
    rw [← hPB] at HY0 ⊢
    have HPS := Lib.hid (show PB ≠ SB by omega)
    clear hW hSB hPB
    have cpS := HX0.out
    have cpP := HY0.out
    have cs0 : W.cell? ⟨SB, 0, none⟩ = some (.slice sa sn sc) := by rw [cell_of_row W SB 0 _ _ _ cpS]; rfl
    have cp0 : W.cell? ⟨PB, 0, none⟩ = some (.int .i64 4) := by rw [cell_of_row W PB 0 _ _ _ cpP]; rfl
    have cp1 : W.cell? ⟨PB, 1, none⟩ = some (.int .i64 0) := by rw [cell_of_row W PB 1 _ _ _ cpP]; rfl
    have cp2 : W.cell? ⟨PB, 2, none⟩ = some (.int .i64 0) := by rw [cell_of_row W PB 2 _ _ _ cpP]; rfl
    have cp3 : W.cell? ⟨PB, 3, none⟩ = some (.bool false) := by rw [cell_of_row W PB 3 _ _ _ cpP]; rfl
    have cp4 : W.cell? ⟨PB, 4, none⟩ = some (.int .i64 0) := by rw [cell_of_row W PB 4 _ _ _ cpP]; rfl
    have cp5 : W.cell? ⟨PB, 5, none⟩ = some (.int .i64 0) := by rw [cell_of_row W PB 5 _ _ _ cpP]; rfl
    have cp6 : W.cell? ⟨PB, 6, none⟩ = some (.slice va 0 vc) := by rw [cell_of_row W PB 6 _ _ _ cpP]; rfl
    have cp7 : W.cell? ⟨PB, 7, none⟩ = some (.slice ea n ec) := by rw [cell_of_row W PB 7 _ _ _ cpP]; rfl
    clear cpS cpP
    go_wp2_with fail
    refine (zero_zero va vc W).mono ?_
    rintro e W2 ⟨rfl, hb2⟩
    have HX1 := Lib.hid ((hb2.block SB (Array.getElem?_eq_some_iff.1 HX0.out).1).trans HX0.out)
    have HY1 := Lib.hid ((hb2.block PB (Array.getElem?_eq_some_iff.1 HY0.out).1).trans HY0.out)
    have HB1 := Lib.hid (below_then HB0.out hb2)
    clear hb2
    clear cs0 cp0 cp1 cp2 cp3 cp4 cp5 cp6 cp7
    have cpS := HX1.out
    have cpP := HY1.out
    have cs0 : W2.cell? ⟨SB, 0, none⟩ = some (.slice sa sn sc) := by rw [cell_of_row W2 SB 0 _ _ _ cpS]; rfl
    have cp0 : W2.cell? ⟨PB, 0, none⟩ = some (.int .i64 4) := by rw [cell_of_row W2 PB 0 _ _ _ cpP]; rfl
    have cp1 : W2.cell? ⟨PB, 1, none⟩ = some (.int .i64 0) := by rw [cell_of_row W2 PB 1 _ _ _ cpP]; rfl
    have cp2 : W2.cell? ⟨PB, 2, none⟩ = some (.int .i64 0) := by rw [cell_of_row W2 PB 2 _ _ _ cpP]; rfl
    have cp3 : W2.cell? ⟨PB, 3, none⟩ = some (.bool false) := by rw [cell_of_row W2 PB 3 _ _ _ cpP]; rfl
    have cp4 : W2.cell? ⟨PB, 4, none⟩ = some (.int .i64 0) := by rw [cell_of_row W2 PB 4 _ _ _ cpP]; rfl
    have cp5 : W2.cell? ⟨PB, 5, none⟩ = some (.int .i64 0) := by rw [cell_of_row W2 PB 5 _ _ _ cpP]; rfl
    have cp6 : W2.cell? ⟨PB, 6, none⟩ = some (.slice va 0 vc) := by rw [cell_of_row W2 PB 6 _ _ _ cpP]; rfl
    have cp7 : W2.cell? ⟨PB, 7, none⟩ = some (.slice ea n ec) := by rw [cell_of_row W2 PB 7 _ _ _ cpP]; rfl
    clear cpS cpP
    rcases KEY.out with ⟨k1, k2⟩ | ⟨k1, k2⟩
    · go_wp2_with fail
      go_ret
      exact ⟨_, rfl, HB1.out⟩
    · go_wp2_with fail
      go_loopw [7] (fun i wr => ∃ q : Nat, q ≤ n ∧ i = .int .i64 (q : Int) ∧ Below W2.heap.size W2 wr) (fun i _ => n - (intOf i).toNat)
      case atStart => exact ⟨0, Nat.zero_le _, rfl, Below.refl _ _⟩
      case round =>
        obtain ⟨q, hq, rfl, hbr⟩ := hrel
        obtain ⟨wo, rfl⟩ : ∃ wo : World, wo = wr := ⟨_, rfl⟩
        have HBR := Lib.hid hbr
        have hx := (hbr.block SB (Array.getElem?_eq_some_iff.1 HX1.out).1).trans HX1.out
        have hy := (hbr.block PB (Array.getElem?_eq_some_iff.1 HY1.out).1).trans HY1.out
        have dx : wo.cell? ⟨SB, 0, none⟩ = some (.slice sa sn sc) := by rw [cell_of_row wo SB 0 _ _ _ hx]; rfl
        have dy : wo.cell? ⟨PB, 7, none⟩ = some (.slice ea n ec) := by rw [cell_of_row wo PB 7 _ _ _ hy]; rfl
        clear hbr hx hy cs0 cp0 cp1 cp2 cp3 cp4 cp5 cp6 cp7
        by_cases hlt : q < n
        · have hltb : decide ((q : Int) < (n : Int)) = true := by rw [decide_eq_true_eq]; omega
          have hlti : (q : Int) < (n : Int) := by omega
          have hq0 : (0 : Int) ≤ (q : Int) := by omega
          obtain ⟨p, hp⟩ : ∃ p, l[q]? = some p := ⟨_, List.getElem?_eq_getElem (by have := HN.out; omega)⟩
          obtain ⟨cs, hcs, hrd⟩ := rdTs_at HTS.out hp
          have hw := below_then HB1.out HBR.out
          have hat := (HLS.out.kept hw).at hcs
          have HRD := Lib.hid (RdT1.kept hw _ hrd)
          have HVO := Lib.hid (RdC.kept HV.out hw)
          have HP := Lib.hid (HL.out p (List.mem_of_getElem? hp) cs (.slice sa sn sc))
          obtain ⟨pk, pc, po, pvk, pvn, pu, psa, psn, psc, pea, pen, pec, rfl⟩ := rdT1_shape hrd
          obtain ⟨b1, f1, rfl, hcell⟩ := hat
          have m0 : wo.cell? ⟨b1, f1 + q * 8, none⟩ = some (.int .i64 pk) := hcell 0 _ rfl
          have m1 : wo.cell? ⟨b1, f1 + q * 8 + 1, none⟩ = some (.int .i64 pc) := hcell 1 _ rfl
          have m2 : wo.cell? ⟨b1, f1 + q * 8 + 2, none⟩ = some (.int .i64 po) := hcell 2 _ rfl
          have m3 : wo.cell? ⟨b1, f1 + q * 8 + 3, none⟩ = some (.bool pu) := hcell 3 _ rfl
          have m4 : wo.cell? ⟨b1, f1 + q * 8 + 4, none⟩ = some (.int .i64 pvk) := hcell 4 _ rfl
          have m5 : wo.cell? ⟨b1, f1 + q * 8 + 5, none⟩ = some (.int .i64 pvn) := hcell 5 _ rfl
          have m6 : wo.cell? ⟨b1, f1 + q * 8 + 6, none⟩ = some (.slice psa psn psc) := hcell 6 _ rfl
          have m7 : wo.cell? ⟨b1, f1 + q * 8 + 7, none⟩ = some (.slice pea pen pec) := hcell 7 _ rfl
          clear hp hcs hrd hcell hw
          have HRES := Lib.hid (show ∀ w' : World, Below wo.heap.size wo w' → Calls Try.prog 67 #[.agg #[.slice sa sn sc], .agg #[.int .i64 pk, .int .i64 pc, .int .i64 po, .bool pu, .int .i64 pvk, .int .i64 pvn, .slice psa psn psc, .slice pea pen pec]] w' fun e w'' => ∃ b, e = .returned (.bool b) ∧ Below w'.heap.size w' w'' from fun w' h => HP.out w' (RdC.kept HVO.out h) (RdT1.kept h _ HRD.out))
          go_upto_region 18 with (fail)
          go_cut [140] (fun s wx => ∃ bb, s = .bool (!bb) ∧ Below wo.heap.size wo wx)
          case first =>
            set_option maxRecDepth 1000000 in
            go_region_held3 (fun w' => w'.cell? ⟨SB, 0, none⟩ = some (.slice sa sn sc) ∧ w'.cell? ⟨PB, 7, none⟩ = some (.slice (some ⟨b1, f1, none⟩) n ec) ∧ w'.cell? ⟨b1, f1 + q * 8, none⟩ = some (.int .i64 pk) ∧ w'.cell? ⟨b1, f1 + q * 8 + 1, none⟩ = some (.int .i64 pc) ∧ w'.cell? ⟨b1, f1 + q * 8 + 2, none⟩ = some (.int .i64 po) ∧ w'.cell? ⟨b1, f1 + q * 8 + 3, none⟩ = some (.bool pu) ∧ w'.cell? ⟨b1, f1 + q * 8 + 4, none⟩ = some (.int .i64 pvk) ∧ w'.cell? ⟨b1, f1 + q * 8 + 5, none⟩ = some (.int .i64 pvn) ∧ w'.cell? ⟨b1, f1 + q * 8 + 6, none⟩ = some (.slice psa psn psc) ∧ w'.cell? ⟨b1, f1 + q * 8 + 7, none⟩ = some (.slice pea pen pec)) (first | assumption | exact ⟨(by first | exact dx | exact (hS3.cell (World.block_lt_of_cell? _ _ dx)).trans dx), (by first | exact dy | exact (hS3.cell (World.block_lt_of_cell? _ _ dy)).trans dy), (by first | exact m0 | exact (hS3.cell (World.block_lt_of_cell? _ _ m0)).trans m0), (by first | exact m1 | exact (hS3.cell (World.block_lt_of_cell? _ _ m1)).trans m1), (by first | exact m2 | exact (hS3.cell (World.block_lt_of_cell? _ _ m2)).trans m2), (by first | exact m3 | exact (hS3.cell (World.block_lt_of_cell? _ _ m3)).trans m3), (by first | exact m4 | exact (hS3.cell (World.block_lt_of_cell? _ _ m4)).trans m4), (by first | exact m5 | exact (hS3.cell (World.block_lt_of_cell? _ _ m5)).trans m5), (by first | exact m6 | exact (hS3.cell (World.block_lt_of_cell? _ _ m6)).trans m6), (by first | exact m7 | exact (hS3.cell (World.block_lt_of_cell? _ _ m7)).trans m7)⟩)
              (first | (go_at_call 67; refine (HRES.out _ (by first | exact Below.refl _ _ | exact below_drw _ _)).mono ?_; rintro e w3 ⟨bb, rfl, hb3⟩; have hS3 : Below wo.heap.size wo w3 := (by first | exact hb3 | exact Below.trans (below_drw _ _) hb3)))
            all_goals
              go_wp2_with fail
              go_meet
              exact ⟨_, rfl, hS3⟩
          case rest =>
            obtain ⟨bb, rfl, hS3⟩ := hcut
            have HB3 := Lib.hid (HBR.out.trans (hS3.mono HBR.out.size))
            clear hS3
            cases bb
            · go_wp2_with fail
              go_ret
              exact ⟨_, rfl, below_then HB1.out HB3.out⟩
            · go_wp2_with fail
              go_roundw
              case rel => exact ⟨q + 1, by omega, by go_num, HB3.out⟩
              case measure => simp [intOf]; omega
        · have hltb : decide ((q : Int) < (n : Int)) = false := by rw [decide_eq_false_iff_not]; omega
          have hlti : ¬ (q : Int) < (n : Int) := by omega
          go_wp2_with fail
          go_ret
          first | exact ⟨_, rfl, below_then HB1.out HBR.out⟩ | exact ⟨(by first | exact .inr rfl | exact .inl rfl), below_then HB1.out HBR.out⟩
  · have HB0 := Lib.hid (below2 w (.cells #[.slice sa sn sc] 24) (.cells #[.int .i64 5, .int .i64 0, .int .i64 0, .bool false, .int .i64 0, .int .i64 0, .slice va 0 vc, .slice ea n ec] 31))
    have HX0 := Lib.hid ((heap_alloc_old (w.alloc (.cells #[.slice sa sn sc] 24)) (.cells #[.int .i64 5, .int .i64 0, .int .i64 0, .bool false, .int .i64 0, .int .i64 0, .slice va 0 vc, .slice ea n ec] 31) (r := w.heap.size) (by simp)).trans (heap_alloc_new w _))
    have HY0 := Lib.hid (heap2 w (.cells #[.slice sa sn sc] 24) (.cells #[.int .i64 5, .int .i64 0, .int .i64 0, .bool false, .int .i64 0, .int .i64 0, .slice va 0 vc, .slice ea n ec] 31))
    go_enter Try.func67, Try.ntmps67
    go_upto_region 1 with (fail)
    obtain ⟨W, hW⟩ : ∃ W : World, W = (w.alloc (.cells #[.slice sa sn sc] 24)).alloc (.cells #[.int .i64 5, .int .i64 0, .int .i64 0, .bool false, .int .i64 0, .int .i64 0, .slice va 0 vc, .slice ea n ec] 31) := ⟨_, rfl⟩
    rw [← hW] at HB0 HX0 HY0 ⊢
    obtain ⟨SB, hSB⟩ : ∃ SB, SB = w.heap.size := ⟨_, rfl⟩
    rw [← hSB] at HX0 HY0 ⊢
    obtain ⟨PB, hPB⟩ : ∃ PB, PB = SB + 1 := ⟨_, rfl⟩
    rw [← hPB] at HY0 ⊢
    have HPS := Lib.hid (show PB ≠ SB by omega)
    clear hW hSB hPB
    have cpS := HX0.out
    have cpP := HY0.out
    have cs0 : W.cell? ⟨SB, 0, none⟩ = some (.slice sa sn sc) := by rw [cell_of_row W SB 0 _ _ _ cpS]; rfl
    have cp0 : W.cell? ⟨PB, 0, none⟩ = some (.int .i64 5) := by rw [cell_of_row W PB 0 _ _ _ cpP]; rfl
    have cp1 : W.cell? ⟨PB, 1, none⟩ = some (.int .i64 0) := by rw [cell_of_row W PB 1 _ _ _ cpP]; rfl
    have cp2 : W.cell? ⟨PB, 2, none⟩ = some (.int .i64 0) := by rw [cell_of_row W PB 2 _ _ _ cpP]; rfl
    have cp3 : W.cell? ⟨PB, 3, none⟩ = some (.bool false) := by rw [cell_of_row W PB 3 _ _ _ cpP]; rfl
    have cp4 : W.cell? ⟨PB, 4, none⟩ = some (.int .i64 0) := by rw [cell_of_row W PB 4 _ _ _ cpP]; rfl
    have cp5 : W.cell? ⟨PB, 5, none⟩ = some (.int .i64 0) := by rw [cell_of_row W PB 5 _ _ _ cpP]; rfl
    have cp6 : W.cell? ⟨PB, 6, none⟩ = some (.slice va 0 vc) := by rw [cell_of_row W PB 6 _ _ _ cpP]; rfl
    have cp7 : W.cell? ⟨PB, 7, none⟩ = some (.slice ea n ec) := by rw [cell_of_row W PB 7 _ _ _ cpP]; rfl
    clear cpS cpP
    go_wp2_with fail
    refine (zero_zero va vc W).mono ?_
    rintro e W2 ⟨rfl, hb2⟩
    have HX1 := Lib.hid ((hb2.block SB (Array.getElem?_eq_some_iff.1 HX0.out).1).trans HX0.out)
    have HY1 := Lib.hid ((hb2.block PB (Array.getElem?_eq_some_iff.1 HY0.out).1).trans HY0.out)
    have HB1 := Lib.hid (below_then HB0.out hb2)
    clear hb2
    clear cs0 cp0 cp1 cp2 cp3 cp4 cp5 cp6 cp7
    have cpS := HX1.out
    have cpP := HY1.out
    have cs0 : W2.cell? ⟨SB, 0, none⟩ = some (.slice sa sn sc) := by rw [cell_of_row W2 SB 0 _ _ _ cpS]; rfl
    have cp0 : W2.cell? ⟨PB, 0, none⟩ = some (.int .i64 5) := by rw [cell_of_row W2 PB 0 _ _ _ cpP]; rfl
    have cp1 : W2.cell? ⟨PB, 1, none⟩ = some (.int .i64 0) := by rw [cell_of_row W2 PB 1 _ _ _ cpP]; rfl
    have cp2 : W2.cell? ⟨PB, 2, none⟩ = some (.int .i64 0) := by rw [cell_of_row W2 PB 2 _ _ _ cpP]; rfl
    have cp3 : W2.cell? ⟨PB, 3, none⟩ = some (.bool false) := by rw [cell_of_row W2 PB 3 _ _ _ cpP]; rfl
    have cp4 : W2.cell? ⟨PB, 4, none⟩ = some (.int .i64 0) := by rw [cell_of_row W2 PB 4 _ _ _ cpP]; rfl
    have cp5 : W2.cell? ⟨PB, 5, none⟩ = some (.int .i64 0) := by rw [cell_of_row W2 PB 5 _ _ _ cpP]; rfl
    have cp6 : W2.cell? ⟨PB, 6, none⟩ = some (.slice va 0 vc) := by rw [cell_of_row W2 PB 6 _ _ _ cpP]; rfl
    have cp7 : W2.cell? ⟨PB, 7, none⟩ = some (.slice ea n ec) := by rw [cell_of_row W2 PB 7 _ _ _ cpP]; rfl
    clear cpS cpP
    rcases KEY.out with ⟨k1, k2⟩ | ⟨k1, k2⟩
    · go_wp2_with fail
      go_ret
      exact ⟨_, rfl, HB1.out⟩
    · go_wp2_with fail
      go_loopw [7] (fun i wr => ∃ q : Nat, q ≤ n ∧ i = .int .i64 (q : Int) ∧ Below W2.heap.size W2 wr) (fun i _ => n - (intOf i).toNat)
      case atStart => exact ⟨0, Nat.zero_le _, rfl, Below.refl _ _⟩
      case round =>
        obtain ⟨q, hq, rfl, hbr⟩ := hrel
        obtain ⟨wo, rfl⟩ : ∃ wo : World, wo = wr := ⟨_, rfl⟩
        have HBR := Lib.hid hbr
        have hx := (hbr.block SB (Array.getElem?_eq_some_iff.1 HX1.out).1).trans HX1.out
        have hy := (hbr.block PB (Array.getElem?_eq_some_iff.1 HY1.out).1).trans HY1.out
        have dx : wo.cell? ⟨SB, 0, none⟩ = some (.slice sa sn sc) := by rw [cell_of_row wo SB 0 _ _ _ hx]; rfl
        have dy : wo.cell? ⟨PB, 7, none⟩ = some (.slice ea n ec) := by rw [cell_of_row wo PB 7 _ _ _ hy]; rfl
        clear hbr hx hy cs0 cp0 cp1 cp2 cp3 cp4 cp5 cp6 cp7
        by_cases hlt : q < n
        · have hltb : decide ((q : Int) < (n : Int)) = true := by rw [decide_eq_true_eq]; omega
          have hlti : (q : Int) < (n : Int) := by omega
          have hq0 : (0 : Int) ≤ (q : Int) := by omega
          obtain ⟨p, hp⟩ : ∃ p, l[q]? = some p := ⟨_, List.getElem?_eq_getElem (by have := HN.out; omega)⟩
          obtain ⟨cs, hcs, hrd⟩ := rdTs_at HTS.out hp
          have hw := below_then HB1.out HBR.out
          have hat := (HLS.out.kept hw).at hcs
          have HRD := Lib.hid (RdT1.kept hw _ hrd)
          have HVO := Lib.hid (RdC.kept HV.out hw)
          have HP := Lib.hid (HL.out p (List.mem_of_getElem? hp) cs (.slice sa sn sc))
          obtain ⟨pk, pc, po, pvk, pvn, pu, psa, psn, psc, pea, pen, pec, rfl⟩ := rdT1_shape hrd
          obtain ⟨b1, f1, rfl, hcell⟩ := hat
          have m0 : wo.cell? ⟨b1, f1 + q * 8, none⟩ = some (.int .i64 pk) := hcell 0 _ rfl
          have m1 : wo.cell? ⟨b1, f1 + q * 8 + 1, none⟩ = some (.int .i64 pc) := hcell 1 _ rfl
          have m2 : wo.cell? ⟨b1, f1 + q * 8 + 2, none⟩ = some (.int .i64 po) := hcell 2 _ rfl
          have m3 : wo.cell? ⟨b1, f1 + q * 8 + 3, none⟩ = some (.bool pu) := hcell 3 _ rfl
          have m4 : wo.cell? ⟨b1, f1 + q * 8 + 4, none⟩ = some (.int .i64 pvk) := hcell 4 _ rfl
          have m5 : wo.cell? ⟨b1, f1 + q * 8 + 5, none⟩ = some (.int .i64 pvn) := hcell 5 _ rfl
          have m6 : wo.cell? ⟨b1, f1 + q * 8 + 6, none⟩ = some (.slice psa psn psc) := hcell 6 _ rfl
          have m7 : wo.cell? ⟨b1, f1 + q * 8 + 7, none⟩ = some (.slice pea pen pec) := hcell 7 _ rfl
          clear hp hcs hrd hcell hw
          have HRES := Lib.hid (show ∀ w' : World, Below wo.heap.size wo w' → Calls Try.prog 67 #[.agg #[.slice sa sn sc], .agg #[.int .i64 pk, .int .i64 pc, .int .i64 po, .bool pu, .int .i64 pvk, .int .i64 pvn, .slice psa psn psc, .slice pea pen pec]] w' fun e w'' => ∃ b, e = .returned (.bool b) ∧ Below w'.heap.size w' w'' from fun w' h => HP.out w' (RdC.kept HVO.out h) (RdT1.kept h _ HRD.out))
          go_upto_region 18 with (fail)
          go_cut [140] (fun s wx => ∃ bb, s = .bool (!bb) ∧ Below wo.heap.size wo wx)
          case first =>
            set_option maxRecDepth 1000000 in
            go_region_held3 (fun w' => w'.cell? ⟨SB, 0, none⟩ = some (.slice sa sn sc) ∧ w'.cell? ⟨PB, 7, none⟩ = some (.slice (some ⟨b1, f1, none⟩) n ec) ∧ w'.cell? ⟨b1, f1 + q * 8, none⟩ = some (.int .i64 pk) ∧ w'.cell? ⟨b1, f1 + q * 8 + 1, none⟩ = some (.int .i64 pc) ∧ w'.cell? ⟨b1, f1 + q * 8 + 2, none⟩ = some (.int .i64 po) ∧ w'.cell? ⟨b1, f1 + q * 8 + 3, none⟩ = some (.bool pu) ∧ w'.cell? ⟨b1, f1 + q * 8 + 4, none⟩ = some (.int .i64 pvk) ∧ w'.cell? ⟨b1, f1 + q * 8 + 5, none⟩ = some (.int .i64 pvn) ∧ w'.cell? ⟨b1, f1 + q * 8 + 6, none⟩ = some (.slice psa psn psc) ∧ w'.cell? ⟨b1, f1 + q * 8 + 7, none⟩ = some (.slice pea pen pec)) (first | assumption | exact ⟨(by first | exact dx | exact (hS3.cell (World.block_lt_of_cell? _ _ dx)).trans dx), (by first | exact dy | exact (hS3.cell (World.block_lt_of_cell? _ _ dy)).trans dy), (by first | exact m0 | exact (hS3.cell (World.block_lt_of_cell? _ _ m0)).trans m0), (by first | exact m1 | exact (hS3.cell (World.block_lt_of_cell? _ _ m1)).trans m1), (by first | exact m2 | exact (hS3.cell (World.block_lt_of_cell? _ _ m2)).trans m2), (by first | exact m3 | exact (hS3.cell (World.block_lt_of_cell? _ _ m3)).trans m3), (by first | exact m4 | exact (hS3.cell (World.block_lt_of_cell? _ _ m4)).trans m4), (by first | exact m5 | exact (hS3.cell (World.block_lt_of_cell? _ _ m5)).trans m5), (by first | exact m6 | exact (hS3.cell (World.block_lt_of_cell? _ _ m6)).trans m6), (by first | exact m7 | exact (hS3.cell (World.block_lt_of_cell? _ _ m7)).trans m7)⟩)
              (first | (go_at_call 67; refine (HRES.out _ (by first | exact Below.refl _ _ | exact below_drw _ _)).mono ?_; rintro e w3 ⟨bb, rfl, hb3⟩; have hS3 : Below wo.heap.size wo w3 := (by first | exact hb3 | exact Below.trans (below_drw _ _) hb3)))
            all_goals
              go_wp2_with fail
              go_meet
              exact ⟨_, rfl, hS3⟩
          case rest =>
            obtain ⟨bb, rfl, hS3⟩ := hcut
            have HB3 := Lib.hid (HBR.out.trans (hS3.mono HBR.out.size))
            clear hS3
            cases bb
            · go_wp2_with fail
              go_ret
              exact ⟨_, rfl, below_then HB1.out HB3.out⟩
            · go_wp2_with fail
              go_roundw
              case rel => exact ⟨q + 1, by omega, by go_num, HB3.out⟩
              case measure => simp [intOf]; omega
        · have hltb : decide ((q : Int) < (n : Int)) = false := by rw [decide_eq_false_iff_not]; omega
          have hlti : ¬ (q : Int) < (n : Int) := by omega
          go_wp2_with fail
          go_ret
          first | exact ⟨_, rfl, below_then HB1.out HBR.out⟩ | exact ⟨(by first | exact .inr rfl | exact .inl rfl), below_then HB1.out HBR.out⟩
  · have HB0 := Lib.hid (below2 w (.cells #[.slice sa sn sc] 24) (.cells #[.int .i64 6, .int .i64 0, .int .i64 0, .bool false, .int .i64 0, .int .i64 0, .slice va 0 vc, .slice ea n ec] 31))
    have HX0 := Lib.hid ((heap_alloc_old (w.alloc (.cells #[.slice sa sn sc] 24)) (.cells #[.int .i64 6, .int .i64 0, .int .i64 0, .bool false, .int .i64 0, .int .i64 0, .slice va 0 vc, .slice ea n ec] 31) (r := w.heap.size) (by simp)).trans (heap_alloc_new w _))
    have HY0 := Lib.hid (heap2 w (.cells #[.slice sa sn sc] 24) (.cells #[.int .i64 6, .int .i64 0, .int .i64 0, .bool false, .int .i64 0, .int .i64 0, .slice va 0 vc, .slice ea n ec] 31))
    go_enter Try.func67, Try.ntmps67
    go_upto_region 1 with (fail)
    obtain ⟨W, hW⟩ : ∃ W : World, W = (w.alloc (.cells #[.slice sa sn sc] 24)).alloc (.cells #[.int .i64 6, .int .i64 0, .int .i64 0, .bool false, .int .i64 0, .int .i64 0, .slice va 0 vc, .slice ea n ec] 31) := ⟨_, rfl⟩
    rw [← hW] at HB0 HX0 HY0 ⊢
    obtain ⟨SB, hSB⟩ : ∃ SB, SB = w.heap.size := ⟨_, rfl⟩
    rw [← hSB] at HX0 HY0 ⊢
    obtain ⟨PB, hPB⟩ : ∃ PB, PB = SB + 1 := ⟨_, rfl⟩
    rw [← hPB] at HY0 ⊢
    have HPS := Lib.hid (show PB ≠ SB by omega)
    clear hW hSB hPB
    have cpS := HX0.out
    have cpP := HY0.out
    have cs0 : W.cell? ⟨SB, 0, none⟩ = some (.slice sa sn sc) := by rw [cell_of_row W SB 0 _ _ _ cpS]; rfl
    have cp0 : W.cell? ⟨PB, 0, none⟩ = some (.int .i64 6) := by rw [cell_of_row W PB 0 _ _ _ cpP]; rfl
    have cp1 : W.cell? ⟨PB, 1, none⟩ = some (.int .i64 0) := by rw [cell_of_row W PB 1 _ _ _ cpP]; rfl
    have cp2 : W.cell? ⟨PB, 2, none⟩ = some (.int .i64 0) := by rw [cell_of_row W PB 2 _ _ _ cpP]; rfl
    have cp3 : W.cell? ⟨PB, 3, none⟩ = some (.bool false) := by rw [cell_of_row W PB 3 _ _ _ cpP]; rfl
    have cp4 : W.cell? ⟨PB, 4, none⟩ = some (.int .i64 0) := by rw [cell_of_row W PB 4 _ _ _ cpP]; rfl
    have cp5 : W.cell? ⟨PB, 5, none⟩ = some (.int .i64 0) := by rw [cell_of_row W PB 5 _ _ _ cpP]; rfl
    have cp6 : W.cell? ⟨PB, 6, none⟩ = some (.slice va 0 vc) := by rw [cell_of_row W PB 6 _ _ _ cpP]; rfl
    have cp7 : W.cell? ⟨PB, 7, none⟩ = some (.slice ea n ec) := by rw [cell_of_row W PB 7 _ _ _ cpP]; rfl
    clear cpS cpP
    go_wp2_with fail
    refine (zero_zero va vc W).mono ?_
    rintro e W2 ⟨rfl, hb2⟩
    have HX1 := Lib.hid ((hb2.block SB (Array.getElem?_eq_some_iff.1 HX0.out).1).trans HX0.out)
    have HY1 := Lib.hid ((hb2.block PB (Array.getElem?_eq_some_iff.1 HY0.out).1).trans HY0.out)
    have HB1 := Lib.hid (below_then HB0.out hb2)
    clear hb2
    clear cs0 cp0 cp1 cp2 cp3 cp4 cp5 cp6 cp7
    have cpS := HX1.out
    have cpP := HY1.out
    have cs0 : W2.cell? ⟨SB, 0, none⟩ = some (.slice sa sn sc) := by rw [cell_of_row W2 SB 0 _ _ _ cpS]; rfl
    have cp0 : W2.cell? ⟨PB, 0, none⟩ = some (.int .i64 6) := by rw [cell_of_row W2 PB 0 _ _ _ cpP]; rfl
    have cp1 : W2.cell? ⟨PB, 1, none⟩ = some (.int .i64 0) := by rw [cell_of_row W2 PB 1 _ _ _ cpP]; rfl
    have cp2 : W2.cell? ⟨PB, 2, none⟩ = some (.int .i64 0) := by rw [cell_of_row W2 PB 2 _ _ _ cpP]; rfl
    have cp3 : W2.cell? ⟨PB, 3, none⟩ = some (.bool false) := by rw [cell_of_row W2 PB 3 _ _ _ cpP]; rfl
    have cp4 : W2.cell? ⟨PB, 4, none⟩ = some (.int .i64 0) := by rw [cell_of_row W2 PB 4 _ _ _ cpP]; rfl
    have cp5 : W2.cell? ⟨PB, 5, none⟩ = some (.int .i64 0) := by rw [cell_of_row W2 PB 5 _ _ _ cpP]; rfl
    have cp6 : W2.cell? ⟨PB, 6, none⟩ = some (.slice va 0 vc) := by rw [cell_of_row W2 PB 6 _ _ _ cpP]; rfl
    have cp7 : W2.cell? ⟨PB, 7, none⟩ = some (.slice ea n ec) := by rw [cell_of_row W2 PB 7 _ _ _ cpP]; rfl
    clear cpS cpP
    rcases KEY.out with ⟨k1, k2⟩ | ⟨k1, k2⟩
    · go_wp2_with fail
      go_ret
      exact ⟨_, rfl, HB1.out⟩
    · rcases KEY2.out with ⟨j1, j2⟩ | ⟨j1, j2⟩
      · go_wp2_with fail
        go_ret
        exact ⟨_, rfl, HB1.out⟩
      · go_wp2_with fail
        go_loopw [7] (fun i wr => ∃ q : Nat, q ≤ n ∧ i = .int .i64 (q : Int) ∧ Below W2.heap.size W2 wr) (fun i _ => n - (intOf i).toNat)
        case atStart => exact ⟨0, Nat.zero_le _, rfl, Below.refl _ _⟩
        case round =>
          obtain ⟨q, hq, rfl, hbr⟩ := hrel
          obtain ⟨wo, rfl⟩ : ∃ wo : World, wo = wr := ⟨_, rfl⟩
          have HBR := Lib.hid hbr
          have hx := (hbr.block SB (Array.getElem?_eq_some_iff.1 HX1.out).1).trans HX1.out
          have hy := (hbr.block PB (Array.getElem?_eq_some_iff.1 HY1.out).1).trans HY1.out
          have dx : wo.cell? ⟨SB, 0, none⟩ = some (.slice sa sn sc) := by rw [cell_of_row wo SB 0 _ _ _ hx]; rfl
          have dy : wo.cell? ⟨PB, 7, none⟩ = some (.slice ea n ec) := by rw [cell_of_row wo PB 7 _ _ _ hy]; rfl
          clear hbr hx hy cs0 cp0 cp1 cp2 cp3 cp4 cp5 cp6 cp7
          by_cases hlt : q < n
          · have hltb : decide ((q : Int) < (n : Int)) = true := by rw [decide_eq_true_eq]; omega
            have hlti : (q : Int) < (n : Int) := by omega
            have hq0 : (0 : Int) ≤ (q : Int) := by omega
            obtain ⟨p, hp⟩ : ∃ p, l[q]? = some p := ⟨_, List.getElem?_eq_getElem (by have := HN.out; omega)⟩
            obtain ⟨cs, hcs, hrd⟩ := rdTs_at HTS.out hp
            have hw := below_then HB1.out HBR.out
            have hat := (HLS.out.kept hw).at hcs
            have HRD := Lib.hid (RdT1.kept hw _ hrd)
            have HVO := Lib.hid (RdC.kept HV.out hw)
            have HP := Lib.hid (HL.out p (List.mem_of_getElem? hp) cs (.slice sa sn sc))
            obtain ⟨pk, pc, po, pvk, pvn, pu, psa, psn, psc, pea, pen, pec, rfl⟩ := rdT1_shape hrd
            obtain ⟨b1, f1, rfl, hcell⟩ := hat
            have m0 : wo.cell? ⟨b1, f1 + q * 8, none⟩ = some (.int .i64 pk) := hcell 0 _ rfl
            have m1 : wo.cell? ⟨b1, f1 + q * 8 + 1, none⟩ = some (.int .i64 pc) := hcell 1 _ rfl
            have m2 : wo.cell? ⟨b1, f1 + q * 8 + 2, none⟩ = some (.int .i64 po) := hcell 2 _ rfl
            have m3 : wo.cell? ⟨b1, f1 + q * 8 + 3, none⟩ = some (.bool pu) := hcell 3 _ rfl
            have m4 : wo.cell? ⟨b1, f1 + q * 8 + 4, none⟩ = some (.int .i64 pvk) := hcell 4 _ rfl
            have m5 : wo.cell? ⟨b1, f1 + q * 8 + 5, none⟩ = some (.int .i64 pvn) := hcell 5 _ rfl
            have m6 : wo.cell? ⟨b1, f1 + q * 8 + 6, none⟩ = some (.slice psa psn psc) := hcell 6 _ rfl
            have m7 : wo.cell? ⟨b1, f1 + q * 8 + 7, none⟩ = some (.slice pea pen pec) := hcell 7 _ rfl
            clear hp hcs hrd hcell hw
            have HRES := Lib.hid (show ∀ w' : World, Below wo.heap.size wo w' → Calls Try.prog 67 #[.agg #[.slice sa sn sc], .agg #[.int .i64 pk, .int .i64 pc, .int .i64 po, .bool pu, .int .i64 pvk, .int .i64 pvn, .slice psa psn psc, .slice pea pen pec]] w' fun e w'' => ∃ b, e = .returned (.bool b) ∧ Below w'.heap.size w' w'' from fun w' h => HP.out w' (RdC.kept HVO.out h) (RdT1.kept h _ HRD.out))
            go_upto_region 18 with (fail)
            go_cut [140] (fun s wx => ∃ bb, s = .bool (!bb) ∧ Below wo.heap.size wo wx)
            case first =>
              set_option maxRecDepth 1000000 in
              go_region_held3 (fun w' => w'.cell? ⟨SB, 0, none⟩ = some (.slice sa sn sc) ∧ w'.cell? ⟨PB, 7, none⟩ = some (.slice (some ⟨b1, f1, none⟩) n ec) ∧ w'.cell? ⟨b1, f1 + q * 8, none⟩ = some (.int .i64 pk) ∧ w'.cell? ⟨b1, f1 + q * 8 + 1, none⟩ = some (.int .i64 pc) ∧ w'.cell? ⟨b1, f1 + q * 8 + 2, none⟩ = some (.int .i64 po) ∧ w'.cell? ⟨b1, f1 + q * 8 + 3, none⟩ = some (.bool pu) ∧ w'.cell? ⟨b1, f1 + q * 8 + 4, none⟩ = some (.int .i64 pvk) ∧ w'.cell? ⟨b1, f1 + q * 8 + 5, none⟩ = some (.int .i64 pvn) ∧ w'.cell? ⟨b1, f1 + q * 8 + 6, none⟩ = some (.slice psa psn psc) ∧ w'.cell? ⟨b1, f1 + q * 8 + 7, none⟩ = some (.slice pea pen pec)) (first | assumption | exact ⟨(by first | exact dx | exact (hS3.cell (World.block_lt_of_cell? _ _ dx)).trans dx), (by first | exact dy | exact (hS3.cell (World.block_lt_of_cell? _ _ dy)).trans dy), (by first | exact m0 | exact (hS3.cell (World.block_lt_of_cell? _ _ m0)).trans m0), (by first | exact m1 | exact (hS3.cell (World.block_lt_of_cell? _ _ m1)).trans m1), (by first | exact m2 | exact (hS3.cell (World.block_lt_of_cell? _ _ m2)).trans m2), (by first | exact m3 | exact (hS3.cell (World.block_lt_of_cell? _ _ m3)).trans m3), (by first | exact m4 | exact (hS3.cell (World.block_lt_of_cell? _ _ m4)).trans m4), (by first | exact m5 | exact (hS3.cell (World.block_lt_of_cell? _ _ m5)).trans m5), (by first | exact m6 | exact (hS3.cell (World.block_lt_of_cell? _ _ m6)).trans m6), (by first | exact m7 | exact (hS3.cell (World.block_lt_of_cell? _ _ m7)).trans m7)⟩)
                (first | (go_at_call 67; refine (HRES.out _ (by first | exact Below.refl _ _ | exact below_drw _ _)).mono ?_; rintro e w3 ⟨bb, rfl, hb3⟩; have hS3 : Below wo.heap.size wo w3 := (by first | exact hb3 | exact Below.trans (below_drw _ _) hb3)))
              all_goals
                go_wp2_with fail
                go_meet
                exact ⟨_, rfl, hS3⟩
            case rest =>
              obtain ⟨bb, rfl, hS3⟩ := hcut
              have HB3 := Lib.hid (HBR.out.trans (hS3.mono HBR.out.size))
              clear hS3
              cases bb
              · go_wp2_with fail
                go_ret
                exact ⟨_, rfl, below_then HB1.out HB3.out⟩
              · go_wp2_with fail
                go_roundw
                case rel => exact ⟨q + 1, by omega, by go_num, HB3.out⟩
                case measure => simp [intOf]; omega
          · have hltb : decide ((q : Int) < (n : Int)) = false := by rw [decide_eq_false_iff_not]; omega
            have hlti : ¬ (q : Int) < (n : Int) := by omega
            go_wp2_with fail
            go_ret
            first | exact ⟨_, rfl, below_then HB1.out HBR.out⟩ | exact ⟨(by first | exact .inr rfl | exact .inl rfl), below_then HB1.out HBR.out⟩

/-- A thing of a form of a predicate of the law's. -/
def leafR (cols : List Co) (t : Pt) : Prop := match t with
  | .mk k c o v l => (k = 2 ∧ l = [] ∧ (∃ (q : Nat) (co : Co), c = q ∧ cols[q]? = some co ∧ (co.k = 1 ∨ co.k = 2) ∧ v.u = false ∧ v.k = co.k) ∧ 1 ≤ o ∧ o ≤ 6) ∨ (k = 3 ∧ (∃ q : Nat, c = q ∧ q < cols.length) ∧ o = 0 ∧ v = zeroV ∧ l = [])
def thingR (cols : List Co) (t : Pt) : Prop := leafR cols t ∨ ∃ c o v l, t = .mk 6 0 0 zeroV [.mk 3 c o v l] ∧ leafR cols (.mk 3 c o v l)
theorem leaf_right {cols : List Co} {t : Pt} (h : leafR cols t) : RightOK cols t := by
  obtain ⟨k, c, o, v, l⟩ := t
  rcases h with ⟨rfl, rfl, ⟨q, co, rfl, h1, h2, h3, h4⟩, h5, h6⟩ | ⟨rfl, ⟨q, rfl, h1⟩, rfl, rfl, rfl⟩
  · exact right_A cols q co h1 h2 o h5 h6 v h3 h4
  · exact right_B cols q h1
theorem thing_right {cols : List Co} {t : Pt} (h : thingR cols t) : RightOK cols t := by
  rcases h with h | ⟨c, o, v, l, rfl, h⟩
  · exact leaf_right h
  · exact right_list cols 6 (.inr (.inr rfl)) _ (fun q hq => by rw [List.mem_singleton.1 hq]; exact leaf_right h) (by simp)
theorem form_right {cols : List Co} {a : List (List Pt)} (hs : SmallN a) (h : ∀ x ∈ a, ∀ t ∈ x, thingR cols t) : RightOK cols (.mk 5 0 0 zeroV (a.map fun x => .mk 4 0 0 zeroV x)) :=
  right_list cols 5 (.inr (.inl rfl)) _ (fun q hq => by
    obtain ⟨x, hx, rfl⟩ := List.mem_map.1 hq
    exact right_list cols 4 (.inl rfl) x (fun t ht => thing_right (h x hx t ht)) (by have := hs.2 x hx; omega)) (by rw [List.length_map]; have := hs.1; omega)

end Go.Proofs.Ytfmkalnnpddefaa
