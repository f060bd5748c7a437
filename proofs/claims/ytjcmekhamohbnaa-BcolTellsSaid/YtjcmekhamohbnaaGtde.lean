/-
  Contracts of the reference: get: values one behind the other.
  Contracts of the reference: get: runs.
-/
import Derived.Test.YtjcmekhamohbnaaGtbase
namespace Go.Proofs.Ytjcmekhamohbnaa.Bc
set_option linter.unusedVariables false
set_option linter.unusedSimpArgs false
open Go.RowKit

set_option maxRecDepth 100000 in
set_option maxHeartbeats 8000000 in
theorem get_1 (nums : Bool) (rr : List Nat) (c : Nat) (bv : Value) (w : World) (hr : Rd w bv ((1 :: rr).map u8v)) (h256 : ∀ x ∈ rr, x < 256) (hbig : rr.length ≤ 900000) (hc : c ≤ 65535) :
    Calls Try.prog 29 #[bv, .int .i64 (c : Int), .bool nums] w fun e w' => RetGet w.heap.size nums 1 rr (c : Int) e w' ∧ Below w.heap.size w w' := by
  obtain ⟨ao, cap, rfl⟩ := rd_shape1 hr
  rw [List.length_map] at hr ⊢
  obtain ⟨m, hm⟩ : ∃ m, m = List.length (1 :: rr) := ⟨_, rfl⟩
  have hrl2 : rr.length = m - 1 := by rw [hm, List.length_cons]; omega
  have hm1 : 1 ≤ m := by rw [hm, List.length_cons]; omega
  rw [← hm] at hr ⊢
  have HRL := Lib.hid hrl2
  have HR := Lib.hid hr
  have H256 := Lib.hid h256
  have HBIG := Lib.hid hbig
  have HRM := Lib.hid (show m ≤ 900001 by omega)
  obtain ⟨b, off, rfl, hcell⟩ := (rd_cells hr).2 (by omega)
  have hx0 := hcell 0 (by omega)
  rw [Nat.add_zero] at hx0
  have HX0 := Lib.hid (show ∀ w', Below w.heap.size w w' → w'.cell? ⟨b, off, none⟩ = some (.int .u8 (1 : Int)) from fun w' h => (h.cell (World.block_lt_of_cell? _ _ hx0)).trans hx0)
  have hcapn := rd_cap HR.out
  have hnb : ((m : Int) == 0) = false := by rw [beq_eq_false_iff_ne]; omega
  have hnb2 : ¬ ((m : Int) = 0) := by omega
  have hnp : (0 : Int) < (m : Int) := by omega
  have hn1i : (1 : Int) ≤ (m : Int) := by omega
  have hc0 : decide ((c : Int) < 0) = false := decide_eq_false (by omega)
  have hc00 : ¬ (c : Int) < 0 := by omega
  have hc01 : (0 : Int) ≤ (c : Int) := by omega
  have hc1 : decide ((c : Int) > 65535) = false := decide_eq_false (by omega)
  have hc11 : ¬ (c : Int) > 65535 := by omega
  clear hr h256 hm hrl2 hcell hx0 hbig
  go_enter Try.func29, Try.ntmps29
  go_upto_region 3 with (fail)
  go_cut [8] (fun p wx => ∃ r, p = .pointer (some ⟨r, 0, none⟩) ∧ w.heap.size ≤ r ∧ r < wx.heap.size ∧ IsQB wx.heap.size wx r rr false ∧ Below w.heap.size w wx)
  case first =>
    by_cases hck : cap = 1
    · have hn2 : m = 1 := by omega
      subst hck
      subst hn2
      have HR4 := Lib.hid (show Rd w (.slice (some ⟨b, off, none⟩) 0 0) (rr.map u8v) from by
        have : rr = [] := List.length_eq_zero_iff.1 HRL.out
        rw [this]
        exact rd_empty w _ 0)
      go_wp2_with fail
      go_meet
      exact ⟨w.heap.size, rfl, Nat.le_refl _, by simp, newQ HR4.out, below_alloc w _⟩
    · have hck2 : ¬ 1 = cap := fun h => hck h.symm
      have HR4 := Lib.hid (show Rd w (.slice (some ⟨b, off + 1, none⟩) (m - 1) (cap - 1)) (rr.map u8v) from by
        have h := rd_drop HR.out (n := 1) (by omega)
        rw [← List.map_drop] at h
        exact h)
      go_wp2_with fail
      go_meet
      exact ⟨w.heap.size, rfl, Nat.le_refl _, by simp, newQ HR4.out, below_alloc w _⟩
  case rest =>
    obtain ⟨r, rfl, hrw, hrW, hq1, hb1⟩ := hcut
    have HQ1 := Lib.hid hq1
    have HB1 := Lib.hid hb1
    have hx0 := HX0.out wc hb1
    have hsz1 := hb1.size
    clear hq1 hb1
    go_wp2_with fail
    go_loopw [9, 11] (fun v i wr => ∃ (q : Nat) (ps : Row) (left : List Nat) (bad : Bool), q ≤ c ∧ i = .int .i64 (q : Int) ∧ ps.length = q ∧ (∀ x ∈ xs ps, OkT nums x) ∧ FarO wc.heap.size wr v ps ∧ IsQB wc.heap.size wr r left bad ∧ (∀ x ∈ left, x < 256) ∧ left.length ≤ 900000 ∧ C1 nums rr (c : Int) (xs ps) left bad q ∧ wc.grownBy wr (some r)) (fun _ i _ => c - (intOf i).toNat)
    case atStart => exact ⟨0, [], rr, false, Nat.zero_le _, rfl, rfl, (fun x hx => by simp [xs] at hx), farO_nil _ _, HQ1.out, H256.out, HBIG.out, c1_start nums rr c, World.grownBy.refl _ _⟩
    case round =>
      obtain ⟨q, ps, left, bad, hq, rfl, hpl, hok, hfar, hqb, hm2, hbl, hC, hgr⟩ := hrel
      obtain ⟨ao, ac, rfl⟩ := hfar.row.shape
      rw [hpl] at hfar ⊢
      have HLEN := Lib.hid hpl
      have HOK := Lib.hid hok
      have HO := Lib.hid hfar
      have HQT := Lib.hid hqb
      have HM2 := Lib.hid hm2
      have HC := Lib.hid hC
      have HG := Lib.hid hgr
      have hq0 : (0 : Int) ≤ (q : Int) := by omega
      obtain ⟨vq, hvq, _⟩ := hqb
      obtain ⟨_, hcb, _, _⟩ := isQ_cells hvq
      clear hpl hok hfar hm2 hC hgr hvq
      by_cases hlt : q < c
      · have hlti : (q : Int) < (c : Int) := by omega
        cases bad with
        | true =>
          have HFIN := Lib.hid (c1_end HC.out (.inr rfl))
          have HF := Lib.hid (far_mono HO.out.toFar (show w.heap.size ≤ wc.heap.size from hsz1))
          have HBW := Lib.hid (show Below w.heap.size w wr from HB1.out.grown HG.out hsz1 (fun k e => by cases e; exact hrw))
          have HTL := Lib.hid (rtell_any nums 1 ps (.slice ao q ac) wr HOK.out HF.out.row.rd HF.out.els)
          obtain ⟨o, ho⟩ : ∃ o, o = gTell nums ((1 : Nat) : Int) (xs ps) := ⟨_, rfl⟩
          have HTL2 : Hid (Calls Try.prog 24 #[.int .i64 1, .slice ao q ac, .bool nums] wr fun e w' => RetTell wr.heap.size o e w' ∧ Below wr.heap.size wr w') := Lib.hid (by rw [ho]; exact HTL.out)
          have HOE := Lib.hid ho.symm
          have hx0 := HX0.out wr HBW.out
          clear ho HTL
          go_wp2_with fail
          refine HTL2.out.mono ?_
          rintro e w3 ⟨hret, hb3⟩
          have HB3 := Lib.hid (show Below w.heap.size w w3 from HBW.out.trans (hb3.mono HBW.out.size))
          have HF3 := Lib.hid (HF.out.kept hb3)
          obtain ⟨vq3, hvq3, _⟩ := HQT.out.kept hb3 hrW
          obtain ⟨_, hcb3, _, _⟩ := isQ_cells hvq3
          clear hvq3 hcb hx0 HTL2
          have HNT := Lib.hid (fin_bad HFIN.out rfl)
          cases o with
          | none =>
            obtain rfl : e = _ := hret
            clear hb3
            go_wp2_with fail
            go_ret2
            exact ⟨.inr ⟨HNT.out, rfl⟩, HB3.out⟩
          | some bs =>
            obtain ⟨vt, rfl, hown3⟩ := hret
            clear hb3 hown3
            go_wp2_with fail
            go_ret2
            exact ⟨.inr ⟨HNT.out, rfl⟩, HB3.out⟩
        | false =>
          have HST := Lib.hid (c1_step HC.out hlti)
          have HVQ := Lib.hid (refvalue_any nums wc.heap.size r left false wr HQT.out hrW HM2.out (by omega))
          have hok2 := valQ_ok nums (bad := false) HM2.out
          have hm3 := valQ_mem (nums := nums) (bad := false) HM2.out
          have hbl3 := valQ_len nums left false
          obtain ⟨x, hx⟩ : ∃ x, x = (valQ nums left false).1 := ⟨_, rfl⟩
          obtain ⟨left2, hl2⟩ : ∃ l, l = (valQ nums left false).2.1 := ⟨_, rfl⟩
          obtain ⟨bad2, hb2⟩ : ∃ b, b = (valQ nums left false).2.2 := ⟨_, rfl⟩
          rw [← hx, ← hl2, ← hb2] at HST HVQ
          rw [← hx] at hok2
          rw [← hl2] at hm3 hbl3
          have HOK2 := Lib.hid hok2
          have HM3 := Lib.hid hm3
          clear hx hl2 hb2 hok2 hm3
          go_wp2_with fail
          refine HVQ.out.mono ?_
          rintro e w2 ⟨u, rfl, hu, hqb2, hg2⟩
          have HU := Lib.hid (show OwnB wc.heap.size w2 u x from own_mono hu HG.out.size)
          have HOFF := Lib.hid (own_off (B := 0) HO.out.row hu)
          have HO2 := Lib.hid (HO.out.keptR hg2 hrW)
          have HQ2 := Lib.hid hqb2
          have HG2 := Lib.hid (grown_trans HG.out hg2)
          have hsz3 : wc.heap.size ≤ w2.heap.size := HG2.out.size
          obtain ⟨ua, uc, rfl⟩ := hu.shape
          clear hu hqb2 hg2 HVQ
          have HOA := Lib.hid (show (w2.alloc (.cells #[.slice ua (List.length x) uc] 24)).ownsRow wc.heap.size 24 1 (.slice ao q ac) q (vs ps) from by have h := World.ownsRow.alloc HO2.out.row (.cells #[.slice ua (List.length x) uc] 24); rw [HLEN.out] at h; exact h)
          have HLT := Lib.hid (rdS_lit w2 #[.slice ua (List.length x) uc] 24 1 rfl)
          have hszB : wc.heap.size ≤ (w2.alloc (.cells #[.slice ua (List.length x) uc] 24)).heap.size := le_alloc0 hsz3 _
          have HONE := Lib.hid (ones_one (.slice ua (List.length x) uc) rfl)
          go_wp2_with (at_builtin; go_must (refine wpList_append_k elmR rfl _ _ rfl wc.heap.size _ _ _ rfl HOA.out _ [[.slice ua (List.length x) uc]] rfl HLT.out HONE.out (by simp; omega) hszB (q + 1) rfl ?_); intro ao9 cap9 w9 hown9 hgrow9 hnew9; have HO9 := Lib.hid hown9; have HG9 := Lib.hid hgrow9; have HN9 := Lib.hid hnew9; clear hown9 hgrow9 hnew9)
          go_roundw
          case rel =>
            have hg9 : w2.grownBy w9 (Value.slice ao q ac).ownBlock := grown_trans (grownBy_any (World.grownBy_alloc w2 _ none)) HG9.out
            have hrow := ownR_base HO2.out.row
            refine ⟨q + 1, ps ++ [(.slice ua (List.length x) uc, x)], left2, bad2, by omega, by go_num, by rw [List.length_append, HLEN.out]; rfl, fun y hy => ?_, FarO.snoc HO2.out HU.out HOFF.out ?_ hg9 ?_, HQ2.out.own hg9 hrow hrW, HM3.out, by omega, by rw [xs_snoc]; exact HST.out, grown_own (base := 0) HG2.out hg9 hrow⟩
            · rw [xs_snoc] at hy
              rcases List.mem_append.1 hy with hy | hy
              · exact HOK.out y hy
              · rw [List.mem_singleton.1 hy]; exact HOK2.out
            · rw [HLEN.out]
              have h := HO9.out
              simpa using h
            · intro k hk
              rcases HN9.out k hk with h | h
              · exact .inl h
              · right; rw [h]; simp
          case measure => simp [intOf]; omega
      · have hqc : q = c := by omega
        have hlti : ¬ (q : Int) < (c : Int) := by omega
        have HFIN := Lib.hid (c1_end HC.out (.inl (by omega)))
        clear hqc
        have HF := Lib.hid (far_mono HO.out.toFar (show w.heap.size ≤ wc.heap.size from hsz1))
        have HBW := Lib.hid (show Below w.heap.size w wr from HB1.out.grown HG.out hsz1 (fun k e => by cases e; exact hrw))
        have HTL := Lib.hid (rtell_any nums 1 ps (.slice ao q ac) wr HOK.out HF.out.row.rd HF.out.els)
        obtain ⟨o, ho⟩ : ∃ o, o = gTell nums ((1 : Nat) : Int) (xs ps) := ⟨_, rfl⟩
        have HTL2 : Hid (Calls Try.prog 24 #[.int .i64 1, .slice ao q ac, .bool nums] wr fun e w' => RetTell wr.heap.size o e w' ∧ Below wr.heap.size wr w') := Lib.hid (by rw [ho]; exact HTL.out)
        have HOE := Lib.hid ho.symm
        have hx0 := HX0.out wr HBW.out
        clear ho HTL
        go_wp2_with fail
        refine HTL2.out.mono ?_
        rintro e w3 ⟨hret, hb3⟩
        have HB3 := Lib.hid (show Below w.heap.size w w3 from HBW.out.trans (hb3.mono HBW.out.size))
        have HF3 := Lib.hid (HF.out.kept hb3)
        obtain ⟨vq3, hvq3, _⟩ := HQT.out.kept hb3 hrW
        obtain ⟨_, hcb3, _, _⟩ := isQ_cells hvq3
        clear hvq3 hcb hx0 HTL2
        cases o with
        | none =>
          obtain rfl : e = _ := hret
          have HNT := Lib.hid (fin_none HFIN.out HOE.out)
          clear hb3
          cases bad with
          | true =>
            go_wp2_with fail
            go_ret2
            exact ⟨.inr ⟨HNT.out, rfl⟩, HB3.out⟩
          | false =>
            go_wp2_with fail
            go_ret2
            exact ⟨.inr ⟨HNT.out, rfl⟩, HB3.out⟩
        | some bs =>
          obtain ⟨vt, rfl, hown3⟩ := hret
          cases bad with
          | true =>
            have HNT := Lib.hid (fin_bad HFIN.out rfl)
            clear hb3 hown3
            go_wp2_with fail
            go_ret2
            exact ⟨.inr ⟨HNT.out, rfl⟩, HB3.out⟩
          | false =>
            by_cases hqc2 : (q : Int) = (c : Int)
            · have hqcb : ((q : Int) == (c : Int)) = true := beq_iff_eq.2 hqc2
              have hqcn : ((q : Int) != (c : Int)) = false := by unfold bne; rw [hqcb]; rfl
              have h8 := gTell_lt HOE.out HOK.out
              obtain ⟨at3, ct3, rfl⟩ := hown3.shape
              have hrt := OwnB.rd hown3
              obtain ⟨m3, hm3⟩ : ∃ m3, m3 = bs.length := ⟨_, rfl⟩
              rw [← hm3] at hrt hown3 ⊢
              have hcv := run_str (P := Try.prog) w3 24 9 5 Try.underlying24 Try.underlying5 Try.underlying9 hrt (lt256 _ h8)
              have hrb := HR.out.kept HB3.out
              have hk8 : ∀ x ∈ 1 :: rr, x < 256 := fun x hx => by
                rcases List.mem_cons.1 hx with rfl | hx
                · first | decide | omega
                · exact H256.out x hx
              have hcw := run_str (P := Try.prog) w3 24 9 5 Try.underlying24 Try.underlying5 Try.underlying9 hrb (lt256 _ hk8)
              have HLQ := Lib.hid (show ((xs ps).length : Int) = (c : Int) from by rw [len_xs, HLEN.out]; exact hqc2)
              clear hqc2
              by_cases heq : bs = 1 :: rr
              · have hcm : ((strOf bs).toList == (strOf (1 :: rr)).toList) = true := by rw [heq]; exact beq_self_eq_true _
                have hcm2 : ((strOf bs).toList != (strOf (1 :: rr)).toList) = false := by unfold bne; rw [hcm]; rfl
                have HT := Lib.hid (fin_yes HOE.out HLQ.out HOK.out heq)
                have HSH := Lib.hid (refshort_any ps (.slice ao q ac) w3 (by rw [HLEN.out]; omega) HF3.out.row.rd HF3.out.els)
                have hall : ((xs ps).all fun x => decide (x.length ≤ 64)) = true := by
                  rw [List.all_eq_true]
                  intro x hx
                  rw [decide_eq_true_iff]
                  exact (HOK.out x hx).2.1
                rw [hall] at HSH
                clear hb3 hown3 hrt hrb hk8 h8 heq hm3 hall
                cases nums with
                | true =>
                  go_wp2_with fail
                  go_ret2
                  exact ⟨.inl ⟨_, HT.out, _, ps, rfl, HF3.out, rfl⟩, HB3.out⟩
                | false =>
                  go_wp2_with fail
                  refine HSH.out.mono ?_
                  rintro e w4 ⟨rfl, rfl⟩
                  go_wp2_with fail
                  go_ret2
                  exact ⟨.inl ⟨_, HT.out, _, ps, rfl, HF3.out, rfl⟩, HB3.out⟩
              · have hcm := strOf_inj h8 hk8 heq
                have hcm2 : (!((strOf bs).toList == (strOf (1 :: rr)).toList)) = true := by rw [hcm]; rfl
                have hcm3 : ((strOf bs).toList != (strOf (1 :: rr)).toList) = true := hcm2
                have HNT := Lib.hid (fin_un HFIN.out HOE.out heq)
                clear hb3 hown3 hrt hrb hk8 h8 heq hm3
                go_wp2_with fail
                go_ret2
                exact ⟨.inr ⟨HNT.out, rfl⟩, HB3.out⟩
            · have hqcb : ((q : Int) == (c : Int)) = false := beq_eq_false_iff_ne.2 hqc2
              have hqcn : ((q : Int) != (c : Int)) = true := by unfold bne; rw [hqcb]; rfl
              have HNT := Lib.hid (fin_len HFIN.out (by rw [len_xs, HLEN.out]; exact hqc2))
              clear hb3 hown3 hqc2
              go_wp2_with fail
              go_ret2
              exact ⟨.inr ⟨HNT.out, rfl⟩, HB3.out⟩


end Go.Proofs.Ytjcmekhamohbnaa.Bc

namespace Go.Proofs.Ytjcmekhamohbnaa.Bc
set_option linter.unusedVariables false
set_option linter.unusedSimpArgs false
open Go.RowKit

set_option maxRecDepth 100000 in
set_option maxHeartbeats 8000000 in
theorem get_2 (nums : Bool) (rr : List Nat) (c : Nat) (bv : Value) (w : World) (hr : Rd w bv ((2 :: rr).map u8v)) (h256 : ∀ x ∈ rr, x < 256) (hbig : rr.length ≤ 900000) (hc : c ≤ 65535) :
    Calls Try.prog 29 #[bv, .int .i64 (c : Int), .bool nums] w fun e w' => RetGet w.heap.size nums 2 rr (c : Int) e w' ∧ Below w.heap.size w w' := by
  obtain ⟨ao, cap, rfl⟩ := rd_shape1 hr
  rw [List.length_map] at hr ⊢
  obtain ⟨m, hm⟩ : ∃ m, m = List.length (2 :: rr) := ⟨_, rfl⟩
  have hrl2 : rr.length = m - 1 := by rw [hm, List.length_cons]; omega
  have hm1 : 1 ≤ m := by rw [hm, List.length_cons]; omega
  rw [← hm] at hr ⊢
  have HRL := Lib.hid hrl2
  have HR := Lib.hid hr
  have H256 := Lib.hid h256
  have HBIG := Lib.hid hbig
  have HRM := Lib.hid (show m ≤ 900001 by omega)
  obtain ⟨b, off, rfl, hcell⟩ := (rd_cells hr).2 (by omega)
  have hx0 := hcell 0 (by omega)
  rw [Nat.add_zero] at hx0
  have HX0 := Lib.hid (show ∀ w', Below w.heap.size w w' → w'.cell? ⟨b, off, none⟩ = some (.int .u8 (2 : Int)) from fun w' h => (h.cell (World.block_lt_of_cell? _ _ hx0)).trans hx0)
  have hcapn := rd_cap HR.out
  have hnb : ((m : Int) == 0) = false := by rw [beq_eq_false_iff_ne]; omega
  have hnb2 : ¬ ((m : Int) = 0) := by omega
  have hnp : (0 : Int) < (m : Int) := by omega
  have hn1i : (1 : Int) ≤ (m : Int) := by omega
  have hc0 : decide ((c : Int) < 0) = false := decide_eq_false (by omega)
  have hc00 : ¬ (c : Int) < 0 := by omega
  have hc01 : (0 : Int) ≤ (c : Int) := by omega
  have hc1 : decide ((c : Int) > 65535) = false := decide_eq_false (by omega)
  have hc11 : ¬ (c : Int) > 65535 := by omega
  clear hr h256 hm hrl2 hcell hx0 hbig
  go_enter Try.func29, Try.ntmps29
  go_upto_region 3 with (fail)
  go_cut [8] (fun p wx => ∃ r, p = .pointer (some ⟨r, 0, none⟩) ∧ w.heap.size ≤ r ∧ r < wx.heap.size ∧ IsQB wx.heap.size wx r rr false ∧ Below w.heap.size w wx)
  case first =>
    by_cases hck : cap = 1
    · have hn2 : m = 1 := by omega
      subst hck
      subst hn2
      have HR4 := Lib.hid (show Rd w (.slice (some ⟨b, off, none⟩) 0 0) (rr.map u8v) from by
        have : rr = [] := List.length_eq_zero_iff.1 HRL.out
        rw [this]
        exact rd_empty w _ 0)
      go_wp2_with fail
      go_meet
      exact ⟨w.heap.size, rfl, Nat.le_refl _, by simp, newQ HR4.out, below_alloc w _⟩
    · have hck2 : ¬ 1 = cap := fun h => hck h.symm
      have HR4 := Lib.hid (show Rd w (.slice (some ⟨b, off + 1, none⟩) (m - 1) (cap - 1)) (rr.map u8v) from by
        have h := rd_drop HR.out (n := 1) (by omega)
        rw [← List.map_drop] at h
        exact h)
      go_wp2_with fail
      go_meet
      exact ⟨w.heap.size, rfl, Nat.le_refl _, by simp, newQ HR4.out, below_alloc w _⟩
  case rest =>
    obtain ⟨r, rfl, hrw, hrW, hq1, hb1⟩ := hcut
    have HQ1 := Lib.hid hq1
    have HB1 := Lib.hid hb1
    have hx0 := HX0.out wc hb1
    have hsz1 := hb1.size
    clear hq1 hb1
    go_wp2_with fail
    go_loopw [9] (fun v wr => ∃ (q : Nat) (ps : Row) (left : List Nat) (bad : Bool), q ≤ c ∧ ps.length = q ∧ (∀ x ∈ xs ps, OkT nums x) ∧ FarO wc.heap.size wr v ps ∧ IsQB wc.heap.size wr r left bad ∧ (∀ x ∈ left, x < 256) ∧ left.length ≤ 900000 ∧ C2 nums rr (c : Int) (xs ps) left bad q ∧ wc.grownBy wr (some r)) (fun v _ => c - lenV v)
    case atStart => exact ⟨0, [], rr, false, Nat.zero_le _, rfl, (fun x hx => by simp [xs] at hx), farO_nil _ _, HQ1.out, H256.out, HBIG.out, c2_start nums rr c, World.grownBy.refl _ _⟩
    case round =>
      obtain ⟨q, ps, left, bad, hq, hpl, hok, hfar, hqb, hm2, hbl, hC, hgr⟩ := hrel
      obtain ⟨ao, ac, rfl⟩ := hfar.row.shape
      rw [hpl] at hfar ⊢
      have HLEN := Lib.hid hpl
      have HOK := Lib.hid hok
      have HO := Lib.hid hfar
      have HQT := Lib.hid hqb
      have HM2 := Lib.hid hm2
      have HC := Lib.hid hC
      have HG := Lib.hid hgr
      have hq0 : (0 : Int) ≤ (q : Int) := by omega
      obtain ⟨vq, hvq, _⟩ := hqb
      obtain ⟨_, hcb, _, _⟩ := isQ_cells hvq
      clear hpl hok hfar hm2 hC hgr hvq
      by_cases hlt : q < c
      · have hlti : (q : Int) < (c : Int) := by omega
        cases bad with
        | true =>
          have HFIN := Lib.hid (c2_end HC.out (.inr rfl))
          have HF := Lib.hid (far_mono HO.out.toFar (show w.heap.size ≤ wc.heap.size from hsz1))
          have HBW := Lib.hid (show Below w.heap.size w wr from HB1.out.grown HG.out hsz1 (fun k e => by cases e; exact hrw))
          have HTL := Lib.hid (rtell_any nums 2 ps (.slice ao q ac) wr HOK.out HF.out.row.rd HF.out.els)
          obtain ⟨o, ho⟩ : ∃ o, o = gTell nums ((2 : Nat) : Int) (xs ps) := ⟨_, rfl⟩
          have HTL2 : Hid (Calls Try.prog 24 #[.int .i64 2, .slice ao q ac, .bool nums] wr fun e w' => RetTell wr.heap.size o e w' ∧ Below wr.heap.size wr w') := Lib.hid (by rw [ho]; exact HTL.out)
          have HOE := Lib.hid ho.symm
          have hx0 := HX0.out wr HBW.out
          clear ho HTL
          go_wp2_with fail
          refine HTL2.out.mono ?_
          rintro e w3 ⟨hret, hb3⟩
          have HB3 := Lib.hid (show Below w.heap.size w w3 from HBW.out.trans (hb3.mono HBW.out.size))
          have HF3 := Lib.hid (HF.out.kept hb3)
          obtain ⟨vq3, hvq3, _⟩ := HQT.out.kept hb3 hrW
          obtain ⟨_, hcb3, _, _⟩ := isQ_cells hvq3
          clear hvq3 hcb hx0 HTL2
          have HNT := Lib.hid (fin_bad HFIN.out rfl)
          cases o with
          | none =>
            obtain rfl : e = _ := hret
            clear hb3
            go_wp2_with fail
            go_ret2
            exact ⟨.inr ⟨HNT.out, rfl⟩, HB3.out⟩
          | some bs =>
            obtain ⟨vt, rfl, hown3⟩ := hret
            clear hb3 hown3
            go_wp2_with fail
            go_ret2
            exact ⟨.inr ⟨HNT.out, rfl⟩, HB3.out⟩
        | false =>
          have HNQ := Lib.hid (refNumQB_any wc.heap.size r left false wr HQT.out HM2.out (by omega))
          have hnlt := numQ_lt left false
          have hm4 := numQ_mem (bad := false) HM2.out
          have hbl4 := numQ_len left false
          obtain ⟨N, left1, bad1, hnq⟩ : ∃ N l1 b1, numQ left false = (N, l1, b1) := ⟨_, _, _, rfl⟩
          rw [hnq] at HNQ hnlt hm4 hbl4
          simp only at hnlt hm4 hbl4
          have HM4 := Lib.hid hm4
          obtain ⟨x, left2, bad2, hvl⟩ : ∃ x l2 b2, valQ nums left1 bad1 = (x, l2, b2) := ⟨_, _, _, rfl⟩
          have hok2 := valQ_ok nums (bad := bad1) hm4
          have hm3 := valQ_mem (nums := nums) (bad := bad1) hm4
          have hbl3 := valQ_len nums left1 bad1
          have HVQ := Lib.hid fun (w' : World) (h : IsQB wc.heap.size w' r left1 bad1) => refvalue_any nums wc.heap.size r left1 bad1 w' h hrW HM4.out (by omega)
          rw [hvl] at hok2 hm3 hbl3 HVQ
          simp only at hok2 hm3 hbl3
          have HST := Lib.hid (c2_step HC.out hlti hnq hvl)
          have HOK2 := Lib.hid hok2
          have HM3 := Lib.hid hm3
          clear hnq hvl hm4 hok2 hm3
          go_wp2_with fail
          refine HNQ.out.mono ?_
          rintro e w2 ⟨rfl, hqb2, hg2⟩
          have HG2 := Lib.hid (grown_trans HG.out hg2)
          have HO2 := Lib.hid (HO.out.keptR hg2 hrW)
          have HV2 := Lib.hid (HVQ.out w2 hqb2)
          clear hqb2 hg2 HNQ HVQ
          go_wp2_with fail
          refine HV2.out.mono ?_
          rintro e w4 ⟨u, rfl, hu, hqb4, hg4⟩
          have HU := Lib.hid (show OwnB wc.heap.size w4 u x from own_mono hu HG2.out.size)
          have HOFF := Lib.hid (own_off (B := 0) HO2.out.row hu)
          have HO4 := Lib.hid (HO2.out.keptR hg4 hrW)
          have HQ4 := Lib.hid hqb4
          have HG4 := Lib.hid (grown_trans HG2.out hg4)
          have HBZ := Lib.hid (show Below w.heap.size w w4 from HB1.out.grown HG4.out hsz1 (fun k e => by cases e; exact hrw))
          obtain ⟨ua, uc, rfl⟩ := hu.shape
          clear hu hqb4 hg4 HV2 HO2 HG2
          obtain ⟨K, hK⟩ : ∃ K, K = c - q := ⟨_, rfl⟩
          have hKw : IntKind.i64.wrap ((c : Int) - (q : Int)) = (K : Int) := by rw [IntWalk.i64_in _ (by omega)]; omega
          have hKw2 : (c : Int) - (q : Int) = (K : Int) := by omega
          have hKw3 : IntKind.i64.wrap (K : Int) = (K : Int) := IntWalk.i64_in _ (by omega)
          have hKw4 : IntKind.u64.wrap (K : Int) = (K : Int) := IntWalk.u64_in _ (by omega)
          have HKK := Lib.hid hK
          clear hK
          by_cases hN0 : N = 0
          · have hN0b : ((N : Int) == 0) = true := by rw [beq_iff_eq]; omega
            have HNT := Lib.hid (HST.out.1 (.inl hN0))
            clear hN0
            go_wp2_with fail
            go_ret2
            exact ⟨.inr ⟨HNT.out, rfl⟩, HBZ.out⟩
          · have hN0b : ((N : Int) == 0) = false := by rw [beq_eq_false_iff_ne]; omega
            have hN0c : ¬ (N : Int) = 0 := by omega
            by_cases hNK : K < N
            · have hNKb : decide ((K : Int) < (N : Int)) = true := by simp; omega
              have HNT := Lib.hid (HST.out.1 (.inr (by have := HKK.out; omega)))
              go_wp2_with fail
              go_ret2
              exact ⟨.inr ⟨HNT.out, rfl⟩, HBZ.out⟩
            · have hNKb : decide ((K : Int) < (N : Int)) = false := by simp; omega
              go_wp2_with fail
              clear hcb
              obtain ⟨wo, rfl⟩ : ∃ wo : World, wo = wr := ⟨_, rfl⟩
              go_loopw [9, 12] (fun v i wr2 => ∃ (j I : Nat) (pj : Row), I + j = N ∧ i = .int .u64 (I : Int) ∧ xs pj = xs ps ++ List.replicate j x ∧ pj.length = q + j ∧ FarO wc.heap.size wr2 v pj ∧ OwnB wc.heap.size wr2 (.slice ua (List.length x) uc) x ∧ ((Value.slice ua (List.length x) uc).ownBlock = none ∨ (Value.slice ua (List.length x) uc).ownBlock ≠ v.ownBlock) ∧ IsQB wc.heap.size wr2 r left2 bad2 ∧ wc.grownBy wr2 (some r)) (fun _ i _ => (intOf i).toNat)
              case atStart => exact ⟨0, N, ps, by omega, rfl, by simp, by rw [HLEN.out]; rfl, HO4.out, HU.out, HOFF.out, HQ4.out, HG4.out⟩
              case round =>
                obtain ⟨j, I, pj, hIj, rfl, hxj, hlj, hfj, huj, hoj, hqj, hgj⟩ := hrel
                obtain ⟨aj, cj, rfl⟩ := hfj.row.shape
                obtain ⟨Q, hQ⟩ : ∃ Q, Q = pj.length := ⟨_, rfl⟩
                rw [← hQ] at hfj hoj ⊢
                have HLJ := Lib.hid hQ.symm
                have HQJ := Lib.hid (show Q = q + j by omega)
                have HXJ := Lib.hid hxj
                have HFJ := Lib.hid hfj
                have HUJ := Lib.hid huj
                have HOJ := Lib.hid hoj
                have HQB := Lib.hid hqj
                have HGJ := Lib.hid hgj
                have hsz3 : wc.heap.size ≤ wr.heap.size := hgj.size
                have hQb : Q ≤ 65535 := by have := HQJ.out; have := HKK.out; omega
                clear hQ hlj hxj hfj huj hoj hqj hgj
                by_cases hI : 0 < I
                · have hIi : (0 : Int) < (I : Int) := by omega
                  have hIb : decide ((0 : Int) < (I : Int)) = true := decide_eq_true hIi
                  obtain ⟨I2, hI2⟩ : ∃ I2, I2 = I - 1 := ⟨_, rfl⟩
                  have hIw : IntKind.u64.wrap ((I : Int) - 1) = (I2 : Int) := by rw [IntWalk.u64_in _ (by omega)]; omega
                  have hIw2 : (I : Int) - 1 = (I2 : Int) := by omega
                  have hIw3 : IntKind.u64.wrap (I2 : Int) = (I2 : Int) := IntWalk.u64_in _ (by omega)
                  have HI2 := Lib.hid hI2
                  clear hI2
                  have HOA := Lib.hid (show (wr.alloc (.cells #[.slice ua (List.length x) uc] 24)).ownsRow wc.heap.size 24 1 (.slice aj Q cj) Q (vs pj) from by have h := World.ownsRow.alloc HFJ.out.row (.cells #[.slice ua (List.length x) uc] 24); rw [HLJ.out] at h; exact h)
                  have HLT := Lib.hid (rdS_lit wr #[.slice ua (List.length x) uc] 24 1 rfl)
                  have hszB : wc.heap.size ≤ (wr.alloc (.cells #[.slice ua (List.length x) uc] 24)).heap.size := le_alloc0 hsz3 _
                  have HONE := Lib.hid (ones_one (.slice ua (List.length x) uc) rfl)
                  go_wp2_with (at_builtin; go_must (refine wpList_append_k elmR rfl _ _ rfl wc.heap.size _ _ _ rfl HOA.out _ [[.slice ua (List.length x) uc]] rfl HLT.out HONE.out (by simp; omega) hszB (Q + 1) rfl ?_); intro ao9 cap9 w9 hown9 hgrow9 hnew9; have HO9 := Lib.hid hown9; have HG9 := Lib.hid hgrow9; have HN9 := Lib.hid hnew9; clear hown9 hgrow9 hnew9)
                  go_roundw
                  case rel =>
                    have hg9 : wr.grownBy w9 (Value.slice aj Q cj).ownBlock := grown_trans (grownBy_any (World.grownBy_alloc wr _ none)) HG9.out
                    have hrow := ownR_base HFJ.out.row
                    have hn9 : ∀ k, (Value.slice ao9 (Q + 1) cap9).ownBlock = some k → (Value.slice aj Q cj).ownBlock = some k ∨ wr.heap.size ≤ k := by
                      intro k hk
                      rcases HN9.out k hk with h | h
                      · exact .inl h
                      · right; rw [h]; simp
                    refine ⟨j + 1, I2, pj ++ [(.slice ua (List.length x) uc, x)], by have := HI2.out; omega, rfl, ?_, by rw [List.length_append, HLJ.out, HQJ.out]; rfl, FarO.snoc HFJ.out HUJ.out HOJ.out ?_ hg9 hn9, World.ownsRow.kept HUJ.out hg9 HOJ.out, ?_, HQB.out.own hg9 hrow hrW, grown_own (base := 0) HGJ.out hg9 hrow⟩
                    · rw [xs_snoc, HXJ.out, List.append_assoc, List.replicate_succ']
                    · rw [HLJ.out]
                      have h := HO9.out
                      simpa using h
                    · rcases HOJ.out with h | h
                      · exact .inl h
                      · cases e : (Value.slice ua (List.length x) uc).ownBlock with
                        | none => exact .inl rfl
                        | some g =>
                          right
                          intro e2
                          rcases hn9 g e2.symm with h3 | h3
                          · exact h (e.trans h3.symm)
                          · have := own_lt HUJ.out e; omega
                  case measure => simp [intOf]; have := HI2.out; omega
                · have hIi : ¬ (0 : Int) < (I : Int) := by omega
                  have hIb : decide ((0 : Int) < (I : Int)) = false := decide_eq_false hIi
                  have HjN := Lib.hid (show j = N by omega)
                  go_wp2_with fail
                  go_roundw
                  case rel =>
                    refine ⟨Q, pj, left2, bad2, by have := HQJ.out; have := HKK.out; omega, HLJ.out, fun y hy => ?_, HFJ.out, HQB.out, HM3.out, by omega, ?_, HGJ.out⟩
                    · rw [HXJ.out] at hy
                      rcases List.mem_append.1 hy with hy | hy
                      · exact HOK.out y hy
                      · rw [(List.mem_replicate.1 hy).2]; exact HOK2.out
                    · rw [HXJ.out, HQJ.out, HjN.out]
                      exact HST.out.2
                  case measure => simp [lenV]; have := HQJ.out; have := HKK.out; omega
      · have hqc : q = c := by omega
        have hlti : ¬ (q : Int) < (c : Int) := by omega
        have HFIN := Lib.hid (c2_end HC.out (.inl (by omega)))
        clear hqc
        have HF := Lib.hid (far_mono HO.out.toFar (show w.heap.size ≤ wc.heap.size from hsz1))
        have HBW := Lib.hid (show Below w.heap.size w wr from HB1.out.grown HG.out hsz1 (fun k e => by cases e; exact hrw))
        have HTL := Lib.hid (rtell_any nums 2 ps (.slice ao q ac) wr HOK.out HF.out.row.rd HF.out.els)
        obtain ⟨o, ho⟩ : ∃ o, o = gTell nums ((2 : Nat) : Int) (xs ps) := ⟨_, rfl⟩
        have HTL2 : Hid (Calls Try.prog 24 #[.int .i64 2, .slice ao q ac, .bool nums] wr fun e w' => RetTell wr.heap.size o e w' ∧ Below wr.heap.size wr w') := Lib.hid (by rw [ho]; exact HTL.out)
        have HOE := Lib.hid ho.symm
        have hx0 := HX0.out wr HBW.out
        clear ho HTL
        go_wp2_with fail
        refine HTL2.out.mono ?_
        rintro e w3 ⟨hret, hb3⟩
        have HB3 := Lib.hid (show Below w.heap.size w w3 from HBW.out.trans (hb3.mono HBW.out.size))
        have HF3 := Lib.hid (HF.out.kept hb3)
        obtain ⟨vq3, hvq3, _⟩ := HQT.out.kept hb3 hrW
        obtain ⟨_, hcb3, _, _⟩ := isQ_cells hvq3
        clear hvq3 hcb hx0 HTL2
        cases o with
        | none =>
          obtain rfl : e = _ := hret
          have HNT := Lib.hid (fin_none HFIN.out HOE.out)
          clear hb3
          cases bad with
          | true =>
            go_wp2_with fail
            go_ret2
            exact ⟨.inr ⟨HNT.out, rfl⟩, HB3.out⟩
          | false =>
            go_wp2_with fail
            go_ret2
            exact ⟨.inr ⟨HNT.out, rfl⟩, HB3.out⟩
        | some bs =>
          obtain ⟨vt, rfl, hown3⟩ := hret
          cases bad with
          | true =>
            have HNT := Lib.hid (fin_bad HFIN.out rfl)
            clear hb3 hown3
            go_wp2_with fail
            go_ret2
            exact ⟨.inr ⟨HNT.out, rfl⟩, HB3.out⟩
          | false =>
            by_cases hqc2 : (q : Int) = (c : Int)
            · have hqcb : ((q : Int) == (c : Int)) = true := beq_iff_eq.2 hqc2
              have hqcn : ((q : Int) != (c : Int)) = false := by unfold bne; rw [hqcb]; rfl
              have h8 := gTell_lt HOE.out HOK.out
              obtain ⟨at3, ct3, rfl⟩ := hown3.shape
              have hrt := OwnB.rd hown3
              obtain ⟨m3, hm3⟩ : ∃ m3, m3 = bs.length := ⟨_, rfl⟩
              rw [← hm3] at hrt hown3 ⊢
              have hcv := run_str (P := Try.prog) w3 24 9 5 Try.underlying24 Try.underlying5 Try.underlying9 hrt (lt256 _ h8)
              have hrb := HR.out.kept HB3.out
              have hk8 : ∀ x ∈ 2 :: rr, x < 256 := fun x hx => by
                rcases List.mem_cons.1 hx with rfl | hx
                · first | decide | omega
                · exact H256.out x hx
              have hcw := run_str (P := Try.prog) w3 24 9 5 Try.underlying24 Try.underlying5 Try.underlying9 hrb (lt256 _ hk8)
              have HLQ := Lib.hid (show ((xs ps).length : Int) = (c : Int) from by rw [len_xs, HLEN.out]; exact hqc2)
              clear hqc2
              by_cases heq : bs = 2 :: rr
              · have hcm : ((strOf bs).toList == (strOf (2 :: rr)).toList) = true := by rw [heq]; exact beq_self_eq_true _
                have hcm2 : ((strOf bs).toList != (strOf (2 :: rr)).toList) = false := by unfold bne; rw [hcm]; rfl
                have HT := Lib.hid (fin_yes HOE.out HLQ.out HOK.out heq)
                have HSH := Lib.hid (refshort_any ps (.slice ao q ac) w3 (by rw [HLEN.out]; omega) HF3.out.row.rd HF3.out.els)
                have hall : ((xs ps).all fun x => decide (x.length ≤ 64)) = true := by
                  rw [List.all_eq_true]
                  intro x hx
                  rw [decide_eq_true_iff]
                  exact (HOK.out x hx).2.1
                rw [hall] at HSH
                clear hb3 hown3 hrt hrb hk8 h8 heq hm3 hall
                cases nums with
                | true =>
                  go_wp2_with fail
                  go_ret2
                  exact ⟨.inl ⟨_, HT.out, _, ps, rfl, HF3.out, rfl⟩, HB3.out⟩
                | false =>
                  go_wp2_with fail
                  refine HSH.out.mono ?_
                  rintro e w4 ⟨rfl, rfl⟩
                  go_wp2_with fail
                  go_ret2
                  exact ⟨.inl ⟨_, HT.out, _, ps, rfl, HF3.out, rfl⟩, HB3.out⟩
              · have hcm := strOf_inj h8 hk8 heq
                have hcm2 : (!((strOf bs).toList == (strOf (2 :: rr)).toList)) = true := by rw [hcm]; rfl
                have hcm3 : ((strOf bs).toList != (strOf (2 :: rr)).toList) = true := hcm2
                have HNT := Lib.hid (fin_un HFIN.out HOE.out heq)
                clear hb3 hown3 hrt hrb hk8 h8 heq hm3
                go_wp2_with fail
                go_ret2
                exact ⟨.inr ⟨HNT.out, rfl⟩, HB3.out⟩
            · have hqcb : ((q : Int) == (c : Int)) = false := beq_eq_false_iff_ne.2 hqc2
              have hqcn : ((q : Int) != (c : Int)) = true := by unfold bne; rw [hqcb]; rfl
              have HNT := Lib.hid (fin_len HFIN.out (by rw [len_xs, HLEN.out]; exact hqc2))
              clear hb3 hown3 hqc2
              go_wp2_with fail
              go_ret2
              exact ⟨.inr ⟨HNT.out, rfl⟩, HB3.out⟩


end Go.Proofs.Ytjcmekhamohbnaa.Bc
