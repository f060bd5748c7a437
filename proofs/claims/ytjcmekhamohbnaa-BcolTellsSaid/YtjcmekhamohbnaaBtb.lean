/-
  The walk of BcolTells.
-/
import Derived.Test.YtjcmekhamohbnaaBta
import Derived.Test.YtjcmekhamohbnaaItg
import Derived.Test.YtjcmekhamohbnaaAwkF
namespace Go.Proofs.Ytjcmekhamohbnaa.Bc
set_option linter.unusedVariables false
set_option linter.unusedSimpArgs false
open Go.RowKit

theorem tellB_small (k : Int) {l : List By} (h8 : ∀ x ∈ l, ∀ a ∈ x, a < 256) (hl : l.length ≤ 300) : (∀ x ∈ (tellT k l).getD [], x < 256) ∧ ((tellT k l).getD []).length ≤ 60000 := by
  unfold tellT
  split
  · exact ⟨fun x hx => by simp at hx, by simp⟩
  · next h =>
    simp only [not_or] at h
    obtain ⟨h1, h2, h3, h4, h5⟩ := h
    have hA : (l.any fun x => decide (64 < x.length)) = false := by simpa using h5
    have hF : ∀ x ∈ l, Fit x := fun x hx => ⟨h8 x hx, by
      rw [List.any_eq_false] at hA
      have := hA x hx
      simpa using this⟩
    obtain ⟨g1, g2⟩ := told_lt k (by omega) l hF hl
    exact ⟨g1, Nat.le_trans g2 (by decide)⟩

set_option maxRecDepth 100000 in
set_option maxHeartbeats 40000000 in
theorem walk_bt (a0 : Option Addr) (len0 cap0 : Nat) (pr : Row) (a1 : Option Addr) (len1 cap1 : Nat) (z1 : List Int) (a2 : Int) (a3 : Int) (a4 : Option Addr) (len4 cap4 : Nat) (z4 : List Int) (a5 : Int) (a6 : Int) (a7 : Int) (w : World) (w0a : pr.length = len0) (w0b : Rd w (.slice a0 len0 cap0) (vs pr)) (w0c : Els w pr) (w0d : ∀ y ∈ xs pr, ∀ a ∈ y, a < 256) (w1 : IsRow .i64 w a1 len1 cap1 z1) (w2 : (Lit.int .i64 a2).wf = true) (w3 : (Lit.int .i64 a3).wf = true) (w4 : IsRow .u8 w a4 len4 cap4 z4) (w5 : (Lit.int .i64 a5).wf = true) (w6 : (Lit.int .u8 a6).wf = true) (w7 : (Lit.int .i64 a7).wf = true) :
    Calls Try.prog 3 #[.slice a0 len0 cap0, .slice a1 len1 cap1, .int .i64 a2, .int .i64 a3, .slice a4 len4 cap4, .int .i64 a5, .int .u8 a6, .int .i64 a7] w fun e w' => e = .returned (.bool true) ∧ Below w.heap.size w w' := by
  obtain ⟨la, hla, h1, h2⟩ := isRow_rd w1
  obtain ⟨raw, hl4, hr4, h256⟩ := isRow_u8 w4
  obtain ⟨b0, b1⟩ := wf_u8 w6
  obtain ⟨by0, rfl⟩ := Int.eq_ofNat_of_zero_le b0
  have hby : by0 < 256 := by omega
  have HC := Lib.hid (column_any pr a0 len0 cap0 la a1 len1 cap1 a2 w w0a w0b w0c w0d hla h1)
  clear w0a w0b w0c w0d w1 w2 w3 w4 w5 w6 w7 b0 b1 hla h1 h2
  by_cases hbr : len4 ≤ 200
  · have hbr' : decide ((200 : Int) < (len4 : Int)) = false := by simp; omega
    have HR4 := Lib.hid hr4
    have HL4 := Lib.hid hl4
    have H256 := Lib.hid h256
    clear hr4 hl4 h256
    obtain ⟨i0, hi, hz0, hz1, hz2⟩ := info_parts info8
    go_enter Try.func3, Try.ntmps3
    go_wp2_with fail
    refine HC.out.mono ?_
    rintro e x1 ⟨v1, rfl, ps, hfar1, hxl, hx8, hb1⟩
    obtain ⟨ao, cap, rfl⟩ := hfar1.row.shape
    obtain ⟨q, hq⟩ : ∃ q, q = ps.length := ⟨_, rfl⟩
    have HPL := Lib.hid (show ps.length = q from hq.symm)
    have HX8 := Lib.hid hx8
    have HR1 := Lib.hid hfar1.row.rd
    have HE1 := Lib.hid hfar1.els
    rw [← hq] at HR1 hxl ⊢
    have HB1 := Lib.hid hb1
    have hlt256 := encB_lt (l := xs ps) hx8 (by rw [len_xs]; omega)
    have HN1 := Lib.hid fun w' (h : Below x1.heap.size x1 w') => (encode_all ps (.slice ao q cap) w' hx8 (by omega) (HR1.out.kept h) (HE1.out.kept h)).mono fun e w'' h => enc_v h
    have HN2 := Lib.hid fun w' (h : Below x1.heap.size x1 w') => (refencodebytes_any ps (.slice ao q cap) w' hx8 (by omega) (HR1.out.kept h) (HE1.out.kept h)).mono fun e w'' h => enc_v h
    obtain ⟨B, hB⟩ : ∃ B, B = encB (xs ps) := ⟨_, rfl⟩
    rw [← hB] at hlt256 HN1 HN2
    obtain ⟨m, hm⟩ : ∃ m, m = B.length := ⟨_, rfl⟩
    rw [← hm] at HN1 HN2
    have H256B := Lib.hid hlt256
    clear HC hq hfar1 hb1 hlt256 hB hm
    go_upto_region 4 with (fail)
    go_cut [53] (fun s wx => s = .bool false ∧ Below x1.heap.size x1 wx)
    case first =>
      go_region_with (first
        | (go_at_call 6; go_must (refine (HN1.out _ (by first | assumption | exact below_drw' _ _)).mono ?_); rintro e wA ⟨aA, cA, rfl, hrA, hbA⟩; have hTA : Below x1.heap.size x1 wA := below_then (by first | assumption | exact below_drw' _ _) hbA; have hsA := run_str (P := Try.prog) wA 24 9 5 Try.underlying24 Try.underlying5 Try.underlying9 hrA (lt256 _ H256B.out); (try have hsA2 := run_str (P := Try.prog) wA 24 9 5 Try.underlying24 Try.underlying5 Try.underlying9 (hrB.kept hbA) (lt256 _ H256B.out)))
        | (go_at_call 7; go_must (refine (HN2.out _ (by first | assumption | exact below_drw' _ _)).mono ?_); rintro e wB ⟨aB, cB, rfl, hrB, hbB⟩; have hTB : Below x1.heap.size x1 wB := below_then (by first | assumption | exact below_drw' _ _) hbB; have hsB := run_str (P := Try.prog) wB 24 9 5 Try.underlying24 Try.underlying5 Try.underlying9 hrB (lt256 _ H256B.out); (try have hsB2 := run_str (P := Try.prog) wB 24 9 5 Try.underlying24 Try.underlying5 Try.underlying9 (hrA.kept hbB) (lt256 _ H256B.out))))
      all_goals
        go_wp2_with fail
        go_meet
        exact ⟨by simp, by assumption⟩
    case rest =>
      obtain ⟨rfl, hb2⟩ := hcut
      obtain ⟨x2, hx2⟩ : ∃ x2 : World, x2 = wc := ⟨_, rfl⟩
      rw [← hx2] at hb2 ⊢
      clear hx2
      have HB2 := Lib.hid (below_then HB1.out hb2)
      have HR2 := Lib.hid (HR1.out.kept hb2)
      have HE2 := Lib.hid (HE1.out.kept hb2)
      clear hb2 HN1 HN2 H256B
      go_wp2_with fail
      have HI5 := Lib.hid (five_ints x2 1 2 3 4 a3 3)
      obtain ⟨W2, hW2⟩ : ∃ W2 : World, W2 = x2.alloc (.cells #[.int .i64 1, .int .i64 2, .int .i64 3, .int .i64 4, .int .i64 a3] 3) := ⟨_, rfl⟩
      have HBW2 := Lib.hid (below_then HB2.out (below_alloc x2 (.cells #[.int .i64 1, .int .i64 2, .int .i64 3, .int .i64 4, .int .i64 a3] 3)))
      have HRX := Lib.hid (HR2.out.kept (below_alloc x2 (.cells #[.int .i64 1, .int .i64 2, .int .i64 3, .int .i64 4, .int .i64 a3] 3)))
      have HEX := Lib.hid (HE2.out.kept (below_alloc x2 (.cells #[.int .i64 1, .int .i64 2, .int .i64 3, .int .i64 4, .int .i64 a3] 3)))
      rw [← hW2] at HI5 HBW2 HRX HEX ⊢
      clear hW2 HB2 HR2 HE2
      go_loopw [57] (fun i wr => ∃ j : Nat, j ≤ 5 ∧ i = .int .i64 (j : Int) ∧ Below W2.heap.size W2 wr) (fun i _ => 5 - (intOf i).toNat)
      case atStart => exact ⟨0, by omega, rfl, Below.refl _ _⟩
      case round =>
        obtain ⟨jk, hjk, rfl, hbel⟩ := hrel
        obtain ⟨wo, rfl⟩ : ∃ wo : World, wo = wr := ⟨_, rfl⟩
        have HBO := Lib.hid hbel
        clear hbel
        by_cases hltk : jk < 5
        · have hdk : decide ((jk : Int) < 5) = true := by simp; omega
          obtain ⟨kk, hc⟩ := HI5.out jk hltk
          have hx := (HBO.out.cell (p := ⟨x2.heap.size, jk, none⟩) (World.block_lt_of_cell? _ _ hc)).trans hc
          clear hc
          have HRXO := Lib.hid (HRX.out.kept HBO.out)
          have HEXO := Lib.hid (HEX.out.kept HBO.out)
          obtain ⟨hs1, hs2⟩ := tellB_small kk (l := xs ps) HX8.out (by rw [len_xs, HPL.out]; omega)
          have HT1 := Lib.hid fun w' (h : Below wo.heap.size wo w') => (tell_any kk ps (.slice ao q cap) w' HX8.out (by rw [HPL.out]; omega) (HRXO.out.kept h) (HEXO.out.kept h)).mono fun e w'' h => tell_r h
          have HT2 := Lib.hid fun w' (h : Below wo.heap.size wo w') => (reftellbytes_any kk ps (.slice ao q cap) w' HX8.out (by rw [HPL.out]; omega) (HRXO.out.kept h) (HEXO.out.kept h)).mono fun e w'' h => tell_r h
          obtain ⟨o, ho⟩ : ∃ o, o = tellT kk (xs ps) := ⟨_, rfl⟩
          rw [← ho] at hs1 hs2 HT1 HT2
          obtain ⟨bs, hbs⟩ : ∃ bs, bs = o.getD [] := ⟨_, rfl⟩
          have HT1' := Lib.hid fun w' (h : Below wo.heap.size wo w') => show Calls Try.prog 8 #[.int .i64 kk, .slice ao q cap] w' fun e w'' => ∃ ab cb, e = .returned (.tuple #[.slice ab bs.length cb, .bool o.isSome]) ∧ Rd w'' (.slice ab bs.length cb) (bs.map u8v) ∧ Below w'.heap.size w' w'' from by subst hbs; exact HT1.out w' h
          have HT2' := Lib.hid fun w' (h : Below wo.heap.size wo w') => show Calls Try.prog 9 #[.int .i64 kk, .slice ao q cap] w' fun e w'' => ∃ ab cb, e = .returned (.tuple #[.slice ab bs.length cb, .bool o.isSome]) ∧ Rd w'' (.slice ab bs.length cb) (bs.map u8v) ∧ Below w'.heap.size w' w'' from by subst hbs; exact HT2.out w' h
          rw [← hbs] at hs1 hs2
          obtain ⟨bl, hbl⟩ : ∃ bl, bl = bs.length := ⟨_, rfl⟩
          obtain ⟨ob, hob⟩ : ∃ ob, ob = o.isSome := ⟨_, rfl⟩
          rw [← hbl, ← hob] at HT1' HT2'
          rw [← hbl] at hs2
          have HM := Lib.hid hs1
          have HBL := Lib.hid hbl
          have hbl2 : bl ≤ 60000 := hs2
          have hoo : (ob != ob) = false := bne_self_eq_false ob
          clear HT1 HT2 ho hbs hbl hob hs1 hs2
          go_wp2_with fail
          refine (HT1'.out _ (Below.refl _ _)).mono ?_
          rintro e w3 ⟨ab, cb, rfl, hr3b, hb3⟩
          have HRB3 := Lib.hid hr3b
          have HB3' := Lib.hid hb3
          clear hr3b hb3
          go_wp2_with fail
          refine (HT2'.out _ HB3'.out).mono ?_
          rintro e W1 ⟨ao3, capc, rfl, hr4, hb4⟩
          have HRB1 := Lib.hid hr4
          have HB1 := Lib.hid (show Below W2.heap.size W2 W1 from below_then (below_then HBO.out HB3'.out) hb4)
          have hsA := run_str (P := Try.prog) W1 24 9 5 Try.underlying24 Try.underlying5 Try.underlying9 (HRB3.out.kept hb4) (lt256 _ HM.out)
          have hsB := run_str (P := Try.prog) W1 24 9 5 Try.underlying24 Try.underlying5 Try.underlying9 HRB1.out (lt256 _ HM.out)
          have HRR1 := Lib.hid (HR4.out.kept (HBW2.out.trans (HB1.out.mono HBW2.out.size)))
          clear hr4 hb4 HT1' HT2' HRB3 HB3'
          go_upto_region 13 with (fail)
          clear hsA hsB
          have HOE := Lib.hid (own_empty W1 W1.heap.size 5 (Nat.le_refl _))
          have HBA := Lib.hid (below_alloc W1 (.cells #[] 5))
          have HRB2 := Lib.hid (HRB1.out.kept HBA.out)
          have H3 := Lib.hid (ones_u8 bs)
          have H1 := Lib.hid (show (bs.map u8v).length = bl by rw [List.length_map, ← HBL.out])
          have hs1 := Lib.hid HBA.out.size
          go_upto_if 88 with (at_builtin; go_must (refine wpList_append_rd rfl _ _ 24 rfl W1.heap.size 5 i0 (.int .u8 0) 1 Try.underlying24 hi hz0 hz1 hz2 rfl _ _ _ rfl HOE.out _ (bs.map u8v) rfl HRB2.out H3.out (by rw [H1.out]; unfold maxLen; omega) (by rw [H1.out]; omega) hs1.out ?_); intro v' w5 hown' hgrow; rw [H1.out, Nat.zero_add, List.nil_append] at hown'; have HB5 := Lib.hid (below_own HBA.out HOE.out hgrow); obtain ⟨ao5, cap5, hv⟩ := own_shape hown'; subst hv; have HO5 := Lib.hid hown'; clear hown' hgrow)
          go_cut [25] (fun s wx => ∃ k : Nat, ∃ ys : List Nat, k ≤ bl ∧ s = .int .i64 (k : Int) ∧ ys.length = bl ∧ (∀ x ∈ ys, x < 256) ∧ Rd wx (.slice ao5 bl cap5) (ys.map u8v) ∧ Below W1.heap.size W1 wx)
          case first =>
            by_cases hb0 : bl = 0
            · subst hb0
              go_wp2_with fail
              go_meet
              exact ⟨0, bs, by omega, rfl, HBL.out.symm, HM.out, Rd.of_owns HO5.out, HB5.out⟩
            · obtain ⟨c, d, hc, hd, hd1, hc1⟩ := place_some a5 bl (by omega)
              obtain ⟨g, hg⟩ : ∃ g, ao5 = some ⟨g, 0, none⟩ := by
                rcases HO5.out.2 with ⟨_, h0⟩ | ⟨g, cap', cur, hv, _⟩
                · omega
                · simp only [Value.slice.injEq] at hv
                  exact ⟨g, hv.1⟩
              subst hg
              have hfz := HO5.out.frozenAt d
              obtain ⟨y, hy⟩ : ∃ y, w5.cell? ⟨g, d, none⟩ = some y := by
                rw [HO5.out.cellAt d (by omega), List.getElem?_eq_getElem (by rw [List.length_map, ← HBL.out]; exact hd1)]; exact ⟨_, rfl⟩
              have hg1 : W1.heap.size ≤ g := own_base2 HO5.out g rfl
              have HST := Lib.hid (HO5.out.stored d (u8v by0)).1
              go_wp2_with fail
              go_meet
              refine ⟨d, bs.set d by0, by omega, rfl, by rw [List.length_set, HBL.out], ?_, ?_, ?_⟩
              · intro x hx
                rcases List.mem_or_eq_of_mem_set hx with h | h
                · exact HM.out x h
                · rw [h]; exact hby
              · rw [List.map_set]
                exact Rd.of_owns HST.out
              · exact HB5.out.trans ((Below.refl _ _).setCell (p := ⟨g, d, none⟩) hg1 _)
          case rest =>
            obtain ⟨k, ys, hk, rfl, hyl, hy256, hry, hbel⟩ := hcut
            obtain ⟨W4, hW4⟩ : ∃ W4 : World, W4 = wc := ⟨_, rfl⟩
            rw [← hW4] at hbel hry ⊢
            clear hW4
            have HB4 := Lib.hid (below_then HB1.out hbel)
            have HRB4 := Lib.hid (HRB1.out.kept hbel)
            have HRY4 := Lib.hid hry
            have HRR4 := Lib.hid (HRR1.out.kept hbel)
            have HYL := Lib.hid hyl
            have HY256 := Lib.hid hy256
            have hcapc : bl ≤ capc := rd_cap HRB4.out
            have HCP := Lib.hid hcapc
            have hk3 : k ≤ capc := by omega
            clear hbel hry hyl hy256 HRB1 HB1 HB5 HO5 HRB2 HBA HOE hs1
            go_upto_region 18 with (fail)
            go_cut [110, 111, 112] (fun s t u wx => ∃ g : Nat, s = .slice (some ⟨g, 0, none⟩) 5 5 ∧ t = .int .i64 5 ∧ u = .int .i64 0 ∧ RowsS wx g 5 ∧ Below W4.heap.size W4 wx)
            case first =>
              have hszC := Lib.hid (show W4.heap.size ≤ (W4.drew.alloc (.cells #[.int .u8 (by0 : Int)] 5)).heap.size from (below_lay (below_drw' W4.heap.size W4) (.cells #[.int .u8 (by0 : Int)] 5)).size)
              have hsz0 : (W4.drew.alloc (.cells #[] 5)).heap.size = W4.heap.size + 1 := by show (W4.alloc (.cells #[] 5)).heap.size = W4.heap.size + 1; simp
              have hsz1 : (W4.drew.alloc (.cells #[.int .u8 (by0 : Int)] 5)).heap.size = W4.heap.size + 1 := by show (W4.alloc (.cells #[.int .u8 (by0 : Int)] 5)).heap.size = W4.heap.size + 1; simp
              have HOC : Hid (((W4.drew.alloc (.cells #[.int .u8 (by0 : Int)] 5)).alloc (.cells #[] 5)).ownsRow W4.heap.size 5 1 (.slice (some ⟨W4.heap.size + 1, 0, none⟩) 0 0) 0 []) := Lib.hid (by rw [← hsz1]; exact own_empty (W4.drew.alloc (.cells #[.int .u8 (by0 : Int)] 5)) W4.heap.size 5 hszC.out)
              have HLB : Hid (Rd ((W4.drew.alloc (.cells #[] 5)).alloc (.cells #[.int .u8 (by0 : Int)] 5)) (.slice (some ⟨W4.heap.size + 1, 0, none⟩) 1 1) [u8v by0]) := Lib.hid (by rw [← hsz0]; exact (rd_lit (W4.drew.alloc (.cells #[] 5)) #[.int .u8 (by0 : Int)] 5 1 [u8v by0] rfl rfl (by decide)))
              clear hsz0 hsz1
              have H3B := Lib.hid (ones_u8 [by0])
              go_region_law (first
                | (refine step_append_rd (by rfl) _ _ 24 (by rfl) W4.heap.size 5 i0 (.int .u8 0) 1 Try.underlying24 hi hz0 hz1 hz2 rfl _ _ _ (by rfl) hown5 _ [u8v by0] (by rfl) hl5 H3B.out (by simp; unfold maxLen; omega) (by simp; omega) hbel5.size ?_; intro v6 w6 hown6 hgrow6; have hbel6 : Below W4.heap.size W4 w6 := below_own hbel5 hown5 hgrow6; obtain ⟨ao7, cap7, hv6⟩ := own_shape hown6; subst hv6)
                | (refine step_append_rd (by rfl) _ _ 24 (by rfl) W4.heap.size 5 i0 (.int .u8 0) 1 Try.underlying24 hi hz0 hz1 hz2 rfl _ _ _ (by rfl) (hown5.alloc (.cells #[.int .u8 (by0 : Int)] 5)) _ [u8v by0] (by rfl) (rd_lit w5 #[.int .u8 (by0 : Int)] 5 1 [u8v by0] rfl rfl (by decide)) H3B.out (by simp; unfold maxLen; omega) (by simp; omega) (below_lay hbel5 (.cells #[.int .u8 (by0 : Int)] 5)).size ?_; intro v6 w6 hown6 hgrow6; have hbel6 : Below W4.heap.size W4 w6 := below_own (below_lay hbel5 (.cells #[.int .u8 (by0 : Int)] 5)) (hown5.alloc (.cells #[.int .u8 (by0 : Int)] 5)) hgrow6; obtain ⟨ao7, cap7, hv6⟩ := own_shape hown6; subst hv6)
                | (refine step_append_rd (by rfl) _ _ 24 (by rfl) W4.heap.size 5 i0 (.int .u8 0) 1 Try.underlying24 hi hz0 hz1 hz2 rfl _ _ _ (by rfl) (own_empty W4.drew W4.heap.size 5 (Nat.le_refl _)) _ (bs.map u8v) (by rfl) (HRB4.out.kept (below_lay (below_drw' W4.heap.size W4) (.cells #[] 5))) H3.out (by rw [H1.out]; unfold maxLen; omega) (by rw [H1.out]; omega) (below_lay (below_drw' W4.heap.size W4) (.cells #[] 5)).size ?_; intro v5 w5 hown5 hgrow5; rw [H1.out, Nat.zero_add, List.nil_append] at hown5; have hbel5 : Below W4.heap.size W4 w5 := below_own (below_lay (below_drw' W4.heap.size W4) (.cells #[] 5)) (own_empty W4.drew W4.heap.size 5 (Nat.le_refl _)) hgrow5; obtain ⟨ao6, cap6, hv5⟩ := own_shape hown5; subst hv5)
                | (refine step_append_rd (by rfl) _ _ 24 (by rfl) W4.heap.size 5 i0 (.int .u8 0) 1 Try.underlying24 hi hz0 hz1 hz2 rfl _ _ _ (by rfl) ((own_empty W4.drew W4.heap.size 5 (Nat.le_refl _)).alloc (.cells #[.int .u8 (by0 : Int)] 5)) _ (bs.map u8v) (by rfl) (HRB4.out.kept (below_lay (below_lay (below_drw' W4.heap.size W4) (.cells #[] 5)) (.cells #[.int .u8 (by0 : Int)] 5))) H3.out (by rw [H1.out]; unfold maxLen; omega) (by rw [H1.out]; omega) (below_lay (below_lay (below_drw' W4.heap.size W4) (.cells #[] 5)) (.cells #[.int .u8 (by0 : Int)] 5)).size ?_; intro v5 w5 hown5 hgrow5; rw [H1.out, Nat.zero_add, List.nil_append] at hown5; have hbel5 : Below W4.heap.size W4 w5 := below_own (below_lay (below_lay (below_drw' W4.heap.size W4) (.cells #[] 5)) (.cells #[.int .u8 (by0 : Int)] 5)) ((own_empty W4.drew W4.heap.size 5 (Nat.le_refl _)).alloc (.cells #[.int .u8 (by0 : Int)] 5)) hgrow5; have hl5 := rd_grown (r := W4.drew.heap.size) HLB.out hgrow5 (by intro h; simp [Value.ownBlock] at h); obtain ⟨ao6, cap6, hv5⟩ := own_shape hown5; subst hv5)
                | (refine step_append_rd (by rfl) _ _ 24 (by rfl) W4.heap.size 5 i0 (.int .u8 0) 1 Try.underlying24 hi hz0 hz1 hz2 rfl _ _ _ (by rfl) HOC.out _ (bs.map u8v) (by rfl) (HRB4.out.kept (below_lay (below_lay (below_drw' W4.heap.size W4) (.cells #[.int .u8 (by0 : Int)] 5)) (.cells #[] 5))) H3.out (by rw [H1.out]; unfold maxLen; omega) (by rw [H1.out]; omega) (below_lay (below_lay (below_drw' W4.heap.size W4) (.cells #[.int .u8 (by0 : Int)] 5)) (.cells #[] 5)).size ?_; intro v5 w5 hown5 hgrow5; rw [H1.out, Nat.zero_add, List.nil_append] at hown5; have hbel5 : Below W4.heap.size W4 w5 := below_own (below_lay (below_lay (below_drw' W4.heap.size W4) (.cells #[.int .u8 (by0 : Int)] 5)) (.cells #[] 5)) HOC.out hgrow5; have hl5 := rd_grown (r := W4.heap.size + 1) ((rd_lit W4.drew #[.int .u8 (by0 : Int)] 5 1 [u8v by0] rfl rfl (by decide)).kept (below_alloc _ (.cells #[] 5))) hgrow5 (by intro h; simp [Value.ownBlock] at h); obtain ⟨ao6, cap6, hv5⟩ := own_shape hown5; subst hv5))
              all_goals
                have q0 : BytesS w6 (.slice a4 len4 cap4) := ⟨raw, HRR4.out.kept hbel6, H256.out, by rw [HL4.out]; omega⟩
                have q1 : BytesS w6 (.slice ao3 bl capc) := ⟨bs, HRB4.out.kept hbel6, HM.out, by rw [← HBL.out]; omega⟩
                have q2 : BytesS w6 (.slice ao5 bl cap5) := ⟨ys, HRY4.out.kept hbel6, HY256.out, by rw [HYL.out]; omega⟩
                have q3 : BytesS w6 (.slice ao3 k capc) := ⟨bs.take k, by rw [List.map_take]; exact rd_take (HRB4.out.kept hbel6) hk, fun x hx => HM.out x (List.mem_of_mem_take hx), by rw [List.length_take, ← HBL.out]; omega⟩
                have q4 : BytesS w6 (.slice ao7 (bl + 1) cap7) := ⟨bs ++ [by0], by rw [List.map_append]; exact Rd.of_owns hown6, by
                  intro x hx
                  rcases List.mem_append.1 hx with h | h
                  · exact HM.out x h
                  · simp at h; rw [h]; exact hby, by rw [List.length_append, ← HBL.out]; simp; omega⟩
                have HRW := Lib.hid (five_rowsS w6 _ _ _ _ _ 24 q0 q1 q2 q3 q4)
                have HBW6 := Lib.hid (below_lay hbel6 (.cells #[.slice a4 len4 cap4, .slice ao3 bl capc, .slice ao5 bl cap5, .slice ao3 k capc, .slice ao7 (bl + 1) cap7] 24))
                clear hown5 hgrow5 hbel5 hown6 hgrow6 hbel6 q0 q1 q2 q3 q4
                go_wp2_with fail
                go_meet
                exact ⟨_, rfl, rfl, rfl, HRW.out, HBW6.out⟩
            case rest =>
              obtain ⟨g, rfl, rfl, rfl, hfive, hbel⟩ := hcut
              obtain ⟨W5, hW5⟩ : ∃ W5 : World, W5 = wc := ⟨_, rfl⟩
              rw [← hW5] at hbel hfive ⊢
              clear hW5
              have HF := Lib.hid hfive
              have HB5 := Lib.hid (below_then HB4.out hbel)
              clear hbel hfive HB4 HRB4 HRY4 HRR4
              go_wp2_with fail
              go_loopw [112] (fun i wr => ∃ j : Nat, j ≤ 5 ∧ i = .int .i64 (j : Int) ∧ Below W5.heap.size W5 wr) (fun i _ => 5 - (intOf i).toNat)
              case atStart => exact ⟨0, by omega, rfl, Below.refl _ _⟩
              case round =>
                obtain ⟨j, hj, rfl, hbel⟩ := hrel
                obtain ⟨wj, rfl⟩ : ∃ wj : World, wj = wr := ⟨_, rfl⟩
                have HBJ := Lib.hid hbel
                by_cases hlt5 : j < 5
                · have hdj : decide ((j : Int) < 5) = true := by simp; omega
                  obtain ⟨v, hx, hv⟩ := HF.out.kept hbel j hlt5
                  obtain ⟨ys, hrx, hx256, hxl⟩ := hv
                  have HRY := Lib.hid hrx
                  have HY256 := Lib.hid hx256
                  have HYL := Lib.hid hxl
                  clear hbel hrx hx256 hxl
                  go_wp2_with fail
                  have HI3 := Lib.hid (three_ints wj (q : Int) a7 (bits .and .i64 a7 63) 3)
                  have HBW := Lib.hid (below_then HBJ.out (below_alloc wj (.cells #[.int .i64 (q : Int), .int .i64 a7, .int .i64 (bits .and .i64 a7 63)] 3)))
                  obtain ⟨W6, hW6⟩ : ∃ W6 : World, W6 = wj.alloc (.cells #[.int .i64 (q : Int), .int .i64 a7, .int .i64 (bits .and .i64 a7 63)] 3) := ⟨_, rfl⟩
                  rw [← hW6] at HI3 HBW ⊢
                  have HRY6 := Lib.hid (show Rd W6 v (ys.map u8v) by rw [hW6]; exact HRY.out.kept (below_alloc _ _))
                  clear hW6
                  go_loopw [123] (fun i wr => ∃ t : Nat, t ≤ 3 ∧ i = .int .i64 (t : Int) ∧ Below W6.heap.size W6 wr) (fun i _ => 3 - (intOf i).toNat)
                  case atStart => exact ⟨0, by omega, rfl, Below.refl _ _⟩
                  case round =>
                    obtain ⟨t, ht, rfl, hbel⟩ := hrel
                    obtain ⟨wt, rfl⟩ : ∃ wt : World, wt = wr := ⟨_, rfl⟩
                    have HBT := Lib.hid hbel
                    clear hbel
                    by_cases hlt3 : t < 3
                    · have hdt : decide ((t : Int) < 3) = true := by simp; omega
                      obtain ⟨c, hc⟩ := HI3.out t hlt3
                      have hx := (HBT.out.cell (p := ⟨wj.heap.size, t, none⟩) (World.block_lt_of_cell? _ _ hc)).trans hc
                      clear hc
                      obtain ⟨hfew, hfit⟩ := decB_few (bs := ys) (c := c) HY256.out
                      have HD1 := Lib.hid fun w' (h : Below W6.heap.size W6 w') => (decode_b ys v c w' (HRY6.out.kept h) HY256.out (by have := HYL.out; omega)).mono fun e w'' h => opt_row h
                      have HD2 := Lib.hid fun w' (h : Below W6.heap.size W6 w') => refdecodebytes_any ys v c w' (HRY6.out.kept h) HY256.out (by have := HYL.out; omega)
                      have HAT := Lib.hid fun w' i (h : Below W6.heap.size W6 w') => atB_all ys v c i w' (HRY6.out.kept h) HY256.out (by have := HYL.out; omega)
                      obtain ⟨o2, ho2⟩ : ∃ o2, o2 = decT ys c := ⟨_, rfl⟩
                      rw [← ho2] at hfew hfit HD1 HD2 HAT
                      obtain ⟨l2, hl2⟩ : ∃ l2, l2 = o2.getD [] := ⟨_, rfl⟩
                      rw [← hl2] at hfew hfit HD1 HD2
                      obtain ⟨n2, hn2⟩ : ∃ n2, n2 = l2.length := ⟨_, rfl⟩
                      obtain ⟨ob2, hob2⟩ : ∃ ob2, ob2 = o2.isSome := ⟨_, rfl⟩
                      have HD1' := Lib.hid fun w' (h : Below W6.heap.size W6 w') => show Calls Try.prog 10 #[v, .int .i64 c] w' fun e w'' => ∃ ab cb ps, e = .returned (.tuple #[.slice ab n2 cb, .bool ob2]) ∧ Rd w'' (.slice ab n2 cb) (vs ps) ∧ Els w'' ps ∧ xs ps = l2 ∧ Below w'.heap.size w' w'' from by subst hn2; subst hob2; subst hl2; exact HD1.out w' h
                      have HD2' := Lib.hid fun w' (h : Below W6.heap.size W6 w') => show Calls Try.prog 11 #[v, .int .i64 c] w' fun e w'' => ∃ ab cb ps, e = .returned (.tuple #[.slice ab n2 cb, .bool ob2]) ∧ Rd w'' (.slice ab n2 cb) (vs ps) ∧ Els w'' ps ∧ xs ps = l2 ∧ Below w'.heap.size w' w'' from by subst hn2; subst hob2; subst hl2; exact HD2.out w' h
                      rw [← hn2] at hfew
                      have HO2 := Lib.hid hob2
                      have HL2 := Lib.hid hl2
                      have HN2 := Lib.hid hn2
                      have HFIT := Lib.hid hfit
                      have hoo2 : (ob2 != ob2) = false := bne_self_eq_false ob2
                      clear HD1 HD2 ho2 hl2 hn2 hob2 hfit
                      go_wp2_with fail
                      refine (HD1'.out _ HBT.out).mono ?_
                      rintro e w7 ⟨am, cm, pm, rfl, hr7, he7, hx7, hb7⟩
                      have HR7 := Lib.hid hr7
                      have HE7 := Lib.hid he7
                      have HX7 := Lib.hid hx7
                      have HB7 := Lib.hid (below_then HBT.out hb7)
                      clear hr7 he7 hx7 hb7
                      go_wp2_with fail
                      refine (HD2'.out _ HB7.out).mono ?_
                      rintro e w8 ⟨aw, cw, pw, rfl, hr8, he8, hx8w, hb8⟩
                      have HR78 := Lib.hid (HR7.out.kept hb8)
                      have HE78 := Lib.hid (HE7.out.kept hb8)
                      have HR8 := Lib.hid hr8
                      have HE8 := Lib.hid he8
                      have HXW := Lib.hid hx8w
                      have HB8 := Lib.hid (below_then HB7.out hb8)
                      have hw2 : IntKind.i64.wrap ((n2 : Int) - 1) = (n2 : Int) - 1 := IntWalk.i64_in _ (by omega)
                      have hlm : pm.length = n2 := by rw [← len_xs, HX7.out, ← HN2.out]
                      have hlw : pw.length = n2 := by rw [← len_xs, HXW.out, ← HN2.out]
                      have h8m : ∀ y ∈ xs pm, ∀ a ∈ y, a < 256 := by rw [HX7.out]; exact fun y hy => (HFIT.out y hy).1
                      have h8w : ∀ y ∈ xs pw, ∀ a ∈ y, a < 256 := by rw [HXW.out]; exact fun y hy => (HFIT.out y hy).1
                      have HSR := Lib.hid (samerows_any pm pw (.slice am n2 cm) (.slice aw n2 cw) w8 (by omega) (by omega) HR78.out HE78.out h8m HR8.out HE8.out h8w)
                      rw [HX7.out, HXW.out, show (l2 == l2) = true from beq_self_eq_true _] at HSR
                      have HLW := Lib.hid hlw
                      clear hr8 he8 hx8w hb8 HD1' HD2' hlm hlw h8m h8w
                      go_wp2_with fail
                      refine HSR.out.mono ?_
                      rintro e w9 ⟨rfl, hb9⟩
                      have HR9 := Lib.hid (HR8.out.kept hb9)
                      have HE9 := Lib.hid (HE8.out.kept hb9)
                      have HB9 := Lib.hid (below_then HB8.out hb9)
                      clear hb9
                      go_wp2_with fail
                      obtain ⟨W7, hW7⟩ : ∃ W7 : World, W7 = w9.alloc (.cells #[.int .i64 a5, .int .i64 (bits .and .i64 a5 63), .int .i64 ((n2 : Int) - 1)] 3) := ⟨_, rfl⟩
                      have HI7 := Lib.hid (three_ints w9 a5 (bits .and .i64 a5 63) ((n2 : Int) - 1) 3)
                      have HB97 := Lib.hid (HB9.out.alloc HB9.out.size (.cells #[.int .i64 a5, .int .i64 (bits .and .i64 a5 63), .int .i64 ((n2 : Int) - 1)] 3))
                      have HR97 := Lib.hid (HR9.out.kept (below_alloc w9 (.cells #[.int .i64 a5, .int .i64 (bits .and .i64 a5 63), .int .i64 ((n2 : Int) - 1)] 3)))
                      have HE97 := Lib.hid (HE9.out.kept (below_alloc w9 (.cells #[.int .i64 a5, .int .i64 (bits .and .i64 a5 63), .int .i64 ((n2 : Int) - 1)] 3)))
                      rw [← hW7] at HI7 HB97 HR97 HE97 ⊢
                      clear hW7
                      go_loopw [156] (fun i wr => ∃ t : Nat, t ≤ 3 ∧ i = .int .i64 (t : Int) ∧ Below W7.heap.size W7 wr) (fun i _ => 3 - (intOf i).toNat)
                      case atStart => exact ⟨0, by omega, rfl, Below.refl _ _⟩
                      case round =>
                        obtain ⟨t2, ht2, rfl, hbel⟩ := hrel
                        have HBU := Lib.hid hbel
                        clear hbel
                        by_cases hlt4 : t2 < 3
                        · have hdt2 : decide ((t2 : Int) < 3) = true := by simp; omega
                          obtain ⟨ci, hc⟩ := HI7.out t2 hlt4
                          have hx := (HBU.out.cell (p := ⟨w9.heap.size, t2, none⟩) (World.block_lt_of_cell? _ _ hc)).trans hc
                          clear hc
                          have hcs := atB_cases (o := o2) ci
                          rw [← HO2.out, ← HL2.out, ← HN2.out] at hcs
                          have HATC := Lib.hid (HAT.out wr ci (HB97.out.trans (HBU.out.mono HB97.out.size)))
                          obtain ⟨oa, hoa⟩ : ∃ oa, oa = atB o2 ci := ⟨_, rfl⟩
                          rw [← hoa] at hcs HATC
                          clear hoa
                          go_wp2_with fail
                          refine HATC.out.mono ?_
                          rintro e w10 ⟨⟨av, cv, rfl, hra⟩, hb10⟩
                          have HBA10 := Lib.hid (below_then HBU.out hb10)
                          have HR10 := Lib.hid ((HR97.out.kept HBU.out).kept hb10)
                          have HE10 := Lib.hid ((HE97.out.kept HBU.out).kept hb10)
                          clear hb10 hx
                          rcases hcs with ⟨rfl, hn | ⟨hn, hneg⟩ | ⟨hn, hpos, hge⟩⟩ | ⟨hn, jj, rfl, hjl, rfl⟩
                          · obtain rfl : ob2 = false := hn
                            clear hra
                            as_aux_lemma =>
                              go_wp2_with fail
                              go_quiet (fail)
                              go_wp2_with fail
                              go_roundw
                              case rel => exact ⟨t2 + 1, by omega, by go_num, below_draws2 HBA10.out _⟩
                              case measure => simp [intOf]; omega
                          · obtain rfl : ob2 = true := hn
                            have g1 : ¬ (0 : Int) ≤ ci := by omega
                            have g2 : decide ((0 : Int) ≤ ci) = false := decide_eq_false g1
                            clear hra
                            as_aux_lemma =>
                              go_wp2_with fail
                              go_quiet (fail)
                              go_wp2_with fail
                              go_roundw
                              case rel => exact ⟨t2 + 1, by omega, by go_num, below_draws2 HBA10.out _⟩
                              case measure => simp [intOf]; omega
                          · obtain rfl : ob2 = true := hn
                            have g2 : decide ((0 : Int) ≤ ci) = true := decide_eq_true hpos
                            have g3 : ¬ ci < (n2 : Int) := by omega
                            have g4 : decide (ci < (n2 : Int)) = false := decide_eq_false g3
                            clear hra
                            as_aux_lemma =>
                              go_wp2_with fail
                              go_quiet (fail)
                              go_wp2_with fail
                              go_roundw
                              case rel => exact ⟨t2 + 1, by omega, by go_num, below_draws2 HBA10.out _⟩
                              case measure => simp [intOf]; omega
                          · obtain ⟨z, hz⟩ : ∃ z, z = l2.getD jj [] := ⟨_, rfl⟩
                            obtain ⟨bw, ow, rfl, hcw⟩ := (rdv_cells HR10.out).2 (by omega)
                            obtain ⟨ya, yc, y, hy, hye⟩ := row_at HE10.out (q := jj) (by rw [HLW.out]; exact hjl)
                            have hx1 : w10.cell? ⟨bw, ow + jj, none⟩ = some (.slice ya (List.length y) yc) := hcw jj _ hy
                            have hyz : y = z := by
                              have h := xs_at hy
                              rw [HXW.out] at h
                              rw [hz, List.getD_eq_getElem?_getD, h]
                              rfl
                            have hz8 : ∀ a ∈ z, a < 256 := by rw [← hyz]; exact (HFIT.out y (by rw [← HXW.out]; exact List.mem_of_getElem? (xs_at hy))).1
                            subst hyz
                            rw [← hz] at hra ⊢
                            have hra2 : Rd w10 (.slice av (List.length y) cv) (y.map u8v) := hra
                            obtain rfl : ob2 = true := hn
                            have g0 : (0 : Int) ≤ (jj : Int) := by omega
                            have g3 : (jj : Int) < (n2 : Int) := by omega
                            have g4 : decide ((jj : Int) < (n2 : Int)) = true := decide_eq_true g3
                            have hs1 := fun nq : Nat => run_str (P := Try.prog) (w10.drewN nq) 24 9 5 Try.underlying24 Try.underlying5 Try.underlying9 (hra2.kept (below_draws (Below.refl _ _) nq)) (lt256 _ hz8)
                            have hs2 := fun nq : Nat => run_str (P := Try.prog) (w10.drewN nq) 24 9 5 Try.underlying24 Try.underlying5 Try.underlying9 (hye.kept (below_draws (Below.refl _ _) nq)) (lt256 _ hz8)
                            have hss : ((strOf y).toList != (strOf y).toList) = false := bne_self_eq_false _
                            have hss2 : ((strOf y).toList == (strOf y).toList) = true := beq_self_eq_true _
                            clear hcw hz hy hra
                            as_aux_lemma =>
                              go_wp2_with fail
                              go_quiet (fail)
                              go_wp2_with fail
                              go_roundw
                              case rel => exact ⟨t2 + 1, by omega, by go_num, below_draws2 HBA10.out _⟩
                              case measure => simp [intOf]; omega
                        · go_wp2_with fail
                          go_roundw
                          case rel => exact ⟨t + 1, by omega, by go_num, HB97.out.trans (HBU.out.mono HB97.out.size)⟩
                          case measure => simp [intOf]; omega
                    · go_wp2_with fail
                      go_roundw
                      case rel => exact ⟨j + 1, by omega, by go_num, HBW.out.trans (HBT.out.mono HBW.out.size)⟩
                      case measure => simp [intOf]; omega
                · go_wp2_with fail
                  go_roundw
                  case rel => exact ⟨jk + 1, by omega, by go_num, HB5.out.trans (HBJ.out.mono HB5.out.size)⟩
                  case measure => simp [intOf]; omega
        · go_wp2_with fail
          refine (awake5_any _).mono ?_
          rintro e w6 ⟨rfl, hb⟩
          have HB6 := Lib.hid (below_then (below_then HBW2.out HBO.out) hb)
          clear hb
          go_wp2_with fail
          go_ret
          exact ⟨rfl, HB6.out⟩
  · have hbr' : decide ((200 : Int) < (len4 : Int)) = true := by simp; omega
    clear hr4 hl4 h256 HC
    go_enter Try.func3, Try.ntmps3
    go_wp2_with fail
    refine (awake5_any _).mono ?_
    rintro e w6 ⟨rfl, hb⟩
    have HB6 := Lib.hid hb
    clear hb
    go_wp2_with fail
    go_ret
    exact ⟨rfl, HB6.out⟩


end Go.Proofs.Ytjcmekhamohbnaa.Bc
