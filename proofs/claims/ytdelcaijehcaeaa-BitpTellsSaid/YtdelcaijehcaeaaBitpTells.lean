/-
  The walk of BitpTells.
-/
import Derived.Test.YtdelcaijehcaeaaTells
namespace Go.Proofs.Ytdelcaijehcaeaa
set_option linter.unusedVariables false
open Go.RowKit

set_option maxRecDepth 100000 in
set_option maxHeartbeats 4000000 in
theorem walk_BitpTells (a0 : Option Addr) (len0 cap0 : Nat) (z0 : List Int) (a1 : Int) (a2 : Option Addr) (len2 cap2 : Nat) (z2 : List Int) (a3 : Int) (a4 : Int) (a5 : Int) (a6 : Int) (w : World) (w0 : IsRow .u64 w a0 len0 cap0 z0) (w2 : IsRow .u8 w a2 len2 cap2 z2) (w4 : (Lit.int .u8 a4).wf = true) :
    Calls Try.prog 11 #[.slice a0 len0 cap0, .int .i64 a1, .slice a2 len2 cap2, .int .i64 a3, .int .u8 a4, .int .i64 a5, .int .i64 a6] w fun e w' => e = .returned (.bool true) ∧ Below w.heap.size w w' := by
  obtain ⟨us, hl0, hr0, h64⟩ := isRow_u64 w0
  obtain ⟨raw, hl2, hr2, h256⟩ := isRow_u8 w2
  obtain ⟨b0, b1⟩ := wf_u8 w4
  obtain ⟨by0, rfl⟩ := Int.eq_ofNat_of_zero_le b0
  have hby : by0 < 256 := by omega
  clear w0 w2 w4 b0 b1
  by_cases hbr : len2 ≤ 200
  · have hbr' : decide ((200 : Int) < (len2 : Int)) = false := by simp; omega
    by_cases hbu : len0 ≤ 60
    · have hbu' : decide ((60 : Int) < (len0 : Int)) = false := by simp; omega
      have HR0 := Lib.hid hr0
      have HR2 := Lib.hid hr2
      have HL0 := Lib.hid hl0
      have HL2 := Lib.hid hl2
      have H64 := Lib.hid h64
      have H256 := Lib.hid h256
      clear hr0 hr2 hl0 hl2 h64 h256
      obtain ⟨i0, hi, hz0, hz1, hz2⟩ := info_parts info8
      go_enter Try.func11, Try.ntmps11
      go_wp2_with fail
      go_loopw [1, 15] (fun n q wr => ∃ Q : Nat, ∃ m : Int, Q ≤ 2 ∧ q = .int .i64 (Q : Int) ∧ n = .int .i64 m ∧ Below w.heap.size w wr) (fun _ q _ => 2 - (intOf q).toNat)
      case atStart => exact ⟨0, a1, by omega, rfl, rfl, Below.refl _ _⟩
      case round =>
        obtain ⟨Q, m, hQ, rfl, rfl, hbel⟩ := hrel
        have HB := Lib.hid hbel
        clear hbel
        obtain ⟨wo, rfl⟩ : ∃ wo : World, wo = wr := ⟨_, rfl⟩
        by_cases hlt : Q < 2
        · have hdQ : decide ((Q : Int) < 2) = true := by simp; omega
          go_wp2_with fail
          refine (refPack_any _ us m _ (HR0.out.kept HB.out) H64.out (by rw [HL0.out]; omega)).mono ?_
          rintro e w3 ⟨ao3, cap3, rfl, hown, hb⟩
          obtain ⟨bs, hbs⟩ : ∃ bs, bs = packB (heldN m) us := ⟨_, rfl⟩
          obtain ⟨bl, hbl⟩ : ∃ bl, bl = bs.length := ⟨_, rfl⟩
          have hbl2 : bl ≤ 480 := by
            rw [hbl, hbs, packB_length, HL0.out]
            have : heldN m * len0 ≤ 64 * 60 := Nat.mul_le_mul (heldN_le m) hbu
            omega
          have HM := Lib.hid (show ∀ x ∈ bs, x < 256 by rw [hbs]; exact packB_mem _ _)
          rw [← hbs] at hown ⊢
          have hrb : Rd w3 (.slice ao3 bl cap3) (bs.map u8v) := by rw [hbl]; exact rd_own_map hown
          rw [List.length_map, ← hbl]
          have HBS := Lib.hid hbs
          have HBL := Lib.hid hbl
          have HRB := Lib.hid hrb
          have HB3 := Lib.hid (below_then HB.out hb)
          clear hown hb hrb hbs hbl
          go_upto_region 7 with (fail)
          go_cut [57] (fun s wx => s = .bool false ∧ Below w3.heap.size w3 wx)
          case first =>
            have hS1 := run_str (P := Try.prog) w3 27 9 5 Try.underlying27 Try.underlying5 Try.underlying9 HRB.out (lt256 _ HM.out)
            have hS2 := run_str (P := Try.prog) w3.drew 27 9 5 Try.underlying27 Try.underlying5 Try.underlying9 (HRB.out.kept (below_drw' _ _)) (lt256 _ HM.out)
            go_region_with (first
              | (go_at_call 17; go_must (refine (pack_lit (HR0.out.kept (HB3.out.trans (below_drw' _ _))) H64.out (by rw [HL0.out]; omega) HBS.out.symm).mono ?_); rintro e w4 ⟨ao4, cap4, rfl, hown4, hb4⟩; have hT1 : Below w3.heap.size w3 w4 := below_then (below_drw' _ _) hb4; have hT2 := run_str (P := Try.prog) w4 27 9 5 Try.underlying27 Try.underlying5 Try.underlying9 (HRB.out.kept hT1) (lt256 _ HM.out); have hT3 := run_str (P := Try.prog) w4 27 9 5 Try.underlying27 Try.underlying5 Try.underlying9 (rd_own_map hown4) (lt256 _ HM.out); simp only [List.length_map]))
            all_goals
              go_wp2_with fail
              go_meet
              exact ⟨by simp, hT1⟩
          case rest =>
            obtain ⟨rfl, hbel⟩ := hcut
            obtain ⟨W1, hW1⟩ : ∃ W1 : World, W1 = wc := ⟨_, rfl⟩
            rw [← hW1] at hbel ⊢
            clear hW1
            have HRB1 := Lib.hid (HRB.out.kept hbel)
            have HB1 := Lib.hid (below_then HB3.out hbel)
            clear hbel HRB HB3
            have HOE := Lib.hid (own_empty W1 W1.heap.size 5 (Nat.le_refl _))
            have HBA := Lib.hid (below_alloc W1 (.cells #[] 5))
            have HRB2 := Lib.hid (HRB1.out.kept HBA.out)
            have H3 := Lib.hid (ones_u8 bs)
            have H1 := Lib.hid (show (bs.map u8v).length = bl by rw [List.length_map, ← HBL.out])
            have hs1 := Lib.hid HBA.out.size
            go_upto_if 63 with (at_builtin; go_must (refine wpList_append_rd rfl _ _ 27 rfl W1.heap.size 5 i0 (.int .u8 0) 1 Try.underlying27 hi hz0 hz1 hz2 rfl _ _ _ rfl HOE.out _ (bs.map u8v) rfl HRB2.out H3.out (by rw [H1.out]; unfold maxLen; omega) (by rw [H1.out]; omega) hs1.out ?_); intro v' w5 hown' hgrow; rw [H1.out, Nat.zero_add, List.nil_append] at hown'; have HB5 := Lib.hid (below_own HBA.out HOE.out hgrow); obtain ⟨ao5, cap5, hv⟩ := own_shape hown'; subst hv; have HO5 := Lib.hid hown'; clear hown' hgrow)
            go_cut [18] (fun s wx => ∃ k : Nat, ∃ ys : List Nat, k ≤ bl ∧ s = .int .i64 (k : Int) ∧ ys.length = bl ∧ (∀ x ∈ ys, x < 256) ∧ Rd wx (.slice ao5 bl cap5) (ys.map u8v) ∧ Below W1.heap.size W1 wx)
            case first =>
              by_cases hb0 : bl = 0
              · subst hb0
                go_wp2_with fail
                go_meet
                exact ⟨0, bs, by omega, rfl, HBL.out.symm, HM.out, Rd.of_owns HO5.out, HB5.out⟩
              · obtain ⟨c, d, hc, hd, hd1, hc1⟩ := place_some a3 bl (by omega)
                obtain ⟨g, hg⟩ : ∃ g, ao5 = some ⟨g, 0, none⟩ := by
                  rcases HO5.out.2 with ⟨_, h0⟩ | ⟨g, cap', cur, hv, _⟩
                  · omega
                  · simp only [Value.slice.injEq] at hv
                    exact ⟨g, hv.1⟩
                subst hg
                have hfz := HO5.out.frozenAt d
                obtain ⟨y, hy⟩ : ∃ y, w5.cell? ⟨g, d, none⟩ = some y := by
                  rw [HO5.out.cellAt d (by omega), List.getElem?_eq_getElem (by rw [List.length_map, ← HBL.out]; exact hd1)]; exact ⟨_, rfl⟩
                have hg1 : W1.heap.size ≤ g := own_base2 HO5.out g rfl
                have HST := Lib.hid (HO5.out.stored d (u8v by0)).1
                go_wp2_with fail
                go_meet
                refine ⟨d, bs.set d by0, by omega, rfl, by rw [List.length_set, HBL.out], ?_, ?_, ?_⟩
                · intro x hx
                  rcases List.mem_or_eq_of_mem_set hx with h | h
                  · exact HM.out x h
                  · rw [h]; exact hby
                · rw [List.map_set]
                  exact Rd.of_owns HST.out
                · exact HB5.out.trans ((Below.refl _ _).setCell (p := ⟨g, d, none⟩) hg1 _)
            case rest =>
              obtain ⟨k, ys, hk, rfl, hyl, hy256, hry, hbel⟩ := hcut
              obtain ⟨W4, hW4⟩ : ∃ W4 : World, W4 = wc := ⟨_, rfl⟩
              rw [← hW4] at hbel hry ⊢
              clear hW4
              have HB4 := Lib.hid (below_then HB1.out hbel)
              have HRB4 := Lib.hid (HRB1.out.kept hbel)
              have HRY4 := Lib.hid hry
              have HRR4 := Lib.hid (HR2.out.kept HB4.out)
              have HYL := Lib.hid hyl
              have HY256 := Lib.hid hy256
              have hcap3 : bl ≤ cap3 := rd_cap HRB4.out
              have HCP := Lib.hid hcap3
              have hk3 : k ≤ cap3 := by omega
              clear hbel hry hyl hy256 HRB1 HB1 HB5 HO5 HRB2 HBA HOE hs1
              go_upto_region 14 with (fail)
              go_cut [85, 86, 87] (fun s t u wx => ∃ g : Nat, s = .slice (some ⟨g, 0, none⟩) 5 5 ∧ t = .int .i64 5 ∧ u = .int .i64 0 ∧ RowsAt wx g 5 ∧ Below W4.heap.size W4 wx)
              case first =>
                have hszC := Lib.hid (show W4.heap.size ≤ (W4.drew.alloc (.cells #[.int .u8 (by0 : Int)] 5)).heap.size from (below_lay (below_drw' W4.heap.size W4) (.cells #[.int .u8 (by0 : Int)] 5)).size)
                have hsz0 : (W4.drew.alloc (.cells #[] 5)).heap.size = W4.heap.size + 1 := by show (W4.alloc (.cells #[] 5)).heap.size = W4.heap.size + 1; simp
                have hsz1 : (W4.drew.alloc (.cells #[.int .u8 (by0 : Int)] 5)).heap.size = W4.heap.size + 1 := by show (W4.alloc (.cells #[.int .u8 (by0 : Int)] 5)).heap.size = W4.heap.size + 1; simp
                have HOC : Hid (((W4.drew.alloc (.cells #[.int .u8 (by0 : Int)] 5)).alloc (.cells #[] 5)).ownsRow W4.heap.size 5 1 (.slice (some ⟨W4.heap.size + 1, 0, none⟩) 0 0) 0 []) := Lib.hid (by rw [← hsz1]; exact own_empty (W4.drew.alloc (.cells #[.int .u8 (by0 : Int)] 5)) W4.heap.size 5 hszC.out)
                have HLB : Hid (Rd ((W4.drew.alloc (.cells #[] 5)).alloc (.cells #[.int .u8 (by0 : Int)] 5)) (.slice (some ⟨W4.heap.size + 1, 0, none⟩) 1 1) [u8v by0]) := Lib.hid (by rw [← hsz0]; exact (rd_lit (W4.drew.alloc (.cells #[] 5)) #[.int .u8 (by0 : Int)] 5 1 [u8v by0] rfl rfl (by decide)))
                clear hsz0 hsz1
                have H3B := Lib.hid (ones_u8 [by0])
                go_region_law (first
                  | (refine step_append_rd (by rfl) _ _ 27 (by rfl) W4.heap.size 5 i0 (.int .u8 0) 1 Try.underlying27 hi hz0 hz1 hz2 rfl _ _ _ (by rfl) hown5 _ [u8v by0] (by rfl) hl5 H3B.out (by simp; unfold maxLen; omega) (by simp; omega) hbel5.size ?_; intro v6 w6 hown6 hgrow6; have hbel6 : Below W4.heap.size W4 w6 := below_own hbel5 hown5 hgrow6; obtain ⟨ao7, cap7, hv6⟩ := own_shape hown6; subst hv6)
                  | (refine step_append_rd (by rfl) _ _ 27 (by rfl) W4.heap.size 5 i0 (.int .u8 0) 1 Try.underlying27 hi hz0 hz1 hz2 rfl _ _ _ (by rfl) (hown5.alloc (.cells #[.int .u8 (by0 : Int)] 5)) _ [u8v by0] (by rfl) (rd_lit w5 #[.int .u8 (by0 : Int)] 5 1 [u8v by0] rfl rfl (by decide)) H3B.out (by simp; unfold maxLen; omega) (by simp; omega) (below_lay hbel5 (.cells #[.int .u8 (by0 : Int)] 5)).size ?_; intro v6 w6 hown6 hgrow6; have hbel6 : Below W4.heap.size W4 w6 := below_own (below_lay hbel5 (.cells #[.int .u8 (by0 : Int)] 5)) (hown5.alloc (.cells #[.int .u8 (by0 : Int)] 5)) hgrow6; obtain ⟨ao7, cap7, hv6⟩ := own_shape hown6; subst hv6)
                  | (refine step_append_rd (by rfl) _ _ 27 (by rfl) W4.heap.size 5 i0 (.int .u8 0) 1 Try.underlying27 hi hz0 hz1 hz2 rfl _ _ _ (by rfl) (own_empty W4.drew W4.heap.size 5 (Nat.le_refl _)) _ (bs.map u8v) (by rfl) (HRB4.out.kept (below_lay (below_drw' W4.heap.size W4) (.cells #[] 5))) H3.out (by rw [H1.out]; unfold maxLen; omega) (by rw [H1.out]; omega) (below_lay (below_drw' W4.heap.size W4) (.cells #[] 5)).size ?_; intro v5 w5 hown5 hgrow5; rw [H1.out, Nat.zero_add, List.nil_append] at hown5; have hbel5 : Below W4.heap.size W4 w5 := below_own (below_lay (below_drw' W4.heap.size W4) (.cells #[] 5)) (own_empty W4.drew W4.heap.size 5 (Nat.le_refl _)) hgrow5; obtain ⟨ao6, cap6, hv5⟩ := own_shape hown5; subst hv5)
                  | (refine step_append_rd (by rfl) _ _ 27 (by rfl) W4.heap.size 5 i0 (.int .u8 0) 1 Try.underlying27 hi hz0 hz1 hz2 rfl _ _ _ (by rfl) ((own_empty W4.drew W4.heap.size 5 (Nat.le_refl _)).alloc (.cells #[.int .u8 (by0 : Int)] 5)) _ (bs.map u8v) (by rfl) (HRB4.out.kept (below_lay (below_lay (below_drw' W4.heap.size W4) (.cells #[] 5)) (.cells #[.int .u8 (by0 : Int)] 5))) H3.out (by rw [H1.out]; unfold maxLen; omega) (by rw [H1.out]; omega) (below_lay (below_lay (below_drw' W4.heap.size W4) (.cells #[] 5)) (.cells #[.int .u8 (by0 : Int)] 5)).size ?_; intro v5 w5 hown5 hgrow5; rw [H1.out, Nat.zero_add, List.nil_append] at hown5; have hbel5 : Below W4.heap.size W4 w5 := below_own (below_lay (below_lay (below_drw' W4.heap.size W4) (.cells #[] 5)) (.cells #[.int .u8 (by0 : Int)] 5)) ((own_empty W4.drew W4.heap.size 5 (Nat.le_refl _)).alloc (.cells #[.int .u8 (by0 : Int)] 5)) hgrow5; have hl5 := rd_grown (r := W4.drew.heap.size) HLB.out hgrow5 (by intro h; simp [Value.ownBlock] at h); obtain ⟨ao6, cap6, hv5⟩ := own_shape hown5; subst hv5)
                  | (refine step_append_rd (by rfl) _ _ 27 (by rfl) W4.heap.size 5 i0 (.int .u8 0) 1 Try.underlying27 hi hz0 hz1 hz2 rfl _ _ _ (by rfl) HOC.out _ (bs.map u8v) (by rfl) (HRB4.out.kept (below_lay (below_lay (below_drw' W4.heap.size W4) (.cells #[.int .u8 (by0 : Int)] 5)) (.cells #[] 5))) H3.out (by rw [H1.out]; unfold maxLen; omega) (by rw [H1.out]; omega) (below_lay (below_lay (below_drw' W4.heap.size W4) (.cells #[.int .u8 (by0 : Int)] 5)) (.cells #[] 5)).size ?_; intro v5 w5 hown5 hgrow5; rw [H1.out, Nat.zero_add, List.nil_append] at hown5; have hbel5 : Below W4.heap.size W4 w5 := below_own (below_lay (below_lay (below_drw' W4.heap.size W4) (.cells #[.int .u8 (by0 : Int)] 5)) (.cells #[] 5)) HOC.out hgrow5; have hl5 := rd_grown (r := W4.heap.size + 1) ((rd_lit W4.drew #[.int .u8 (by0 : Int)] 5 1 [u8v by0] rfl rfl (by decide)).kept (below_alloc _ (.cells #[] 5))) hgrow5 (by intro h; simp [Value.ownBlock] at h); obtain ⟨ao6, cap6, hv5⟩ := own_shape hown5; subst hv5))
                all_goals
                  have q0 : BytesAt w6 (.slice a2 len2 cap2) := ⟨raw, HRR4.out.kept hbel6, H256.out, by rw [HL2.out]; omega⟩
                  have q1 : BytesAt w6 (.slice ao3 bl cap3) := ⟨bs, HRB4.out.kept hbel6, HM.out, by rw [← HBL.out]; omega⟩
                  have q2 : BytesAt w6 (.slice ao5 bl cap5) := ⟨ys, HRY4.out.kept hbel6, HY256.out, by rw [HYL.out]; omega⟩
                  have q3 : BytesAt w6 (.slice ao3 k cap3) := ⟨bs.take k, by rw [List.map_take]; exact rd_take (HRB4.out.kept hbel6) hk, fun x hx => HM.out x (List.mem_of_mem_take hx), by rw [List.length_take, ← HBL.out]; omega⟩
                  have q4 : BytesAt w6 (.slice ao7 (bl + 1) cap7) := ⟨bs ++ [by0], by rw [List.map_append]; exact Rd.of_owns hown6, by
                    intro x hx
                    rcases List.mem_append.1 hx with h | h
                    · exact HM.out x h
                    · simp at h; rw [h]; exact hby, by rw [List.length_append, ← HBL.out]; simp; omega⟩
                  have HRW := Lib.hid (five_rows w6 _ _ _ _ _ 27 q0 q1 q2 q3 q4)
                  have HBW6 := Lib.hid (below_lay hbel6 (.cells #[.slice a2 len2 cap2, .slice ao3 bl cap3, .slice ao5 bl cap5, .slice ao3 k cap3, .slice ao7 (bl + 1) cap7] 27))
                  clear hown5 hgrow5 hbel5 hown6 hgrow6 hbel6 q0 q1 q2 q3 q4
                  go_wp2_with fail
                  go_meet
                  exact ⟨_, rfl, rfl, rfl, HRW.out, HBW6.out⟩
              case rest =>
                obtain ⟨g, rfl, rfl, rfl, hfive, hbel⟩ := hcut
                obtain ⟨W5, hW5⟩ : ∃ W5 : World, W5 = wc := ⟨_, rfl⟩
                rw [← hW5] at hbel hfive ⊢
                clear hW5
                have HF := Lib.hid hfive
                have HB5 := Lib.hid (below_then HB4.out hbel)
                clear hbel hfive HB4 HRB4 HRY4 HRR4
                go_wp2_with fail
                go_loopw [87] (fun i wr => ∃ j : Nat, j ≤ 5 ∧ i = .int .i64 (j : Int) ∧ Below W5.heap.size W5 wr) (fun i _ => 5 - (intOf i).toNat)
                case atStart => exact ⟨0, by omega, rfl, Below.refl _ _⟩
                case round =>
                  obtain ⟨j, hj, rfl, hbel⟩ := hrel
                  obtain ⟨wj, rfl⟩ : ∃ wj : World, wj = wr := ⟨_, rfl⟩
                  have HBJ := Lib.hid hbel
                  by_cases hlt5 : j < 5
                  · have hdj : decide ((j : Int) < 5) = true := by simp; omega
                    obtain ⟨v, hx, hv⟩ := HF.out.kept hbel j hlt5
                    obtain ⟨xs, hrx, hx256, hxl⟩ := hv
                    have HRX := Lib.hid hrx
                    have HX256 := Lib.hid hx256
                    have HXL := Lib.hid hxl
                    clear hbel hrx hx256 hxl
                    go_wp2_with fail
                    have HI3 := Lib.hid (three_ints wj (len0 : Int) a5 (bits .and .i64 a5 63) 3)
                    have HBW := Lib.hid (below_then HBJ.out (below_alloc wj (.cells #[.int .i64 (len0 : Int), .int .i64 a5, .int .i64 (bits .and .i64 a5 63)] 3)))
                    obtain ⟨W6, hW6⟩ : ∃ W6 : World, W6 = wj.alloc (.cells #[.int .i64 (len0 : Int), .int .i64 a5, .int .i64 (bits .and .i64 a5 63)] 3) := ⟨_, rfl⟩
                    rw [← hW6] at HI3 HBW ⊢
                    have HRX6 := Lib.hid (show Rd W6 v (xs.map u8v) by rw [hW6]; exact HRX.out.kept (below_alloc _ _))
                    clear hW6
                    go_loopw [98] (fun i wr => ∃ t : Nat, t ≤ 3 ∧ i = .int .i64 (t : Int) ∧ Below W6.heap.size W6 wr) (fun i _ => 3 - (intOf i).toNat)
                    case atStart => exact ⟨0, by omega, rfl, Below.refl _ _⟩
                    case round =>
                      obtain ⟨t, ht, rfl, hbel⟩ := hrel
                      obtain ⟨wt, rfl⟩ : ∃ wt : World, wt = wr := ⟨_, rfl⟩
                      have HBT := Lib.hid hbel
                      clear hbel
                      by_cases hlt3 : t < 3
                      · have hdt : decide ((t : Int) < 3) = true := by simp; omega
                        obtain ⟨c, hc⟩ := HI3.out t hlt3
                        have hx := (HBT.out.cell (p := ⟨wj.heap.size, t, none⟩) (World.block_lt_of_cell? _ _ hc)).trans hc
                        clear hc
                        have hux := unpackB_len (bs := xs) (n := m) (c := c)
                        obtain ⟨o, ho⟩ : ∃ o, o = (unpackB xs m c).isSome := ⟨_, rfl⟩
                        obtain ⟨ul, hul⟩ : ∃ ul, ul = (unpackB xs m c).getD [] := ⟨_, rfl⟩
                        rw [← hul] at hux
                        have HUX := Lib.hid hux
                        have HO := Lib.hid ho
                        have HUL := Lib.hid hul
                        clear ho hul hux
                        go_wp2_with fail
                        refine (unpack_both v xs m c _ (HRX6.out.kept HBT.out) HX256.out HXL.out).mono ?_
                        rw [← HO.out, ← HUL.out]
                        rintro e w7 ⟨y1, rfl, hr1, hb⟩
                        have HR1 := Lib.hid hr1
                        have HB7 := Lib.hid (below_then HBT.out hb)
                        clear hr1 hb
                        go_wp2_with fail
                        refine (refUnpack_any v xs m c _ (HRX6.out.kept HB7.out) HX256.out HXL.out).mono ?_
                        rw [← HO.out, ← HUL.out]
                        rintro e w8 ⟨y2, rfl, hr2, hb⟩
                        have HR1' := Lib.hid (HR1.out.kept hb)
                        have HR2' := Lib.hid hr2
                        have HB8 := Lib.hid (below_then HB7.out hb)
                        clear hr2 hb
                        have hoo : (o != o) = false := bne_self_eq_false o
                        go_wp2_with (go_at_call 20; go_must (refine (same_lit HR1'.out HR2'.out (by have := HUX.out; omega) (show (ul == ul) = true from beq_self_eq_true ul)).mono ?_); rintro e w9 ⟨rfl, hb9⟩; have HB9 := Lib.hid (below_then HB8.out hb9))
                        go_roundw
                        case rel => exact ⟨t + 1, by omega, by go_num, HB9.out⟩
                        case measure => simp [intOf]; omega
                      · go_wp2_with fail
                        obtain ⟨W7, hW7⟩ : ∃ W7 : World, W7 = wt.alloc (.cells #[.int .i64 a6, .int .i64 (bits .and .i64 a6 63), .int .i64 ((len0 : Int) - 1)] 3) := ⟨_, rfl⟩
                        have HI7 := Lib.hid (three_ints wt a6 (bits .and .i64 a6 63) ((len0 : Int) - 1) 3)
                        have HBT7 := Lib.hid (HBT.out.alloc HBT.out.size (.cells #[.int .i64 a6, .int .i64 (bits .and .i64 a6 63), .int .i64 ((len0 : Int) - 1)] 3))
                        rw [← hW7] at HI7 HBT7 ⊢
                        have HRX7 := Lib.hid (HRX6.out.kept HBT7.out)
                        have HBW7 := Lib.hid (below_then HBW.out HBT7.out)
                        clear hW7
                        go_loopw [134] (fun i wr => ∃ t : Nat, t ≤ 3 ∧ i = .int .i64 (t : Int) ∧ Below W7.heap.size W7 wr) (fun i _ => 3 - (intOf i).toNat)
                        case atStart => exact ⟨0, by omega, rfl, Below.refl _ _⟩
                        case round =>
                          obtain ⟨t2, ht2, rfl, hbel⟩ := hrel
                          have HBU := Lib.hid hbel
                          clear hbel
                          by_cases hlt4 : t2 < 3
                          · have hdt2 : decide ((t2 : Int) < 3) = true := by simp; omega
                            obtain ⟨c, hc⟩ := HI7.out t2 hlt4
                            have hx := (HBU.out.cell (p := ⟨wt.heap.size, t2, none⟩) (World.block_lt_of_cell? _ _ hc)).trans hc
                            clear hc
                            obtain ⟨r, hr⟩ : ∃ r, atB xs m c = r := ⟨_, rfl⟩
                            have HA := Lib.hid hr
                            obtain ⟨o, ho⟩ : ∃ o, o = r.isSome := ⟨_, rfl⟩
                            obtain ⟨rv, hrv⟩ : ∃ rv, rv = r.getD 0 := ⟨_, rfl⟩
                            have HO := Lib.hid ho
                            have HRV := Lib.hid hrv
                            clear hr ho hrv
                            go_wp2_with fail
                            refine (at_lit (HRX7.out.kept HBU.out) HX256.out HXL.out HA.out).mono ?_
                            rw [← HO.out, ← HRV.out]
                            rintro e w7 ⟨rfl, hb⟩
                            have HB7 := Lib.hid (below_then HBU.out hb)
                            clear hb
                            go_wp2_with fail
                            refine (refAt_any v xs m c _ (HRX7.out.kept HB7.out) (lt256 xs HX256.out) HXL.out).mono ?_
                            rw [HA.out, ← HO.out, ← HRV.out]
                            rintro e w8 ⟨rfl, hb⟩
                            have HB8 := Lib.hid (below_then HB7.out hb)
                            clear hb
                            have hoo : (o != o) = false := bne_self_eq_false o
                            have hrr : ((rv : Int) != (rv : Int)) = false := bne_self_eq_false _
                            go_wp2_with fail
                            go_roundw
                            case rel => exact ⟨t2 + 1, by omega, by go_num, HB8.out⟩
                            case measure => simp [intOf]; omega
                          · go_wp2_with fail
                            go_roundw
                            case rel => exact ⟨j + 1, by omega, by go_num, below_then HBW7.out HBU.out⟩
                            case measure => simp [intOf]; omega
                  · go_wp2_with fail
                    go_roundw
                    case rel => exact ⟨Q + 1, _, by omega, by go_num, rfl, below_then HB5.out HBJ.out⟩
                    case measure => simp [intOf]; omega
        · go_wp2_with fail
          go_loopw [166] (fun i wr => ∃ j : Nat, j ≤ len0 ∧ i = .int .i64 (j : Int) ∧ Below w.heap.size w wr) (fun i _ => len0 - (intOf i).toNat)
          case atStart => exact ⟨0, by omega, rfl, HB.out⟩
          case round =>
            obtain ⟨j, hj, rfl, hbel⟩ := hrel
            have HBJ := Lib.hid hbel
            clear hbel
            by_cases hlt2 : j < len0
            · obtain ⟨b, off, rfl, hcell⟩ := (rd64_cells (HR0.out.kept HBJ.out)).2 (by omega)
              have hx := hcell j hlt2
              obtain ⟨x, hxe⟩ : ∃ x, x = us.getD j 0 := ⟨_, rfl⟩
              rw [← hxe] at hx
              have hx2 : x < 18446744073709551616 := by rw [hxe]; exact lt64 us H64.out j
              obtain ⟨L, hL⟩ : ∃ L, Lib.bitLen x = L := ⟨_, rfl⟩
              have HL := Lib.hid hL
              clear hcell hxe hL
              go_wp2_with (first
                | (go_at_call 15; go_must (refine (width_lit (U := x) rfl hx2 HL.out).mono ?_); rintro e w6 ⟨rfl, rfl⟩)
                | (go_at_call 45; go_must (refine (refWidth_any x _ hx2).mono ?_); rw [HL.out]; rintro e w6 ⟨rfl, rfl⟩))
              go_roundw
              case rel => exact ⟨j + 1, by omega, by go_num, HBJ.out⟩
              case measure => simp [intOf]; omega
            · go_wp2_with fail
              refine (awake1_any _).mono ?_
              rintro e w6 ⟨rfl, hb⟩
              have HB6 := Lib.hid (below_then HBJ.out hb)
              clear hb
              go_wp2_with fail
              go_ret
              exact ⟨rfl, HB6.out⟩
    · have hbu' : decide ((60 : Int) < (len0 : Int)) = true := by simp; omega
      go_enter Try.func11, Try.ntmps11
      go_wp2_with fail
      refine (awake1_any _).mono ?_
      rintro e w6 ⟨rfl, hb⟩
      have HB6 := Lib.hid hb
      clear hb
      go_wp2_with fail
      go_ret
      exact ⟨rfl, HB6.out⟩
  · have hbr' : decide ((200 : Int) < (len2 : Int)) = true := by simp; omega
    go_enter Try.func11, Try.ntmps11
    go_wp2_with fail
    refine (awake1_any _).mono ?_
    rintro e w6 ⟨rfl, hb⟩
    have HB6 := Lib.hid hb
    clear hb
    go_wp2_with fail
    go_ret
    exact ⟨rfl, HB6.out⟩
end Go.Proofs.Ytdelcaijehcaeaa
