/-
  The walk of NullTells.
-/
import Derived.Test.YtdelcaijehcaeaaRefi
import Derived.Test.YtdelcaijehcaeaaNulle
import Derived.Test.YtdelcaijehcaeaaAwakc
namespace Go.Proofs.Ytdelcaijehcaeaa
set_option linter.unusedVariables false
open Go.RowKit

theorem decN_mem (b : List Nat) (x : Nat) (h : x ∈ ((decN b).getD ([], [])).2) : x ∈ b := by
  unfold decN at h
  rcases hn : nextC b with _ | ⟨n, k⟩
  · rw [hn] at h; simp at h
  · rw [hn] at h
    simp only at h
    by_cases h1 : 65535 < n
    · rw [if_pos h1] at h; simp at h
    · rw [if_neg h1] at h
      rcases hd : b.drop k with _ | ⟨kind, rest⟩
      · rw [hd] at h; simp at h
      · rw [hd] at h
        simp only at h
        have hmem : ∀ y, y ∈ rest → y ∈ b := fun y hy => List.mem_of_mem_drop (by rw [hd]; simp [hy])
        unfold decK at h
        split at h
        · exact hmem x h
        · split at h
          · exact hmem x h
          · split at h
            · split at h
              · simp at h
              · split at h
                · simp at h
                · exact hmem x (List.mem_of_mem_drop h)
            · simp at h

theorem decN_few (b : List Nat) : ((decN b).getD ([], [])).1.length ≤ 65535 := by
  unfold decN
  rcases hn : nextC b with _ | ⟨n, k⟩
  · simp
  · simp only
    by_cases h1 : 65535 < n
    · rw [if_pos h1]; simp
    · rw [if_neg h1]
      rcases hd : b.drop k with _ | ⟨kind, rest⟩
      · simp
      · simp only
        unfold decK
        split
        · simp; omega
        · split
          · simp; omega
          · split
            · split
              · simp
              · next us hus =>
                split
                · simp
                · have := unpackB_len (bs := rest.take ((n + 7) / 8)) (n := 1) (c := (n : Int))
                  rw [hus] at this
                  simpa using this
            · simp

theorem retDec_gen {o : Option (List Bool × List Nat)} {w : World} {e : Ending} {w' : World} (h : RetDec o w e w') :
    ∃ ao len cap ao2 len2 cap2, e = .returned (.tuple #[.slice ao len cap, .slice ao2 len2 cap2, .bool o.isSome]) ∧ Rd w' (.slice ao len cap) ((o.getD ([], [])).1.map boolv) ∧ Rd w' (.slice ao2 len2 cap2) ((o.getD ([], [])).2.map u8v) ∧ Below w.heap.size w w' := by
  rcases h with ⟨rfl, he, hb⟩ | ⟨l, r, ao, len, cap, ao2, len2, cap2, rfl, he, h1, h2, hb⟩
  · exact ⟨none, 0, 0, none, 0, 0, he, Rd.nil _, Rd.nil _, hb⟩
  · exact ⟨ao, len, cap, ao2, len2, cap2, he, h1, h2, hb⟩

set_option maxRecDepth 100000 in
set_option maxHeartbeats 4000000 in
theorem walk_NullTells (a0 : Option Addr) (len0 cap0 : Nat) (z0 : List Int) (a1 : Int) (a2 : Option Addr) (len2 cap2 : Nat) (z2 : List Int) (a3 : Int) (a4 : Int) (w : World) (w0 : IsRow .i64 w a0 len0 cap0 z0) (w2 : IsRow .u8 w a2 len2 cap2 z2) (w4 : (Lit.int .u8 a4).wf = true) :
    Calls Try.prog 12 #[.slice a0 len0 cap0, .int .i64 a1, .slice a2 len2 cap2, .int .i64 a3, .int .u8 a4] w fun e w' => e = .returned (.bool true) ∧ Below w.heap.size w w' := by
  obtain ⟨zs, _, hr0, _⟩ := isRow_rd w0
  obtain ⟨raw, hl2, hr2, h256⟩ := isRow_u8 w2
  obtain ⟨b0, b1⟩ := wf_u8 w4
  obtain ⟨by0, rfl⟩ := Int.eq_ofNat_of_zero_le b0
  have hby : by0 < 256 := by omega
  clear w0 w2 w4 b0 b1
  by_cases hbr : len2 ≤ 200
  · have hbr' : decide ((200 : Int) < (len2 : Int)) = false := by simp; omega
    have HR0 := Lib.hid hr0
    have HR2 := Lib.hid hr2
    have HL2 := Lib.hid hl2
    have H256 := Lib.hid h256
    clear hr0 hr2 hl2 h256
    obtain ⟨i0, hi, hz0, hz1, hz2⟩ := info_parts info8
    go_enter Try.func12, Try.ntmps12
    go_wp2_with fail
    refine (bools_any _ zs a1 _ HR0.out).mono ?_
    rintro e w3 ⟨xs, hx60, ao3, cap3, rfl, hown, hb⟩
    obtain ⟨len, hlen⟩ : ∃ len, len = xs.length := ⟨_, rfl⟩
    have HL := Lib.hid hlen
    have hrx : Rd w3 (.slice ao3 len cap3) (xs.map boolv) := by rw [hlen]; exact rd_own_map hown
    have HRX := Lib.hid hrx
    have HB3 := Lib.hid hb
    have HX60 := Lib.hid hx60
    rw [List.length_map, ← hlen]
    clear hown hb hrx hlen hx60
    go_wp2_with fail
    refine (refNulls_any _ xs _ HRX.out (by have := HX60.out; omega)).mono ?_
    rintro e w5 ⟨ao5, cap5, rfl, hown, hb⟩
    obtain ⟨bs, hbs⟩ : ∃ bs, bs = encN xs := ⟨_, rfl⟩
    obtain ⟨bl, hbl⟩ : ∃ bl, bl = bs.length := ⟨_, rfl⟩
    have hbl2 : bl ≤ 100 := by rw [hbl, hbs]; have := encN_len xs; have := HX60.out; omega
    have hbl1 : 0 < bl := by
      rw [hbl, hbs]
      unfold encN
      rw [List.length_append]
      have := (numC_len xs.length).2
      omega
    have HM := Lib.hid (show ∀ x ∈ bs, x < 256 by rw [hbs]; exact encN_lt _ (by have := HX60.out; omega))
    rw [← hbs] at hown ⊢
    have hrb : Rd w5 (.slice ao5 bl cap5) (bs.map u8v) := by rw [hbl]; exact rd_own_map hown
    rw [List.length_map, ← hbl]
    have HBS := Lib.hid hbs
    have HBL := Lib.hid hbl
    have HRB := Lib.hid hrb
    have HB5 := Lib.hid (below_then HB3.out hb)
    have HRX5 := Lib.hid (HRX.out.kept hb)
    clear hown hb hrb hbs hbl HRX
    go_upto_region 5 with (fail)
    go_cut [45] (fun s wx => s = .bool false ∧ Below w5.heap.size w5 wx)
    case first =>
      have hS1 := run_str (P := Try.prog) w5 27 9 5 Try.underlying27 Try.underlying5 Try.underlying9 HRB.out (lt256 _ HM.out)
      have hS2 := run_str (P := Try.prog) w5.drew 27 9 5 Try.underlying27 Try.underlying5 Try.underlying9 (HRB.out.kept (below_drw' _ _)) (lt256 _ HM.out)
      go_region_with (first
        | (go_at_call 40; go_must (refine (encode_any _ xs _ (HRX5.out.kept (below_drw' _ _)) (by have := HX60.out; omega)).mono ?_); rw [← HBS.out]; rintro e w6 ⟨ao6, cap6, rfl, hown6, hb6⟩; have hT1 : Below w5.heap.size w5 w6 := below_then (below_drw' _ _) hb6; have hT2 := run_str (P := Try.prog) w6 27 9 5 Try.underlying27 Try.underlying5 Try.underlying9 (HRB.out.kept hT1) (lt256 _ HM.out); have hT3 := run_str (P := Try.prog) w6 27 9 5 Try.underlying27 Try.underlying5 Try.underlying9 (rd_own_map hown6) (lt256 _ HM.out); simp only [List.length_map])
        | (go_at_call 41; go_must (refine (count_any _ xs _ (HRX5.out.kept hT1) (by have := HX60.out; omega)).mono ?_); rintro e w7 ⟨rfl, rfl⟩)
        | (go_at_call 47; go_must (refine (refCount_any _ xs _ (HRX5.out.kept hT1) (by have := HX60.out; omega)).mono ?_); rintro e w7 ⟨rfl, rfl⟩))
      all_goals
        go_wp2_with fail
        go_meet
        exact ⟨by simp, hT1⟩
    case rest =>
      obtain ⟨rfl, hbel⟩ := hcut
      obtain ⟨W1, hW1⟩ : ∃ W1 : World, W1 = wc := ⟨_, rfl⟩
      rw [← hW1] at hbel ⊢
      clear hW1
      have HRB1 := Lib.hid (HRB.out.kept hbel)
      have HB1 := Lib.hid (below_then HB5.out hbel)
      clear hbel HRB HB5 HRX5
      have HOE := Lib.hid (own_empty W1 W1.heap.size 5 (Nat.le_refl _))
      have HBA := Lib.hid (below_alloc W1 (.cells #[] 5))
      have HRB2 := Lib.hid (HRB1.out.kept HBA.out)
      have H3 := Lib.hid (ones_u8 bs)
      have H1 := Lib.hid (show (bs.map u8v).length = bl by rw [List.length_map, ← HBL.out])
      have H3R := Lib.hid (ones_u8 raw)
      have H1R := Lib.hid (show (raw.map u8v).length = len2 by rw [List.length_map, HL2.out])
      have hs1 := Lib.hid HBA.out.size
      obtain ⟨c, d, hc, hd, hd1, hc1⟩ := place_some a3 bl hbl1
      go_upto_region 9 with (at_builtin; go_must (refine wpList_append_rd rfl _ _ 27 rfl W1.heap.size 5 i0 (.int .u8 0) 1 Try.underlying27 hi hz0 hz1 hz2 rfl _ _ _ rfl HOE.out _ (bs.map u8v) rfl HRB2.out H3.out (by rw [H1.out]; unfold maxLen; omega) (by rw [H1.out]; omega) hs1.out ?_); intro v' w6 hown' hgrow; rw [H1.out, Nat.zero_add, List.nil_append] at hown'; have HB6 := Lib.hid (below_own HBA.out HOE.out hgrow); obtain ⟨ao6, cap6, hv⟩ := own_shape hown'; subst hv; have HO6 := Lib.hid hown'; clear hown' hgrow)
      obtain ⟨g, hg⟩ : ∃ g, ao6 = some ⟨g, 0, none⟩ := by
        rcases HO6.out.2 with ⟨_, h0⟩ | ⟨g, cap', cur, hv, _⟩
        · omega
        · simp only [Value.slice.injEq] at hv
          exact ⟨g, hv.1⟩
      subst hg
      have hfz := HO6.out.frozenAt d
      obtain ⟨y, hy⟩ : ∃ y, w6.cell? ⟨g, d, none⟩ = some y := by
        rw [HO6.out.cellAt d (by omega), List.getElem?_eq_getElem (by rw [List.length_map, ← HBL.out]; exact hd1)]; exact ⟨_, rfl⟩
      have hg1 : W1.heap.size ≤ g := own_base2 HO6.out g rfl
      have HST := Lib.hid (Rd.of_owns (HO6.out.stored d (u8v by0)).1)
      have HBS2 := Lib.hid (HB6.out.trans ((Below.refl _ _).setCell (p := ⟨g, d, none⟩) hg1 (u8v by0)))
      go_upto_region 10 with (fail)
      obtain ⟨W4, hW4⟩ : ∃ W4 : World, W4 = w6.setCell ⟨g, d, none⟩ (.int .u8 (by0 : Int)) := ⟨_, rfl⟩
      have hst := HST.out
      have hbs2 := HBS2.out
      unfold u8v at hst hbs2
      rw [← hW4] at hst hbs2 ⊢
      have HRB4 := Lib.hid (HRB1.out.kept hbs2)
      have HB4 := Lib.hid (below_then HB1.out hbs2)
      have HRR4 := Lib.hid (HR2.out.kept HB4.out)
      have HRY4 : Hid (Rd W4 (.slice (some ⟨g, 0, none⟩) bl cap6) ((bs.set d by0).map u8v)) := Lib.hid (by rw [List.map_set]; exact hst)
      have hcap5 : bl ≤ cap5 := rd_cap HRB4.out
      have hd5 : d ≤ cap5 := by omega
      clear hW4 hst hbs2 HST HBS2 HO6 HB6 hfz hy hg1 HOE HBA HRB1 HRB2 hs1 hc hd HB1
      go_cut [69, 70, 71] (fun s t u wx => ∃ g : Nat, s = .slice (some ⟨g, 0, none⟩) 5 5 ∧ t = .int .i64 5 ∧ u = .int .i64 0 ∧ RowsAt wx g 5 ∧ Below W4.heap.size W4 wx)
      case first =>
        go_region_law (first
          | (refine step_append_rd (by rfl) _ _ 27 (by rfl) W4.heap.size 5 i0 (.int .u8 0) 1 Try.underlying27 hi hz0 hz1 hz2 rfl _ _ _ (by rfl) hown5 _ (raw.map u8v) (by rfl) (HRR4.out.kept hbel5) H3R.out (by rw [H1R.out]; unfold maxLen; omega) (by rw [H1R.out]; omega) hbel5.size ?_; intro v6 w66 hown6 hgrow6; rw [H1R.out] at hown6; have hbel6 : Below W4.heap.size W4 w66 := below_own hbel5 hown5 hgrow6; obtain ⟨ao7, cap7, hv6⟩ := own_shape hown6; subst hv6)
          | (refine step_append_rd (by rfl) _ _ 27 (by rfl) W4.heap.size 5 i0 (.int .u8 0) 1 Try.underlying27 hi hz0 hz1 hz2 rfl _ _ _ (by rfl) (own_empty W4.drew W4.heap.size 5 (Nat.le_refl _)) _ (bs.map u8v) (by rfl) (HRB4.out.kept (below_lay (below_drw' W4.heap.size W4) (.cells #[] 5))) H3.out (by rw [H1.out]; unfold maxLen; omega) (by rw [H1.out]; omega) (below_lay (below_drw' W4.heap.size W4) (.cells #[] 5)).size ?_; intro v5 w5 hown5 hgrow5; rw [H1.out, Nat.zero_add, List.nil_append] at hown5; have hbel5 : Below W4.heap.size W4 w5 := below_own (below_lay (below_drw' W4.heap.size W4) (.cells #[] 5)) (own_empty W4.drew W4.heap.size 5 (Nat.le_refl _)) hgrow5; obtain ⟨ao66, cap66, hv5⟩ := own_shape hown5; subst hv5))
        all_goals
          have q0 : BytesAt w66 (.slice a2 len2 cap2) := ⟨raw, HRR4.out.kept hbel6, H256.out, by rw [HL2.out]; omega⟩
          have q1 : BytesAt w66 (.slice ao5 bl cap5) := ⟨bs, HRB4.out.kept hbel6, HM.out, by rw [← HBL.out]; omega⟩
          have q2 : BytesAt w66 (.slice (some ⟨g, 0, none⟩) bl cap6) := ⟨bs.set d by0, HRY4.out.kept hbel6, by
            intro x hx
            rcases List.mem_or_eq_of_mem_set hx with h | h
            · exact HM.out x h
            · rw [h]; exact hby, by rw [List.length_set, ← HBL.out]; omega⟩
          have q3 : BytesAt w66 (.slice ao5 d cap5) := ⟨bs.take d, by rw [List.map_take]; exact rd_take (HRB4.out.kept hbel6) (by omega), fun x hx => HM.out x (List.mem_of_mem_take hx), by rw [List.length_take, ← HBL.out]; omega⟩
          have q4 : BytesAt w66 (.slice ao7 (bl + len2) cap7) := ⟨bs ++ raw, by rw [List.map_append]; exact Rd.of_owns hown6, by
            intro x hx
            rcases List.mem_append.1 hx with h | h
            · exact HM.out x h
            · exact H256.out x h, by rw [List.length_append, ← HBL.out, HL2.out]; omega⟩
          have HRW := Lib.hid (five_rows w66 _ _ _ _ _ 27 q0 q1 q2 q3 q4)
          have HBW6 := Lib.hid (below_lay hbel6 (.cells #[.slice a2 len2 cap2, .slice ao5 bl cap5, .slice (some ⟨g, 0, none⟩) bl cap6, .slice ao5 d cap5, .slice ao7 (bl + len2) cap7] 27))
          clear hown5 hgrow5 hbel5 hown6 hgrow6 hbel6 q0 q1 q2 q3 q4
          go_wp2_with fail
          go_meet
          exact ⟨_, rfl, rfl, rfl, HRW.out, HBW6.out⟩
      case rest =>
        obtain ⟨g5, rfl, rfl, rfl, hfive, hbel⟩ := hcut
        obtain ⟨W5, hW5⟩ : ∃ W5 : World, W5 = wc := ⟨_, rfl⟩
        rw [← hW5] at hbel hfive ⊢
        clear hW5
        have HF := Lib.hid hfive
        have HB5 := Lib.hid (below_then HB4.out hbel)
        clear hbel hfive HB4 HRB4 HRY4 HRR4
        go_wp2_with fail
        go_loopw [71] (fun i wr => ∃ j : Nat, j ≤ 5 ∧ i = .int .i64 (j : Int) ∧ Below W5.heap.size W5 wr) (fun i _ => 5 - (intOf i).toNat)
        case atStart => exact ⟨0, by omega, rfl, Below.refl _ _⟩
        case round =>
          obtain ⟨j, hj, rfl, hbel⟩ := hrel
          obtain ⟨wj, rfl⟩ : ∃ wj : World, wj = wr := ⟨_, rfl⟩
          have HBJ := Lib.hid hbel
          by_cases hlt5 : j < 5
          · have hdj : decide ((j : Int) < 5) = true := by simp; omega
            obtain ⟨v, hx, hv⟩ := HF.out.kept hbel j hlt5
            obtain ⟨ys, hrx, hx256, hxl⟩ := hv
            have HRY := Lib.hid hrx
            have HY256 := Lib.hid hx256
            have HYL := Lib.hid hxl
            clear hbel hrx hx256 hxl
            obtain ⟨o, ho⟩ : ∃ o, o = (decN ys).isSome := ⟨_, rfl⟩
            obtain ⟨ll, hll⟩ : ∃ ll, ll = ((decN ys).getD ([], [])).1 := ⟨_, rfl⟩
            obtain ⟨rr, hrr⟩ : ∃ rr, rr = ((decN ys).getD ([], [])).2 := ⟨_, rfl⟩
            have HR256 := Lib.hid (show ∀ x ∈ rr, x < 256 from fun x hx => HY256.out x (decN_mem ys x (by rw [← hrr]; exact hx)))
            obtain ⟨nl, hnl⟩ : ∃ nl, nl = ll.length := ⟨_, rfl⟩
            have HO := Lib.hid ho
            have HLL := Lib.hid hll
            have HRR := Lib.hid hrr
            have HNL := Lib.hid hnl
            have hnl2 : nl ≤ 65535 := by rw [hnl, hll]; exact decN_few ys
            clear ho hll hrr hnl
            go_wp2_with fail
            refine (decode_any v ys _ HRY.out HY256.out HYL.out).mono ?_
            intro e w7 hret
            obtain ⟨d1, e1, f1, d2, e2, f2, rfl, hr1, hr2, hb⟩ := retDec_gen hret
            rw [← HO.out]
            rw [← HLL.out] at hr1
            rw [← HRR.out] at hr2
            obtain rfl : e1 = nl := (rdb_cells hr1).1.trans HNL.out.symm
            have HD1 := Lib.hid hr1
            have HD2 := Lib.hid hr2
            have HB7 := Lib.hid (below_then HBJ.out hb)
            have HRY7 := Lib.hid (HRY.out.kept hb)
            clear hret hr1 hr2 hb
            go_wp2_with fail
            refine (refGet_any v ys _ HRY7.out HY256.out HYL.out).mono ?_
            intro e w8 hret
            obtain ⟨g1, e3, f3, g2, e4, f4, rfl, hr1, hr2, hb⟩ := retDec_gen hret
            rw [← HO.out]
            rw [← HLL.out] at hr1
            rw [← HRR.out] at hr2
            obtain rfl : e3 = e1 := (rdb_cells hr1).1.trans HNL.out.symm
            have HG1 := Lib.hid hr1
            have HD1' := Lib.hid (HD1.out.kept hb)
            have HB8 := Lib.hid (below_then HB7.out hb)
            have hcv := run_str (P := Try.prog) w8 27 9 5 Try.underlying27 Try.underlying5 Try.underlying9 (HD2.out.kept hb) (lt256 _ HR256.out)
            have hcw := run_str (P := Try.prog) w8 27 9 5 Try.underlying27 Try.underlying5 Try.underlying9 hr2 (lt256 _ HR256.out)
            have hoo : (o != o) = false := bne_self_eq_false o
            have hee : ((e3 : Int) != (e3 : Int)) = false := bne_self_eq_false _
            clear hret hr1 hr2 hb HRY7 HD1 HD2 HB7
            go_wp2_with fail
            go_loopw [106] (fun i wr => ∃ t : Nat, t ≤ e3 ∧ i = .int .i64 (t : Int) ∧ Below w8.heap.size w8 wr) (fun i _ => e3 - (intOf i).toNat)
            case atStart => exact ⟨0, by omega, rfl, Below.refl _ _⟩
            case round =>
              obtain ⟨t, ht, rfl, hbel⟩ := hrel
              have HBT := Lib.hid hbel
              clear hbel hcv hcw
              by_cases hlt : t < e3
              · have hdt : decide ((t : Int) < (e3 : Int)) = true := by simp; omega
                obtain ⟨b, off, rfl, hcell⟩ := (rdb_cells (HD1'.out.kept HBT.out)).2 (by omega)
                obtain ⟨b2, off2, rfl, hcell2⟩ := (rdb_cells (HG1.out.kept HBT.out)).2 (by omega)
                have hx := hcell t hlt
                have hy := hcell2 t hlt
                obtain ⟨x, hxe⟩ : ∃ x, x = ll.getD t false := ⟨_, rfl⟩
                rw [← hxe] at hx hy
                have hxx : (x != x) = false := bne_self_eq_false x
                clear hxe hcell hcell2
                go_wp2_with fail
                go_quiet (fail)
                go_wp2_with fail
                go_roundw
                case rel => exact ⟨t + 1, by omega, by go_num, below_draws HBT.out _⟩
                case measure => simp [intOf]; omega
              · go_wp2_with fail
                go_roundw
                case rel => exact ⟨j + 1, by omega, by go_num, below_then HB8.out HBT.out⟩
                case measure => simp [intOf]; omega
          · go_wp2_with fail
            refine (awake3_any _).mono ?_
            rintro e w9 ⟨rfl, hb⟩
            have HB9 := Lib.hid (below_then HB5.out (below_then HBJ.out hb))
            clear hb
            go_wp2_with fail
            go_ret
            exact ⟨rfl, HB9.out⟩
  · have hbr' : decide ((200 : Int) < (len2 : Int)) = true := by simp; omega
    go_enter Try.func12, Try.ntmps12
    go_wp2_with fail
    refine (awake3_any _).mono ?_
    rintro e w6 ⟨rfl, hb⟩
    have HB6 := Lib.hid hb
    clear hb
    go_wp2_with fail
    go_ret
    exact ⟨rfl, HB6.out⟩

end Go.Proofs.Ytdelcaijehcaeaa
