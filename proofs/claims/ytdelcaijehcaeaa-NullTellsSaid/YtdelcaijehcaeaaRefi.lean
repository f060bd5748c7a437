/-
  Contract of the reference's GetNulls.
-/
import Derived.Test.YtdelcaijehcaeaaRefh
import Derived.OwnWalk
import Derived.BigRegion
import Derived.Deep.DeepCutAuto
import Derived.Deep.RegionHeld3
namespace Go.Proofs.Ytdelcaijehcaeaa
set_option linter.unusedVariables false
open Go.RowKit

theorem bit_is (x s : Nat) (hx : x < 256) : (bits .and .u8 ((x : Int) / 2 ^ s) 1 == 1) = x.testBit s := by
  have e : (1 : Int) = ((1 : Nat) : Int) := rfl
  rw [div_cast, e, u8_and_nat _ _ (Nat.lt_of_le_of_lt (Nat.div_le_self _ _) hx) (by decide), nat_mask1, Nat.testBit_eq_decide_div_mod_eq]
  rw [Bool.eq_iff_iff, beq_iff_eq, decide_eq_true_iff]
  omega

theorem decK_kind (n kind : Nat) (rest : List Nat) (h : 2 < kind) : decK n kind rest = none := by
  unfold decK
  rw [if_neg (by omega), if_neg (by omega), if_neg (by omega)]

set_option maxRecDepth 100000 in
set_option maxHeartbeats 4000000 in
theorem refGet_any (v : Value) (bs : List Nat) (w : World) (hr : Rd w v (bs.map u8v)) (h256 : ∀ x ∈ bs, x < 256) (hbig : bs.length ≤ 17592186044416) :
    Calls Try.prog 48 #[v] w (RetDec (decN bs) w) := by
  have HR := Lib.hid hr
  have hr2 := hr
  obtain ⟨ao, cap, hv, hcap, _⟩ := hr2
  rw [List.length_map] at hv
  subst hv
  obtain ⟨len, hlen⟩ : ∃ len, len = bs.length := ⟨_, rfl⟩
  rw [← hlen] at HR hbig ⊢
  have HL := Lib.hid hlen
  have H256 := Lib.hid h256
  clear hr hcap hlen h256
  go_enter Try.func48, Try.ntmps48
  go_wp2_with fail
  have HBA := Lib.hid (below_alloc w (.cells #[.slice ao len cap, .bool false] 97))
  have HQ0 : Hid (IsQ (w.alloc (.cells #[.slice ao len cap, .bool false] 97)) w.heap.size bs false) := Lib.hid ⟨_, heap_alloc_new w _, HR.out.kept HBA.out⟩
  refine (refRNum_any w.heap.size bs _ HQ0.out H256.out (by rw [← HL.out]; exact hbig)).mono ?_
  rintro e w2 (⟨hn, rfl, hq, hg⟩ | ⟨n, k, hn, rfl, hq, hg⟩)
  · have HB2 := Lib.hid (show Below w.heap.size w w2 from HBA.out.grown hg HBA.out.size (fun k e => by cases e; exact Nat.le_refl _))
    have HN := Lib.hid (decN_none bs hn)
    obtain ⟨v2, hv2, _⟩ := hq
    obtain ⟨c0, c1, f0, f1⟩ := isQ_cells hv2
    clear hn hg hv2
    go_wp2_with fail
    go_ret3
    exact .inl ⟨HN.out, rfl, HB2.out⟩
  · have HB2 := Lib.hid (show Below w.heap.size w w2 from HBA.out.grown hg HBA.out.size (fun k e => by cases e; exact Nat.le_refl _))
    have HN := Lib.hid hn
    have hb := nextC_bound bs n k hn
    obtain ⟨v2, hv2, hr2⟩ := hq
    obtain ⟨c0, c1, f0, f1⟩ := isQ_cells hv2
    have hr3 := hr2
    obtain ⟨ao2, cap2, hvs, _⟩ := hr3
    rw [List.length_map, List.length_drop] at hvs
    subst hvs
    obtain ⟨ll, hll⟩ : ∃ ll, ll = bs.length - k := ⟨_, rfl⟩
    rw [← hll] at c0 hr2
    have HLL := Lib.hid hll
    have HR2 := Lib.hid hr2
    obtain ⟨kb1, kb2⟩ := hb
    clear hn hg hv2 hr2 hll
    by_cases hn1 : 65535 < n
    · have hd : decide ((65535 : Int) < (n : Int)) = true := by simp; omega
      have HD := Lib.hid (decN_many bs n k HN.out hn1)
      clear hn1
      go_wp2_with fail
      go_ret3
      exact .inl ⟨HD.out, rfl, HB2.out⟩
    · have hd : decide ((65535 : Int) < (n : Int)) = false := by simp; omega
      have HN1 := Lib.hid (show n ≤ 65535 by omega)
      clear hn1
      by_cases hl0 : ll = 0
      · have hd0 : ((ll : Int) == 0) = true := by rw [beq_iff_eq]; omega
        have HD := Lib.hid (decN_end bs n k HN.out (List.drop_of_length_le (by have := HLL.out; omega)))
        clear hl0
        go_wp2_with fail
        go_ret3
        exact .inl ⟨HD.out, rfl, HB2.out⟩
      · have hd0 : ((ll : Int) == 0) = false := by rw [beq_eq_false_iff_ne]; omega
        obtain ⟨b, off, rfl, hcells⟩ := (rd_cells HR2.out).2 (by omega)
        have hx := hcells 0 (by omega)
        obtain ⟨kind, hkind⟩ : ∃ kind, kind = (bs.drop k).getD 0 0 := ⟨_, rfl⟩
        obtain ⟨rest, hrest⟩ : ∃ rest, rest = (bs.drop k).drop 1 := ⟨_, rfl⟩
        have HDR := Lib.hid (show bs.drop k = kind :: rest by
          rw [hkind, hrest]
          rcases hbk : bs.drop k with _ | ⟨y, r⟩
          · have := congrArg List.length hbk
            rw [List.length_drop] at this
            have := HLL.out
            simp at *
            omega
          · rfl)
        rw [← hkind, Nat.add_zero] at hx
        have hk256 : kind < 256 := H256.out kind (List.mem_of_mem_drop (by rw [HDR.out]; simp))
        have HDN := Lib.hid (decN_kind bs n k kind rest HN.out HN1.out HDR.out)
        clear hcells hkind hrest
        by_cases hk2 : 2 < kind
        · have hd2 : decide ((2 : Int) < (kind : Int)) = true := by simp; omega
          have HD := Lib.hid (HDN.out.trans (decK_kind n kind rest hk2))
          clear hk2
          go_wp2_with fail
          go_ret3
          exact .inl ⟨HD.out, rfl, HB2.out⟩
        · have hd2 : decide ((2 : Int) < (kind : Int)) = false := by simp; omega
          have HRR := Lib.hid (show Rd w2 (.slice (if cap2 = 1 then (some ⟨b, off, none⟩ : Option Addr) else (some ⟨b, off + 1, none⟩ : Option Addr)) (ll - 1) (cap2 - 1)) (rest.map u8v) by
            have h1 := rd_behind HR2.out (show 1 ≤ ll by omega)
            rw [← List.map_drop, HDR.out] at h1
            exact h1)
          have hcap2 : 1 ≤ cap2 := by have := rd_cap HR2.out; omega
          have HK2 := Lib.hid (show kind ≤ 2 by omega)
          clear hk2
          go_wp2_with fail
          go_quiet (fail)
          obtain ⟨ar, har⟩ : ∃ ar : Option Addr, ar = (if cap2 = 1 then (some ⟨b, off, none⟩ : Option Addr) else (some ⟨b, off + 1, none⟩ : Option Addr)) := ⟨_, rfl⟩
          obtain ⟨rl, hrl⟩ : ∃ rl, rl = ll - 1 := ⟨_, rfl⟩
          obtain ⟨rc, hrc⟩ : ∃ rc, rc = cap2 - 1 := ⟨_, rfl⟩
          rw [← har, ← hrl, ← hrc] at HRR ⊢
          have HRL := Lib.hid (rd_cells HRR.out).1
          have HRR3 := Lib.hid (rd_drewN HRR.out nq)
          have HB3 := Lib.hid (below_draws HB2.out nq)
          obtain ⟨W3, hW3⟩ : ∃ W3 : World, W3 = w2.drewN nq := ⟨_, rfl⟩
          rw [← hW3] at HRR3 HB3 ⊢
          obtain ⟨z, hz⟩ : ∃ z, z = (n + 7) / 8 := ⟨_, rfl⟩
          have hzi : ((n : Int) + 7) / 8 = (z : Int) := by omega
          have hzi2 : ((n : Int) + 7).tdiv 8 = (z : Int) := by rw [Int.tdiv_eq_ediv_of_nonneg (by omega)]; exact hzi
          have HZ := Lib.hid hz
          have hn16 : n ≤ 65535 := HN1.out
          have hrl2 : rl ≤ 17592186044416 := by have := HLL.out; have := HL.out; omega
          clear hW3 har hrl hrc hz hx c0 c1 f0 f1 HRR HR2 hcap2 hd2 hd0 hl0 hd
          by_cases hshort : kind = 2 ∧ rl < z
          · obtain ⟨hk, hrz⟩ := hshort
            have hk2i : ((kind : Int) == 2) = true := by rw [beq_iff_eq]; omega
            have hdz : decide (rl < z) = true := by simp; omega
            have HD := Lib.hid ((hk ▸ HDN.out).trans (decK_short n rest (by rw [← HRL.out, ← HZ.out]; exact hrz)))
            clear hrz hk
            go_wp2_with fail
            go_ret3
            exact .inl ⟨HD.out, rfl, HB3.out⟩
          · have hcase : (((kind : Int) == 2) = true ∧ decide (rl < z) = false) ∨ (((kind : Int) == 2) = false ∧ True) := by
              by_cases h : kind = 2
              · left; exact ⟨by rw [beq_iff_eq]; omega, by simp; omega⟩
              · right; exact ⟨by rw [beq_eq_false_iff_ne]; omega, trivial⟩
            have HSZ := Lib.hid (show kind = 2 → (n + 7) / 8 ≤ rest.length by intro h; rw [← HRL.out, ← HZ.out]; omega)
            clear hshort
            go_upto_region 7 with (fail)
            go_cut [65] (fun s wx => s = .bool false ∧ W3 = wx)
            case first =>
              rcases hcase with ⟨h1, h2⟩ | ⟨h1, h2⟩
              all_goals
                go_wp2_with fail
                go_meet
                exact ⟨by simp, rfl⟩
            case rest =>
              obtain ⟨rfl, rfl⟩ := hcut
              clear hcase
              obtain ⟨i0, hi, hz0, hz1, hz2⟩ := info_parts infob
              go_wp2_with fail
              go_loopw [10, 11] (fun vb i wr => ∃ j : Nat, j ≤ n ∧ i = .int .i64 (j : Int) ∧ wr.ownsRow W3.heap.size 4 1 vb j ((outB kind rest j).map boolv) ∧ Below W3.heap.size W3 wr) (fun _ i _ => n - (intOf i).toNat)
              case atStart => exact ⟨0, Nat.zero_le _, rfl, owns_nil _ _ _, Below.refl _ _⟩
              case round =>
                obtain ⟨j, hj, rfl, hown, hbel⟩ := hrel
                obtain ⟨aob, capb, hv⟩ := own_shape hown
                subst hv
                have HO := Lib.hid hown
                have HB := Lib.hid hbel
                have HOA := Lib.hid (fun o => hown.alloc o)
                clear hown hbel
                by_cases hlt : j < n
                · have hjr : kind = 2 → j / 8 < rl := by intro h; have := HSZ.out h; rw [← HRL.out] at this; omega
                  have hcase : (((kind : Int) == 1) = true ∧ (outB kind rest (j + 1)).map boolv = (outB kind rest j).map boolv ++ [boolv true]) ∨ ((((kind : Int) == 1) = false ∧ ((kind : Int) == 2) = true) ∧ kind = 2) ∨ ((((kind : Int) == 1) = false ∧ ((kind : Int) == 2) = false) ∧ (outB kind rest (j + 1)).map boolv = (outB kind rest j).map boolv ++ [boolv false]) := by
                    rw [outB_succ, List.map_append]
                    by_cases h1 : kind = 1
                    · left; exact ⟨by rw [beq_iff_eq]; omega, by simp [h1]⟩
                    · right
                      by_cases h2 : kind = 2
                      · left; exact ⟨⟨by rw [beq_eq_false_iff_ne]; omega, by rw [beq_iff_eq]; omega⟩, h2⟩
                      · right; exact ⟨⟨by rw [beq_eq_false_iff_ne]; omega, by rw [beq_eq_false_iff_ne]; omega⟩, by simp [h1, h2]⟩
                  have hsz := fun (x : Value) (E : TypeId) => Lib.hid (show W3.heap.size ≤ (wr.alloc (.cells #[x] E)).heap.size by simp; have := HB.out.size; omega)
                  have H2 := fun y : Bool => Lib.hid (one_cell wr (boolv y) 4)
                  have H3 := fun y : Bool => Lib.hid (show ∀ u ∈ [boolv y], u.oneCell' = true by intro u hu; simp at hu; subst hu; rfl)
                  rcases hcase with ⟨hk1, hs⟩ | ⟨⟨hk1, hk2⟩, hke⟩ | ⟨⟨hk1, hk2⟩, hs⟩
                  · have HS := Lib.hid hs
                    clear hs
                    go_wp2_with (at_builtin; go_must (refine wpList_append_own _ rfl _ _ 65 rfl W3.heap.size 4 i0 (.bool false) 1 1 Try.underlying65 hi hz0 hz1 hz2 rfl (by decide) _ _ _ rfl (HOA.out _) ⟨wr.heap.size, 0, none⟩ 1 1 [boolv true] rfl rfl (H2 true).out (H3 true).out (by unfold maxLen; omega) (by omega) (hsz _ _).out ?_); intro v' w5 hown' hgrow _)
                    have HO' := Lib.hid hown'
                    have HB' := Lib.hid (below_own (below_lay HB.out _) (HOA.out _) hgrow)
                    clear hown' hgrow
                    go_wp2_with fail
                    go_roundw
                    case rel =>
                      refine ⟨j + 1, by omega, by go_num, ?_, HB'.out⟩
                      rw [HS.out]
                      exact HO'.out
                    case measure => simp [intOf]; omega
                  · obtain ⟨b3, off3, rfl, hcells⟩ := (rd_cells (HRR3.out.kept HB.out)).2 (by have := hjr hke; omega)
                    have hx := hcells (j / 8) (hjr hke)
                    obtain ⟨x, hxe⟩ : ∃ x, x = rest.getD (j / 8) 0 := ⟨_, rfl⟩
                    rw [← hxe] at hx
                    have hx2 : x < 256 := by rw [hxe]; exact lt256 rest (fun y hy => H256.out y (List.mem_of_mem_drop (by rw [HDR.out]; simp [hy]))) _
                    obtain ⟨y, hy⟩ : ∃ y, y = x.testBit (7 - j % 8) := ⟨_, rfl⟩
                    have hbit := bit_is x (7 - j % 8) hx2
                    rw [← hy] at hbit
                    have HS := Lib.hid (show (outB kind rest (j + 1)).map boolv = (outB kind rest j).map boolv ++ [boolv y] by
                      have hb : bitB rest j = y := by unfold bitB; rw [hy, ← hxe]
                      rw [outB_succ, List.map_append, hke, hb]
                      simp)
                    clear hcells hxe hy
                    go_wp2_with (at_builtin; go_must (refine wpList_append_own _ rfl _ _ 65 rfl W3.heap.size 4 i0 (.bool false) 1 1 Try.underlying65 hi hz0 hz1 hz2 rfl (by decide) _ _ _ rfl (HOA.out _) ⟨wr.heap.size, 0, none⟩ 1 1 [boolv y] rfl rfl (H2 y).out (H3 y).out (by unfold maxLen; omega) (by omega) (hsz _ _).out ?_); intro v' w5 hown' hgrow _)
                    have HO' := Lib.hid hown'
                    have HB' := Lib.hid (below_own (below_lay HB.out _) (HOA.out _) hgrow)
                    clear hown' hgrow
                    go_wp2_with fail
                    go_roundw
                    case rel =>
                      subst hke
                      (repeat apply Exists.intro)
                      refine ⟨⟨j + 1, by omega, by go_num, ?_, HB'.out⟩, rfl⟩
                      rw [HS.out]
                      exact HO'.out
                    case measure => simp [intOf]; omega
                  · have HS := Lib.hid hs
                    clear hs
                    go_wp2_with (at_builtin; go_must (refine wpList_append_own _ rfl _ _ 65 rfl W3.heap.size 4 i0 (.bool false) 1 1 Try.underlying65 hi hz0 hz1 hz2 rfl (by decide) _ _ _ rfl (HOA.out _) ⟨wr.heap.size, 0, none⟩ 1 1 [boolv false] rfl rfl (H2 false).out (H3 false).out (by unfold maxLen; omega) (by omega) (hsz _ _).out ?_); intro v' w5 hown' hgrow _)
                    have HO' := Lib.hid hown'
                    have HB' := Lib.hid (below_own (below_lay HB.out _) (HOA.out _) hgrow)
                    clear hown' hgrow
                    go_wp2_with fail
                    go_roundw
                    case rel =>
                      refine ⟨j + 1, by omega, by go_num, ?_, HB'.out⟩
                      rw [HS.out]
                      exact HO'.out
                    case measure => simp [intOf]; omega
                · obtain rfl : j = n := by omega
                  obtain ⟨W4, hW4⟩ : ∃ W4 : World, W4 = wr := ⟨_, rfl⟩
                  rw [← hW4] at HO HB HOA ⊢
                  clear hW4 hi hz0 hz1 hz2 HOA
                  have HRO := Lib.hid (Rd.of_owns HO.out)
                  have HOL := Lib.hid (show (outB kind rest j).length = j from outB_length _ _ _)
                  go_wp2_with fail
                  refine (refNulls_any _ (outB kind rest j) _ HRO.out (by rw [HOL.out]; exact hn16)).mono ?_
                  rintro e w5 ⟨ao5, cap5, rfl, hown, hb⟩
                  obtain ⟨ag, hag⟩ : ∃ ag, ag = encN (outB kind rest j) := ⟨_, rfl⟩
                  rw [← hag] at hown ⊢
                  obtain ⟨al, hal⟩ : ∃ al, al = ag.length := ⟨_, rfl⟩
                  have hal2 : al ≤ 8300 := by have := encN_len (outB kind rest j); rw [HOL.out, ← hag, ← hal] at this; omega
                  have hra : Rd w5 (.slice ao5 al cap5) (ag.map u8v) := by rw [hal]; exact rd_own_map hown
                  rw [List.length_map, ← hal]
                  have HAG := Lib.hid hag
                  have HAL := Lib.hid hal
                  have HRA := Lib.hid hra
                  have HB5 := Lib.hid (below_then (below_then HB3.out HB.out) hb)
                  have HRO5 := Lib.hid (HRO.out.kept hb)
                  have HR5 := Lib.hid (HR.out.kept HB5.out)
                  have HBS := Lib.hid (show bs = numC j ++ kind :: rest by
                    have h1 := nextC_canon bs j k H256.out HN.out
                    rw [← h1, ← HDR.out, List.take_append_drop])
                  have HGK := Lib.hid (get_kind j kind rest hn16 HK2.out (fun i => lt256 rest (fun y hy => H256.out y (by rw [HBS.out]; simp [hy])) i) HSZ.out)
                  rw [← hag, ← HBS.out, ← hal] at HGK
                  have HM := Lib.hid (show ∀ x ∈ ag, x < 256 by rw [hag]; exact encN_lt _ (by rw [HOL.out]; omega))
                  clear hown hb hra hal hag
                  by_cases halb : len < al
                  · have hd1 : decide ((len : Int) < (al : Int)) = true := by simp; omega
                    have HD := Lib.hid (HDN.out.trans (HGK.out.2 (by
                      intro h
                      have := congrArg List.length h
                      rw [List.length_take, ← HAL.out, ← HL.out] at this
                      omega)))
                    go_wp2_with fail
                    go_quiet (fail)
                    go_wp2_with fail
                    go_ret3
                    exact .inl ⟨HD.out, rfl, below_draws HB5.out _⟩
                  · have hd1 : decide ((len : Int) < (al : Int)) = false := by simp; omega
                    have hcv := fun nq : Nat => run_str (P := Try.prog) (w5.drewN nq) 27 9 5 Try.underlying27 Try.underlying5 Try.underlying9 (rd_drewN HRA.out nq) (lt256 _ HM.out)
                    have hrt : Rd w5 (.slice ao al cap) ((bs.take al).map u8v) := by rw [List.map_take]; exact rd_take HR5.out (by omega)
                    have hct := fun nq : Nat => run_str (P := Try.prog) (w5.drewN nq) 27 9 5 Try.underlying27 Try.underlying5 Try.underlying9 (rd_drewN hrt nq) (lt256 _ (fun x hx => H256.out x (List.mem_of_mem_take hx)))
                    have hacap : al ≤ cap := by have := rd_cap HR.out; omega
                    by_cases heq : ag = bs.take al
                    · rw [← heq] at hct
                      have hg := HGK.out.1 heq
                      have HD := Lib.hid (HDN.out.trans hg.2)
                      have hcase : (((kind : Int) == 2) = true ∧ kind = 2) ∨ (((kind : Int) == 2) = false ∧ ¬ kind = 2) := by
                        by_cases h : kind = 2
                        · left; exact ⟨by rw [beq_iff_eq]; omega, h⟩
                        · right; exact ⟨by rw [beq_eq_false_iff_ne]; omega, h⟩
                      have HG1 := Lib.hid hg.1
                      clear hg heq hrt
                      go_upto_region 15 with (fail)
                      go_cut [126] (fun s wx => s = .bool false ∧ Below w5.heap.size w5 wx)
                      case first =>
                        rcases hcase with ⟨hk1, hke⟩ | ⟨hk1, hke⟩
                        · obtain ⟨hg2, hg3⟩ := HG1.out hke
                          rw [← HZ.out] at hg2 hg3
                          obtain ⟨ix, hix⟩ : ∃ ix, ix = al - z - 1 := ⟨_, rfl⟩
                          rw [← hix] at hg3
                          have hixl : ix < al := by omega
                          have hixi : (al : Int) - (z : Int) - 1 = (ix : Int) := by omega
                          obtain ⟨b5, off5, rfl, hcells⟩ := (rd_cells HRA.out).2 (by omega)
                          have hx := hcells ix hixl
                          rw [hg3] at hx
                          have hb0 : (0 : Int) ≤ (ix : Int) := by omega
                          have hb1 : (ix : Int) < (al : Int) := by omega
                          have hb2 : (0 : Int) ≤ (al : Int) - (z : Int) - 1 := by omega
                          have hb3 : (al : Int) - (z : Int) - 1 < (al : Int) := by omega
                          clear hcells hix hg2 hg3
                          go_quiet (fail)
                          all_goals
                            go_wp2_with fail
                            go_meet
                            exact ⟨by simp, below_drew _ _ _⟩
                        · have hk3 : decide (kind = 2) = false := by simp [hke]
                          have hk4 : (kind == 2) = false := by simp [hke]
                          go_quiet (fail)
                          all_goals
                            go_wp2_with fail
                            go_meet
                            exact ⟨by simp, below_drew _ _ _⟩
                      case rest =>
                        obtain ⟨rfl, hbel⟩ := hcut
                        obtain ⟨W6, hW6⟩ : ∃ W6 : World, W6 = wc := ⟨_, rfl⟩
                        rw [← hW6] at hbel ⊢
                        clear hW6 hcase hcv hct
                        have HB6 := Lib.hid (below_then HB5.out hbel)
                        have HRO6 := Lib.hid (HRO5.out.kept hbel)
                        have HR6 := Lib.hid (HR5.out.kept hbel)
                        have hal0 : 0 < al := by
                          rw [HAL.out, HAG.out]
                          unfold encN
                          rw [List.length_append]
                          have := (numC_len (outB kind rest j).length).2
                          omega
                        obtain ⟨b0, off0, rfl, _⟩ := (rd_cells HR6.out).2 (by omega)
                        have HOE := Lib.hid (own_empty W6 W6.heap.size 5 (Nat.le_refl _))
                        have HBA6 := Lib.hid (below_alloc W6 (.cells #[] 5))
                        have hs1 := Lib.hid HBA6.out.size
                        obtain ⟨i1, hi, hz0, hz1, hz2⟩ := info_parts info8
                        clear hbel
                        by_cases hca : cap = al
                        · have hdl : bs.drop al = [] := List.drop_of_length_le (by have := HL.out; have := rd_cap HR6.out; omega)
                          rw [hdl] at HD
                          subst hca
                          have H3 := Lib.hid (ones_u8 [])
                          have H1 := Lib.hid (show (([] : List Nat).map u8v).length = 0 by rfl)
                          have HRB := Lib.hid (show Rd (W6.alloc (.cells #[] 5)) (.slice (some ⟨b0, off0, none⟩) (len - cap) 0) ([].map u8v) by
                            rw [show len - cap = 0 by have := rd_cap HR6.out; omega]
                            exact rd_empty _ _ _)
                          clear hdl
                          go_wp2_with (at_builtin; go_must (refine wpList_append_rd rfl _ _ 27 rfl W6.heap.size 5 i1 (.int .u8 0) 1 Try.underlying27 hi hz0 hz1 hz2 rfl _ _ _ rfl HOE.out _ ([].map u8v) rfl HRB.out H3.out (by rw [H1.out]; unfold maxLen; omega) (by rw [H1.out]; omega) hs1.out ?_); intro v' w7 hown' hgrow; rw [H1.out, Nat.zero_add, List.nil_append] at hown'; have HB7 := Lib.hid (below_own HBA6.out HOE.out hgrow); obtain ⟨ao7, cap7, hv⟩ := own_shape hown'; subst hv; have HO7 := Lib.hid (Rd.of_owns hown'); clear hown' hgrow)
                          have HRO7 := Lib.hid (HRO6.out.kept HB7.out)
                          have HBZ := Lib.hid (below_then HB6.out HB7.out)
                          go_wp2_with fail
                          go_ret3
                          exact .inr ⟨_, _, _, _, _, _, _, _, HD.out, rfl, HRO7.out, HO7.out, HBZ.out⟩
                        · have hca2 : ¬ al = cap := fun h => hca h.symm
                          have HRB := Lib.hid ((rd_drop HR6.out (show al ≤ len by omega)).kept HBA6.out)
                          rw [← List.map_drop] at HRB
                          have H3 := Lib.hid (ones_u8 (bs.drop al))
                          have H1 := Lib.hid (show ((bs.drop al).map u8v).length = len - al by rw [List.length_map, List.length_drop, ← HL.out])
                          go_wp2_with (at_builtin; go_must (refine wpList_append_rd rfl _ _ 27 rfl W6.heap.size 5 i1 (.int .u8 0) 1 Try.underlying27 hi hz0 hz1 hz2 rfl _ _ _ rfl HOE.out _ ((bs.drop al).map u8v) rfl HRB.out H3.out (by rw [H1.out]; unfold maxLen; omega) (by rw [H1.out]; omega) hs1.out ?_); intro v' w7 hown' hgrow; rw [H1.out, Nat.zero_add, List.nil_append] at hown'; have HB7 := Lib.hid (below_own HBA6.out HOE.out hgrow); obtain ⟨ao7, cap7, hv⟩ := own_shape hown'; subst hv; have HO7 := Lib.hid (Rd.of_owns hown'); clear hown' hgrow)
                          have HRO7 := Lib.hid (HRO6.out.kept HB7.out)
                          have HBZ := Lib.hid (below_then HB6.out HB7.out)
                          go_wp2_with fail
                          go_ret3
                          exact .inr ⟨_, _, _, _, _, _, _, _, HD.out, rfl, HRO7.out, HO7.out, HBZ.out⟩
                    · have HD := Lib.hid (HDN.out.trans (HGK.out.2 heq))
                      have hcm : ((strOf ag).toList == (strOf (bs.take al)).toList) = false := by
                        rw [strOf_beq (lt256 _ HM.out) (lt256 (bs.take al) (fun x hx => H256.out x (List.mem_of_mem_take hx)))]
                        rw [beq_eq_false_iff_ne]; exact heq
                      have hcm2 : (!((strOf ag).toList == (strOf (bs.take al)).toList)) = true := by rw [hcm]; rfl
                      have hcm3 : ((strOf ag).toList != (strOf (bs.take al)).toList) = true := hcm2
                      clear heq hrt
                      go_upto_region 15 with (fail)
                      go_quiet (fail)
                      all_goals
                        go_wp2_with fail
                        go_ret3
                        exact .inl ⟨HD.out, rfl, below_draws HB5.out _⟩

end Go.Proofs.Ytdelcaijehcaeaa
