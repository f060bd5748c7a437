/-
  Contracts of the reference: tell: by a dictionary.
  Contracts of the reference: tell: by a frame.
  Contracts of the reference: tell: where it answers none; tell whole; Tell.
  Contracts of the reference: Tell, best.
  Contracts of the reference: Zag, Reader.Num whatever its state.
  Contracts of the reference: value, of numbers.
-/
import Derived.Test.YtjcmekhamohbnaaTxad
namespace Go.Proofs.Ytjcmekhamohbnaa.Bc
set_option linter.unusedVariables false
set_option linter.unusedSimpArgs false
open Go.RowKit

theorem elmU64 : Elm Try.prog 62 57 1 8 := elm_of Try.underlying62 info_u64 rfl (by decide) (by decide)
theorem own_keptU {w w' : World} {base : Nat} {e : TypeId} {sz n : Nat} {v : Value} {xs : List Value} (h : w.ownsRow base e sz v n xs) (hb : Below w.heap.size w w') : w'.ownsRow base e sz v n xs :=
  h.kept (grown_of_below hb none) (by cases h : v.ownBlock with | none => exact .inl rfl | some g => exact .inr (by simp))
theorem place_less {ws : List By} (h : ws.Pairwise ltB) {x y : By} {k : Nat} (hx : x ∈ ws) (hk : k < placeT ws x) (hy : ws[k]? = some y) : y ≠ x := fun e => by
  have := place_inj h hy
  rw [e] at this
  omega

set_option maxRecDepth 100000 in
set_option maxHeartbeats 8000000 in
theorem rtell_4 (nums : Bool) (ps : Row) (lv : Value) (w : World) (hok : ∀ x ∈ xs ps, OkT nums x) (hl : ps.length ≤ 65535) (hr : Rd w lv (vs ps)) (he : Els w ps) :
    Calls Try.prog 24 #[.int .i64 4, lv, .bool nums] w fun e w' => RetTell w.heap.size (gTell nums 4 (xs ps)) e w' ∧ Below w.heap.size w w' := by
  obtain ⟨ao, cap, rfl⟩ := rd_shape1 hr
  obtain ⟨n, hn⟩ : ∃ n, n = ps.length := ⟨_, rfl⟩
  rw [len_vs, ← hn] at hr ⊢
  rw [← hn] at hl
  have HR := Lib.hid hr
  have HE := Lib.hid he
  have HN := Lib.hid hn
  have HOK := Lib.hid hok
  have HT := Lib.hid (show gTell nums 4 (xs ps) = some (4 :: gKind nums 4 (xs ps)) from by
    unfold gTell
    rw [if_neg (by rw [len_xs, ← hn]; simp; omega)]
    rfl)
  have h1 : decide ((n : Int) > 65535) = false := decide_eq_false (by omega)
  have h2 : ¬ ((n : Int) > 65535) := by omega
  obtain ⟨W1, hW1⟩ : ∃ W1 : World, W1 = w.alloc (.cells #[.int .u8 4] 5) := ⟨_, rfl⟩
  have HB1 := Lib.hid (show Below w.heap.size w W1 from by rw [hW1]; exact below_alloc w _)
  have HO1 := Lib.hid (show OwnB w.heap.size W1 (.slice (some ⟨w.heap.size, 0, none⟩) 1 1) [4] from by rw [hW1]; exact World.ownsRow_lit w #[.int .u8 4] 1 (Nat.le_refl _) (by unfold maxLen; omega) rfl)
  have HR1 := Lib.hid (hr.kept HB1.out)
  have HE1 := Lib.hid (he.kept HB1.out)
  have HW1 := Lib.hid hW1
  clear hr he hn hok hW1
  go_enter Try.func24, Try.ntmps24
  have HUN := Lib.hid (unlike_any ps (.slice ao n cap) W1 (by rw [← HN.out]; omega) (fun y hy => (HOK.out y hy).1) HR1.out HE1.out)
  have hszW : w.heap.size ≤ W1.heap.size := HB1.out.size
  go_wp2_with fail
  rw [← HW1.out]
  refine HUN.out.mono ?_
  rintro e w2 ⟨v2, rfl, pw, hown2, hsub2, hxs2, hb2⟩
  obtain ⟨wo, wcap, rfl⟩ := hown2.shape
  obtain ⟨kw, hkw⟩ : ∃ kw, kw = pw.length := ⟨_, rfl⟩
  rw [← hkw] at hown2 ⊢
  have hkwn : kw ≤ n := by rw [hkw, ← len_xs, hxs2, HN.out, ← len_xs ps]; exact wordsT_len _
  obtain ⟨W2, hW2⟩ : ∃ W2, W2 = w2 := ⟨_, rfl⟩
  rw [← hW2] at hown2 hb2 ⊢
  have HB2 := Lib.hid hb2
  have HW2 := Lib.hid hown2
  have HXS := Lib.hid hxs2
  have HKW := Lib.hid hkw
  have HKX := Lib.hid (show kw = (wordsT (xs ps)).length by rw [hkw, ← len_xs, hxs2])
  have HPS := Lib.hid (show ∀ p ∈ pw, p ∈ ps from hsub2)
  have HEW := Lib.hid (show Els W2 pw from fun p hp => (HE1.out.kept hb2) p (hsub2 p hp))
  have HRW := Lib.hid (show Rd W2 (.slice wo kw wcap) (vs pw) from hown2.rd)
  have HOW := Lib.hid (show ∀ x ∈ xs pw, OkT nums x from fun x hx => by
    rw [hxs2] at hx
    exact HOK.out x ((wordsT_mem _ x).1 hx))
  have hwk : IntKind.u64.wrap (kw : Int) = (kw : Int) := IntWalk.u64_in _ (by omega)
  have HNU := Lib.hid (refNum_any (.slice (some ⟨w.heap.size, 0, none⟩) 1 1) [4] kw W2 (Rd.kept (show Rd W1 _ _ from HO1.out.rd) HB2.out) (by decide) (by omega))
  clear hown2 hsub2 hxs2 hb2 hkw hW2
  go_wp2_with fail
  refine HNU.out.mono ?_
  rintro e w3 ⟨ao3, cap3, rfl, hown3, hb3⟩
  obtain ⟨W3, hW3⟩ : ∃ W3, W3 = w3 := ⟨_, rfl⟩
  rw [← hW3] at hown3 hb3 ⊢
  have HB3 := Lib.hid (show Below W1.heap.size W1 W3 from HB2.out.trans (hb3.mono HB2.out.size))
  have HB23 := Lib.hid hb3
  obtain ⟨v3, hv3⟩ : ∃ v3, v3 = Value.slice ao3 (List.map u8v ([4] ++ numC kw)).length cap3 := ⟨_, rfl⟩
  rw [← hv3] at hown3 ⊢
  have HO3 := Lib.hid (show OwnB w.heap.size W3 v3 ([4] ++ numC kw) from by
    rw [hv3] at hown3 ⊢
    exact own_mono (OwnB.of hown3) (Nat.le_trans hszW HB2.out.size))
  have hnl : (numC kw).length ≤ 10 := (numF_len 9 kw).1
  clear hown3 hb3 hW3 hv3
  go_wp2_with fail
  go_loopw [8, 19] (fun b i wr => ∃ q : Nat, q ≤ kw ∧ i = .int .i64 (q : Int) ∧ OwnB w.heap.size wr b ([4] ++ numC kw ++ gPlain nums ((xs pw).take q)) ∧ Below W3.heap.size W3 wr) (fun _ i _ => kw - (intOf i).toNat)
  case atStart => exact ⟨0, Nat.zero_le _, rfl, by have h := HO3.out; simpa [gPlain] using h, Below.refl _ _⟩
  case round =>
    obtain ⟨q, hq, rfl, hown, hbel⟩ := hrel
    obtain ⟨ab, cb, rfl⟩ := hown.shape
    have HO := Lib.hid hown
    have HBL := Lib.hid hbel
    obtain ⟨m, hm⟩ : ∃ m, m = List.length ([4] ++ numC kw ++ gPlain nums ((xs pw).take q)) := ⟨_, rfl⟩
    rw [← hm]
    have hml : m ≤ 6000000 := by
      rw [hm, List.length_append, List.length_append, List.length_singleton]
      have := gPlain_len (nums := nums) (l := (xs pw).take q) (fun x hx => HOW.out x (List.mem_of_mem_take hx))
      rw [List.length_take] at this
      omega
    have HMM := Lib.hid hm
    clear hown hbel hm
    by_cases hlt : q < kw
    · have hlti : (q : Int) < (kw : Int) := by omega
      have hq0 : (0 : Int) ≤ (q : Int) := by omega
      obtain ⟨va, vc, x, hat, hel⟩ := row_at HEW.out (q := q) (by rw [← HKW.out]; exact hlt)
      have HB2r := Lib.hid (show Below W2.heap.size W2 wr from HB23.out.trans (HBL.out.mono HB23.out.size))
      obtain ⟨b, off, rfl, hcell⟩ := (rdv_cells (HRW.out.kept HB2r.out)).2 (by omega)
      have hx : wr.cell? ⟨b, off + q, none⟩ = some (.slice va (List.length x) vc) := hcell q _ hat
      have HP := Lib.hid (told_any nums (.slice ab m cb) (.slice va (List.length x) vc) ([4] ++ numC kw ++ gPlain nums ((xs pw).take q)) x wr (by rw [HMM.out]; exact HO.out.rd) (hel.kept HB2r.out) (by rw [← HMM.out]; omega) (HOW.out x (List.mem_of_getElem? (xs_at hat))))
      have HZ := Lib.hid (take_xs hat)
      clear hcell hel hat
      go_wp2_with fail
      refine HP.out.mono ?_
      rintro e w4 ⟨v4, rfl, hown4, hb4⟩
      have HO4 := Lib.hid (show OwnB w.heap.size w4 v4 ([4] ++ numC kw ++ gPlain nums ((xs pw).take (q + 1))) by
        rw [HZ.out, gPlain_snoc, ← List.append_assoc]
        exact own_mono hown4 (Nat.le_trans hszW (Nat.le_trans HB2.out.size HB2r.out.size)))
      have HB4 := Lib.hid (below_then HBL.out hb4)
      clear hown4 hb4 hx
      go_wp2_with fail
      go_roundw
      case rel => exact ⟨q + 1, by omega, by go_num, HO4.out, HB4.out⟩
      case measure => simp [intOf]; omega
    · have hqn : q = kw := by omega
      subst hqn
      have hlti : ¬ (q : Int) < (q : Int) := by omega
      obtain ⟨W5, hW5⟩ : ∃ W5 : World, W5 = wr := ⟨_, rfl⟩
      rw [← hW5] at HO HBL ⊢
      have HB5 := Lib.hid (show Below W1.heap.size W1 W5 from HB3.out.trans (HBL.out.mono HB3.out.size))
      have HB25 := Lib.hid (show Below W2.heap.size W2 W5 from HB23.out.trans (HBL.out.mono HB23.out.size))
      have HTK := Lib.hid (show (xs pw).take q = wordsT (xs ps) from by rw [List.take_of_length_le (by rw [len_xs, ← HKW.out]; exact Nat.le_refl _), HXS.out])
      clear hW5
      go_wp2_with fail
      go_loopw [20, 21] (fun d i wr => ∃ p : Nat, p ≤ n ∧ i = .int .i64 (p : Int) ∧ wr.ownsRow W5.heap.size 57 1 d p ((((xs ps).take p).map (placeT (wordsT (xs ps)))).map u64v) ∧ Below W5.heap.size W5 wr) (fun _ i _ => n - (intOf i).toNat)
      case atStart => exact ⟨0, Nat.zero_le _, rfl, World.ownsRow_nil .., Below.refl _ _⟩
      case round =>
        obtain ⟨p, hp, rfl, hown, hbel⟩ := hrel
        obtain ⟨ad, cd, rfl⟩ := own_shape hown
        have HD := Lib.hid hown
        have HBD := Lib.hid hbel
        have HBW := Lib.hid (show Below W1.heap.size W1 wr from HB5.out.trans (hbel.mono HB5.out.size))
        have HBZ := Lib.hid (show Below W2.heap.size W2 wr from HB25.out.trans (hbel.mono HB25.out.size))
        clear hown hbel
        by_cases hlp : p < n
        · have hlpi : (p : Int) < (n : Int) := by omega
          have hp0 : (0 : Int) ≤ (p : Int) := by omega
          obtain ⟨xa, xc, x, hx, hxe⟩ := row_at HE1.out (q := p) (by rw [← HN.out]; exact hlp)
          obtain ⟨b, off, rfl, hcell⟩ := (rdv_cells (HR1.out.kept HBW.out)).2 (by omega)
          have hmem : x ∈ wordsT (xs ps) := (wordsT_mem _ x).2 (List.mem_of_getElem? (xs_at hx))
          have HMEM := Lib.hid hmem
          have hpt := placeT_lt (wordsT_up _) hmem
          obtain ⟨K, hK⟩ : ∃ K, K = placeT (wordsT (xs ps)) x := ⟨_, rfl⟩
          rw [← hK, ← HKX.out] at hpt
          have HK := Lib.hid hK
          have hcx0 : wr.cell? ⟨b, off + p, none⟩ = some (.slice xa (List.length x) xc) := hcell p _ hx
          have HCX := Lib.hid (show ∀ w', Below wr.heap.size wr w' → w'.cell? ⟨b, off + p, none⟩ = some (.slice xa (List.length x) xc) from fun w' h => ((h.cell (World.block_lt_of_cell? _ _ hcx0)).trans hcx0))
          have HXE := Lib.hid (hxe.kept HBW.out)
          have HX8 := Lib.hid (HOK.out x (List.mem_of_getElem? (xs_at hx))).1
          have HTX := Lib.hid (take_xs hx)
          clear hcell hxe hx hcx0 hK hmem
          go_wp2_with fail
          obtain ⟨W6, hW6⟩ : ∃ W6 : World, W6 = wr := ⟨_, rfl⟩
          rw [← hW6] at HD HBD HBW HBZ HCX HXE ⊢
          clear hW6
          go_loopw [22] (fun k wr => ∃ j : Nat, j ≤ K ∧ k = .int .i64 (j : Int) ∧ Below W6.heap.size W6 wr) (fun k _ => K - (intOf k).toNat)
          case atStart => exact ⟨0, Nat.zero_le _, rfl, Below.refl _ _⟩
          case round =>
            obtain ⟨j, hj, rfl, hbel⟩ := hrel
            have HBJ := Lib.hid hbel
            have HBR := Lib.hid (show Below W2.heap.size W2 wr from HBZ.out.trans (hbel.mono HBZ.out.size))
            have hcx := HCX.out wr hbel
            have hxw := HXE.out.kept hbel
            have h8x := HX8.out
            have hj0 : (0 : Int) ≤ (j : Int) := by omega
            obtain ⟨ya, yc, y, hy, hye⟩ := row_at HEW.out (q := j) (by rw [← HKW.out]; omega)
            obtain ⟨b1, off1, rfl, hc1⟩ := (rdv_cells (HRW.out.kept HBR.out)).2 (by omega)
            have hcy : wr.cell? ⟨b1, off1 + j, none⟩ = some (.slice ya (List.length y) yc) := hc1 j _ hy
            have h8y := (HOW.out y (List.mem_of_getElem? (xs_at hy))).1
            have hyw := hye.kept HBR.out
            have hcv := fun nq : Nat => run_str (P := Try.prog) (wr.drewN nq) 24 9 5 Try.underlying24 Try.underlying5 Try.underlying9 (hyw.kept (below_draws (Below.refl _ _) nq)) (lt256 _ h8y)
            have hcw := fun nq : Nat => run_str (P := Try.prog) (wr.drewN nq) 24 9 5 Try.underlying24 Try.underlying5 Try.underlying9 (hxw.kept (below_draws (Below.refl _ _) nq)) (lt256 _ h8x)
            have hyt : (wordsT (xs ps))[j]? = some y := by rw [← HXS.out]; exact xs_at hy
            have hji : (j : Int) < (q : Int) := by omega
            clear hbel hc1 hy hye
            by_cases hjk : j < K
            · have hne := place_less (wordsT_up _) HMEM.out (by rw [← HK.out]; exact hjk) hyt
              have hcm := strOf_inj h8y h8x hne
              have hcm2 : ((strOf y).toList != (strOf x).toList) = true := by unfold bne; rw [hcm]; rfl
              have hcm3 : (!((strOf y).toList == (strOf x).toList)) = true := hcm2
              clear hyw hxw h8x h8y hyt hne
              go_wp2_with fail
              go_quiet (fail)
              go_wp2_with fail
              go_roundw
              case rel => exact ⟨j + 1, by omega, by go_num, below_draws2 HBJ.out _⟩
              case measure => simp [intOf]; omega
            · have hjk2 : j = K := by omega
              have hyx : y = x := by
                have h := placeT_get (wordsT_up _) HMEM.out
                rw [← HK.out, ← hjk2, hyt] at h
                exact Option.some.inj h
              have hcm : ((strOf y).toList == (strOf x).toList) = true := by rw [hyx]; exact beq_self_eq_true _
              have hcm2 : ((strOf y).toList != (strOf x).toList) = false := by unfold bne; rw [hcm]; rfl
              have hcm3 : (!((strOf y).toList == (strOf x).toList)) = false := hcm2
              have hwj : IntKind.u64.wrap (j : Int) = (j : Int) := IntWalk.u64_in _ (by omega)
              have HJK := Lib.hid (show placeT (wordsT (xs ps)) x = j by rw [← HK.out, hjk2])
              clear hyw hxw h8x h8y hyt hyx hjk2
              go_upto_region 50 with (first | go_quiet (fail) | fail)
              have hb7 := below_draws2 HBJ.out nq
              obtain ⟨W7, hW7⟩ : ∃ W7 : World, W7 = wr.drewN nq := ⟨_, rfl⟩
              rw [← hW7] at hb7 ⊢
              have HB7 := Lib.hid hb7
              have hsz7 : W5.heap.size ≤ W7.heap.size := Nat.le_trans HBD.out.size hb7.size
              have HD7 := Lib.hid (show W7.ownsRow W5.heap.size 57 1 (.slice ad p cd) p ((((xs ps).take p).map (placeT (wordsT (xs ps)))).map u64v) from own_keptU HD.out hb7)
              clear hW7 hcx hcy hcv hcw hb7
              have HOA := Lib.hid (show (W7.alloc (.cells #[.int .u64 (j : Int)] 57)).ownsRow W5.heap.size 57 1 (.slice ad p cd) p ((((xs ps).take p).map (placeT (wordsT (xs ps)))).map u64v) from World.ownsRow.alloc HD7.out _)
              have HLT := Lib.hid (rdS_lit W7 #[.int .u64 (j : Int)] 57 1 rfl)
              have hszB : W5.heap.size ≤ (W7.alloc (.cells #[.int .u64 (j : Int)] 57)).heap.size := le_alloc0 hsz7 _
              have HONE := Lib.hid (ones_one (.int .u64 (j : Int)) rfl)
              go_wp2_with (at_builtin; go_must (refine wpList_append_k elmU64 rfl _ _ rfl W5.heap.size _ _ _ rfl HOA.out _ [[.int .u64 (j : Int)]] rfl HLT.out HONE.out (by simp <;> omega) hszB (p + 1) rfl ?_); intro ao9 cap9 w9 hown9 hgrow9 hnew9; have HO9 := Lib.hid hown9; have HG9 := Lib.hid hgrow9; clear hown9 hgrow9 hnew9)
              go_roundw
              case rel =>
                refine ⟨p + 1, by omega, by go_num, ?_, ?_⟩
                · rw [HTX.out, List.map_append, List.map_append, List.map_singleton, HJK.out]
                  have h := HO9.out
                  exact h
                · exact below_ownB ((HBD.out.trans (HB7.out.mono HBD.out.size)).trans ((below_alloc W7 _).mono hsz7)) hszB HG9.out (own_base HOA.out)
              case measure => simp [intOf]; omega
        · have hpn : p = n := by omega
          subst hpn
          have hlpi : ¬ (p : Int) < (p : Int) := by omega
          obtain ⟨us, hus⟩ : ∃ us, us = (xs ps).map (placeT (wordsT (xs ps))) := ⟨_, rfl⟩
          have HUR := Lib.hid (show Rd wr (.slice ad p cd) (us.map u64v) from by
            have h := HD.out
            rw [List.take_of_length_le (by rw [len_xs, ← HN.out]; exact Nat.le_refl _), ← hus] at h
            exact Rd.of_owns h)
          have hul : us.length = p := by rw [hus, List.length_map, len_xs, HN.out]
          have H64 := Lib.hid (show ∀ z ∈ us, z < 18446744073709551616 from fun z hz => by
            rw [hus] at hz
            obtain ⟨x, hx, rfl⟩ := List.mem_map.1 hz
            have h1 := placeT_lt (wordsT_up (xs ps)) ((wordsT_mem _ x).2 hx)
            rw [← HKX.out] at h1
            omega)
          obtain ⟨M, hM⟩ : ∃ M : Nat, M = q - 1 := ⟨_, rfl⟩
          have hmx : (if (0 : Int) > (q : Int) - 1 then (0 : Int) else (q : Int) - 1) = (M : Int) := by split <;> omega
          have hmx2 : max ((q : Int) - 1) 0 = (M : Int) := by omega
          have hw1 : IntKind.i64.wrap ((q : Int) - 1) = (q : Int) - 1 := IntWalk.i64_in _ (by omega)
          have hw2 : IntKind.u64.wrap (M : Int) = (M : Int) := IntWalk.u64_in _ (by omega)
          have HPW := Lib.hid (fun w' => refWidth_any M w' (by omega))
          have hbl := (bitLen_le M (by omega)).1
          obtain ⟨wd, hwd⟩ : ∃ wd, wd = Lib.bitLen M := ⟨_, rfl⟩
          rw [← hwd] at hbl HPW
          have HWD := Lib.hid hwd
          have HPA := Lib.hid (fun w' (h : Below wr.heap.size wr w') => refPack_any (.slice ad p cd) us (wd : Int) w' (HUR.out.kept h) H64.out (by omega))
          have hhe : heldN (wd : Int) = wd := heldN_id wd hbl
          rw [hhe] at HPA
          have hpkl := packB_length wd us
          have hpk2 : wd * us.length ≤ 64 * 65535 := Nat.mul_le_mul hbl (by omega)
          obtain ⟨kq, hkq⟩ : ∃ kq, kq = (packB wd us).length := ⟨_, rfl⟩
          have hkql : kq ≤ 600000 := by rw [hkq, hpkl]; omega
          have HKQ := Lib.hid hkq
          have HUS := Lib.hid hus
          have HMQ := Lib.hid hM
          have HOB := Lib.hid (own_keptB HO.out HBD.out)
          rw [← HMM.out] at HOB
          clear hus hwd hhe hpkl hpk2 hkq HUR hul
          go_wp2_with fail
          rw [← HMQ.out]
          refine (HPW.out _).mono ?_
          rintro e w9 ⟨rfl, rfl⟩
          go_wp2_with fail
          refine (HPA.out _ (Below.refl _ _)).mono ?_
          rintro e w10 ⟨ao10, cap10, rfl, hown10, hb10⟩
          have HB10 := Lib.hid (below_then HBD.out hb10)
          have HR10 := Lib.hid (rdS_flat (show Rd w10 (.slice ao10 kq cap10) ((packB wd us).map u8v) from by have := Rd.of_owns hown10; rw [List.length_map, ← HKQ.out] at this; exact this))
          rw [List.length_map, ← HKQ.out]
          have HO10 := Lib.hid (show w10.ownsRow w.heap.size 5 1 (.slice ab m cb) m (([4] ++ numC q ++ gPlain nums ((xs pw).take q)).map u8v) from by have h := own_keptB HOB.out hb10; have h2 : OwnB w.heap.size w10 (.slice ab m cb) ([4] ++ numC q ++ gPlain nums ((xs pw).take q)) := h; unfold OwnB at h2; rw [← HMM.out] at h2; exact h2)
          have HON := Lib.hid (ones_flat (ones_u8 (packB wd us)))
          have hsz10 : w.heap.size ≤ w10.heap.size := Nat.le_trans hszW (Nat.le_trans HB5.out.size HB10.out.size)
          clear hown10 hb10 HPA HOB
          go_wp2_with (at_builtin; go_must (refine wpList_append_k elmU8 rfl _ _ rfl w.heap.size _ _ _ rfl HO10.out _ (((packB wd us).map u8v).map fun u => [u]) rfl HR10.out HON.out (by simp; have := HKQ.out; omega) hsz10 (m + kq) (by have := HKQ.out; simp; omega) ?_); intro ao11 cap11 w11 hown11 hgrow11 hnew11; have HO11 := Lib.hid hown11; have HG11 := Lib.hid hgrow11; clear hown11 hgrow11 hnew11)
          go_ret2
          have hbw10 : Below w.heap.size w w10 := HB1.out.trans ((HB5.out.trans (HB10.out.mono HB5.out.size)).mono HB1.out.size)
          refine ⟨?_, below_ownB hbw10 hbw10.size (show w10.grownBy w11 (Value.slice ab m cb).ownBlock from HG11.out) (own_base HO10.out)⟩
          rw [HT.out]
          refine ⟨_, rfl, ?_⟩
          have h := HO11.out
          rw [flat_ones, ← List.map_append] at h
          have h2 := OwnB.of h
          have e : 4 :: gKind nums 4 (xs ps) = [4] ++ numC q ++ gPlain nums ((xs pw).take q) ++ packB wd us := by
            rw [HTK.out, HWD.out, HMQ.out, HUS.out]
            show 4 :: gDict nums (xs ps) = _
            unfold gDict
            rw [← HKX.out]
            simp only [List.append_assoc, List.singleton_append, List.cons_append, List.nil_append]
          rw [e]
          exact h2


end Go.Proofs.Ytjcmekhamohbnaa.Bc

namespace Go.Proofs.Ytjcmekhamohbnaa.Bc
set_option linter.unusedVariables false
set_option linter.unusedSimpArgs false
open Go.RowKit

theorem okT_num {l : List By} (h : ∀ x ∈ l, OkT true x) : l = TX (l.map num64) ∧ ∀ n ∈ l.map num64, I64 n := by
  induction l with
  | nil => exact ⟨rfl, fun n hn => by simp at hn⟩
  | cons x r ih =>
    obtain ⟨h1, h2⟩ := ih fun y hy => h y (List.mem_cons_of_mem _ hy)
    obtain ⟨z, hz, rfl⟩ := (h x List.mem_cons_self).2.2 rfl
    refine ⟨?_, fun n hn => ?_⟩
    · show _ = textT (num64 (textT z)) :: TX (r.map num64)
      rw [num64_text hz, ← h1]
    · rcases List.mem_cons.1 hn with rfl | hn
      · rw [num64_text hz]; exact hz
      · exact h2 n hn
theorem lo_fold {l : List Int} {z : Int} (h : l[0]? = some z) : l.foldl min z = loT l := by
  cases l with
  | nil => simp at h
  | cons a r => obtain rfl : a = z := by simpa using h
                show r.foldl min (min a a) = r.foldl min a
                rw [Int.min_self]
theorem hi_fold {l : List Int} {z : Int} (h : l[0]? = some z) : l.foldl max z = hiT l := by
  cases l with
  | nil => simp at h
  | cons a r => obtain rfl : a = z := by simpa using h
                show r.foldl max (max a a) = r.foldl max a
                rw [Int.max_self]

set_option maxRecDepth 100000 in
set_option maxHeartbeats 8000000 in
theorem rtell_3 (ps : Row) (lv : Value) (w : World) (hok : ∀ x ∈ xs ps, OkT true x) (hl : ps.length ≤ 65535) (hr : Rd w lv (vs ps)) (he : Els w ps) :
    Calls Try.prog 24 #[.int .i64 3, lv, .bool true] w fun e w' => RetTell w.heap.size (gTell true 3 (xs ps)) e w' ∧ Below w.heap.size w w' := by
  obtain ⟨ao, cap, rfl⟩ := rd_shape1 hr
  obtain ⟨n, hn⟩ : ∃ n, n = ps.length := ⟨_, rfl⟩
  rw [len_vs, ← hn] at hr ⊢
  rw [← hn] at hl
  have HR := Lib.hid hr
  have HE := Lib.hid he
  have HN := Lib.hid hn
  have HOK := Lib.hid hok
  have HT := Lib.hid (show gTell true 3 (xs ps) = some (3 :: gKind true 3 (xs ps)) from by
    unfold gTell
    rw [if_neg (by rw [len_xs, ← hn]; simp; omega)]
    rfl)
  have h1 : decide ((n : Int) > 65535) = false := decide_eq_false (by omega)
  have h2 : ¬ ((n : Int) > 65535) := by omega
  obtain ⟨W1, hW1⟩ : ∃ W1 : World, W1 = w.alloc (.cells #[.int .u8 3] 5) := ⟨_, rfl⟩
  have HB1 := Lib.hid (show Below w.heap.size w W1 from by rw [hW1]; exact below_alloc w _)
  have HO1 := Lib.hid (show OwnB w.heap.size W1 (.slice (some ⟨w.heap.size, 0, none⟩) 1 1) [3] from by rw [hW1]; exact World.ownsRow_lit w #[.int .u8 3] 1 (Nat.le_refl _) (by unfold maxLen; omega) rfl)
  have HR1 := Lib.hid (hr.kept HB1.out)
  have HE1 := Lib.hid (he.kept HB1.out)
  have HW1 := Lib.hid hW1
  clear hr he hn hok hW1
  obtain ⟨l, hl0⟩ : ∃ l, l = (xs ps).map num64 := ⟨_, rfl⟩
  obtain ⟨hx1, hx2⟩ := okT_num HOK.out
  rw [← hl0] at hx1 hx2
  have HX := Lib.hid hx1
  have HI := Lib.hid hx2
  have HL := Lib.hid hl0
  have HNL := Lib.hid (show l.length = n by rw [hl0, List.length_map, len_xs, HN.out])
  have HZC := Lib.hid (show ∀ q, q < n → ∃ va X vc z, l[q]? = some z ∧ I64 z ∧ (∀ w', Below W1.heap.size W1 w' → Calls Try.prog 46 #[.slice va X vc] w' (fun e w'' => e = .returned (.int .i64 z) ∧ w' = w'')) ∧ ∃ x, ps[q]? = some (.slice va X vc, x) from fun q hq => by
    obtain ⟨va, vc, x, hat, hel⟩ := row_at HE1.out (q := q) (by rw [← HN.out]; exact hq)
    obtain ⟨z, hz⟩ : ∃ z, l[q]? = some z := ⟨_, List.getElem?_eq_getElem (by rw [HNL.out]; exact hq)⟩
    have hxt : x = textT z := by
      have h := xs_at hat
      rw [hx1] at h
      unfold TX at h
      rw [List.getElem?_map, hz] at h
      exact (Option.some.inj h).symm
    have hz64 := hx2 z (List.mem_of_getElem? hz)
    exact ⟨va, _, vc, z, hz, hz64, fun w' h => number64_any z _ w' hz64 (by rw [← hxt]; exact hel.kept h), x, hat⟩)
  have hszW : w.heap.size ≤ W1.heap.size := HB1.out.size
  clear hx1 hx2 hl0
  by_cases h0 : n = 0
  · have HE3 := Lib.hid (show gKind true 3 (xs ps) = [] from by
      show frameT ((xs ps).map num64) = []
      rw [← HL.out]
      unfold frameT
      rw [if_pos (by rw [HNL.out]; exact h0)])
    subst h0
    go_enter Try.func24, Try.ntmps24
    go_wp2_with fail
    go_ret2
    rw [← HW1.out, HT.out, HE3.out]
    exact ⟨⟨_, rfl, HO1.out⟩, HB1.out⟩
  · have hnp : 0 < n := by omega
    have hnb : ((n : Int) == 0) = false := by rw [beq_eq_false_iff_ne]; omega
    have hnb2 : ¬ ((n : Int) = 0) := by omega
    have hnpi : (0 : Int) < (n : Int) := by omega
    have hlp : 0 < l.length := by rw [HNL.out]; exact hnp
    obtain ⟨g1, g2, g3⟩ := lo_hi hlp
    have HLH := Lib.hid g1
    have hIlo := HI.out _ g2
    have hIhi := HI.out _ g3
    have hlh := (g1 _ g3).1
    have hus := usub (hiT l) (loT l) hIhi hIlo hlh
    have hdl : ((hiT l - loT l).toNat) < 18446744073709551616 := by unfold I64 at hIlo hIhi; omega
    have hw64 := (bitLen_le _ hdl).1
    have HFT := Lib.hid (show frameT l = Go.Proofs.Ytjcmekhamohbnaa.putT (loT l) ++ [widT l] ++ packB (widT l) (diffT l) by unfold frameT; rw [if_neg (by omega)])
    have HLEND := Lib.hid (show (diffT l).length = n by rw [diffT, List.length_map, HNL.out])
    have HD64 := Lib.hid (show ∀ x ∈ diffT l, x < 18446744073709551616 from fun x hx => by
      obtain ⟨m, hm, rfl⟩ := List.mem_map.1 hx
      have h1 := HLH.out m hm
      have h2 := HI.out m hm
      show (m - loT l).toNat < _
      omega)
    have HUS := Lib.hid (show ∀ m ∈ l, IntKind.u64.wrap (IntKind.u64.wrap m - IntKind.u64.wrap (loT l)) = (((m - loT l).toNat : Nat) : Int) from fun m hm => usub m (loT l) (HI.out m hm) hIlo (HLH.out m hm).1)
    have HDT := Lib.hid (show diffT l = l.map fun m => (m - loT l).toNat from rfl)
    obtain ⟨lo, hlo⟩ : ∃ lo, lo = loT l := ⟨_, rfl⟩
    obtain ⟨hi, hhi⟩ : ∃ hi, hi = hiT l := ⟨_, rfl⟩
    obtain ⟨D, hD⟩ : ∃ D, D = (hiT l - loT l).toNat := ⟨_, rfl⟩
    obtain ⟨wd, hwd⟩ : ∃ wd, wd = widT l := ⟨_, rfl⟩
    have hwd2 : Lib.bitLen D = wd := by rw [hwd, hD]; rfl
    rw [← hD] at hdl hw64 hus
    rw [hwd2] at hw64
    rw [← hlo, ← hhi] at hus
    rw [← hlo] at hIlo HUS HDT
    rw [← hlo, ← hwd] at HFT
    have HWI := Lib.hid (show ∀ w', Calls Try.prog 47 #[.int .u64 (D : Int)] w' fun e w'' => e = .returned (.int .i64 (wd : Nat)) ∧ w' = w'' from fun w' => by rw [← hwd2]; exact refWidth_any D w' hdl)
    have HLO := Lib.hid hlo
    have HHI := Lib.hid hhi
    obtain ⟨va0, X0, vc0, z0, hz0, _, hc0, x0, hat0⟩ := HZC.out 0 hnp
    obtain ⟨b, off, rfl, hcell⟩ := (rdv_cells HR1.out).2 (by omega)
    have hcx : W1.cell? ⟨b, off, none⟩ = some (.slice va0 X0 vc0) := by have h := hcell 0 _ hat0; rw [Nat.add_zero] at h; exact h
    have HC0 := Lib.hid hc0
    have HZ0 := Lib.hid hz0
    have HCELL := Lib.hid hcell
    have HLF := Lib.hid (lo_fold hz0)
    have HHF := Lib.hid (hi_fold hz0)
    rw [← hlo] at HLF
    rw [← hhi] at HHF
    clear g1 g2 g3 hIhi hlh hlo hhi hD hwd hwd2 HLH hlp hc0 hz0 hcell hat0
    go_enter Try.func24, Try.ntmps24
    go_upto_region 24 with (fail)
    rw [← HW1.out]
    have HKP := Lib.hid fun w' (h : Below W1.heap.size W1 w') => (show w'.cell? ⟨b, off, none⟩ = some (.slice va0 X0 vc0) ∧ Below W1.heap.size W1 w' from ⟨(h.cell (World.block_lt_of_cell? _ _ hcx)).trans hcx, h⟩)
    have hS := Below.refl W1.heap.size W1
    go_cut [12, 13] (fun v1 v2 wx => v1 = .int .i64 z0 ∧ v2 = .int .i64 z0 ∧ Below W1.heap.size W1 wx)
    case first =>
      set_option maxRecDepth 1000000 in
      go_region_held3 (fun w' => w'.cell? ⟨b, off, none⟩ = some (.slice va0 X0 vc0) ∧ Below W1.heap.size W1 w') (first | assumption | exact HKP.out _ (by first | assumption | exact Below.trans (by assumption) (below_drw _ _)))
        (first
          | (go_at_call 46; refine (HC0.out _ (by first | assumption | exact Below.trans (by assumption) (below_drw _ _))).mono ?_; rintro e w4 ⟨rfl, rfl⟩))
      all_goals
        go_wp2_with fail
        go_meet
        exact ⟨rfl, rfl, by first | assumption | exact Below.trans (by assumption) (below_drw _ _)⟩
    case rest =>
      obtain ⟨rfl, rfl, hbc⟩ := hcut
      obtain ⟨W2, hW2⟩ : ∃ W2 : World, W2 = wc := ⟨_, rfl⟩
      rw [← hW2] at hbc ⊢
      have HB2 := Lib.hid hbc
      clear hW2 hbc hcx HC0 HKP hS
      go_wp2_with fail
      go_loopw [12, 13, 14] (fun v1 v2 i wr => ∃ (q : Nat) (lq hq' : Int), q ≤ n ∧ i = .int .i64 (q : Int) ∧ v1 = .int .i64 lq ∧ v2 = .int .i64 hq' ∧ lq = (l.take q).foldl min z0 ∧ hq' = (l.take q).foldl max z0 ∧ Below W1.heap.size W1 wr) (fun _ _ i _ => n - (intOf i).toNat)
      case atStart => exact ⟨0, z0, z0, Nat.zero_le _, rfl, rfl, rfl, rfl, rfl, HB2.out⟩
      case round =>
        obtain ⟨q, lq, hq', hq, rfl, rfl, rfl, hlq, hhq, hbel⟩ := hrel
        have HLQ := Lib.hid hlq
        have HHQ := Lib.hid hhq
        have HBL := Lib.hid hbel
        clear hlq hhq hbel
        by_cases hlt : q < n
        · have hlti : (q : Int) < (n : Int) := by omega
          have hq0 : (0 : Int) ≤ (q : Int) := by omega
          obtain ⟨va, X, vc, z, hz, hzI, hc, x, hat⟩ := HZC.out q hlt
          have hcx : wr.cell? ⟨b, off + q, none⟩ = some (.slice va X vc) := (HBL.out.cell (World.block_lt_of_cell? _ _ (HCELL.out q _ hat))).trans (HCELL.out q _ hat)
          have HC := Lib.hid hc
          have HG := Lib.hid (show l.getD q 0 = z from by rw [List.getD_eq_getElem?_getD, hz]; rfl)
          have hszr := HBL.out.size
          clear hz hc hat
          go_upto_region 28 with (fail)
          have HKP := Lib.hid fun w' (h : Below wr.heap.size wr w') => (show w'.cell? ⟨b, off + q, none⟩ = some (.slice va X vc) ∧ Below wr.heap.size wr w' from ⟨(h.cell (World.block_lt_of_cell? _ _ hcx)).trans hcx, h⟩)
          have hS := Below.refl wr.heap.size wr
          have HC2 := Lib.hid fun w' (h : Below wr.heap.size wr w') => HC.out w' (HBL.out.trans (h.mono hszr))
          set_option maxRecDepth 1000000 in
          go_region_held3 (fun w' => w'.cell? ⟨b, off + q, none⟩ = some (.slice va X vc) ∧ Below wr.heap.size wr w') (first | assumption | exact HKP.out _ (by first | assumption | exact Below.trans (by assumption) (below_drw _ _)))
            (first
              | (go_at_call 46; refine (HC2.out _ (by first | assumption | exact Below.trans (by assumption) (below_drw _ _))).mono ?_; rintro e w4 ⟨rfl, rfl⟩))
          all_goals
            go_wp2_with fail
            go_roundw
            case rel => exact ⟨q + 1, _, _, by omega, by go_num, rfl, rfl, by (rw [foldl_take_int min l z0 q (by rw [HNL.out]; exact hlt), ← HLQ.out, HG.out]) <;> first | rfl | omega | (split <;> omega), by (rw [foldl_take_int max l z0 q (by rw [HNL.out]; exact hlt), ← HHQ.out, HG.out]) <;> first | rfl | omega | (split <;> omega), HBL.out.trans ((by first | assumption | exact Below.trans (by assumption) (below_drw _ _) : Below wr.heap.size wr _).mono hszr)⟩
            case measure => simp [intOf]; omega
        · have hqn : q = n := by omega
          subst hqn
          have hlti : ¬ (q : Int) < (q : Int) := by omega
          have hll : lq = lo := by
            have h := HLQ.out
            rw [List.take_of_length_le (by rw [HNL.out]; exact Nat.le_refl _), HLF.out] at h
            exact h
          have hhh : hq' = hi := by
            have h := HHQ.out
            rw [List.take_of_length_le (by rw [HNL.out]; exact Nat.le_refl _), HHF.out] at h
            exact h
          clear HLQ HHQ
          subst hll hhh
          obtain ⟨W5, hW5⟩ : ∃ W5 : World, W5 = wr := ⟨_, rfl⟩
          rw [← hW5] at HBL ⊢
          clear hW5
          go_wp2_with fail
          go_loopw [15, 16] (fun d i wr => ∃ p : Nat, p ≤ q ∧ i = .int .i64 (p : Int) ∧ wr.ownsRow W5.heap.size 57 1 d p (((l.take p).map fun m => (m - lq).toNat).map u64v) ∧ Below W5.heap.size W5 wr) (fun _ i _ => q - (intOf i).toNat)
          case atStart => exact ⟨0, Nat.zero_le _, rfl, World.ownsRow_nil .., Below.refl _ _⟩
          case round =>
            obtain ⟨p, hp, rfl, hown, hbel⟩ := hrel
            obtain ⟨ad, cd, rfl⟩ := own_shape hown
            have HD := Lib.hid hown
            have HBD := Lib.hid hbel
            have HBW := Lib.hid (show Below W1.heap.size W1 wr from HBL.out.trans (hbel.mono HBL.out.size))
            clear hown hbel
            by_cases hlp : p < q
            · have hlpi : (p : Int) < (q : Int) := by omega
              have hp0 : (0 : Int) ≤ (p : Int) := by omega
              obtain ⟨va, X, vc, z, hz, hzI, hc, x, hat⟩ := HZC.out p hlp
              have hcx : wr.cell? ⟨b, off + p, none⟩ = some (.slice va X vc) := (HBW.out.cell (World.block_lt_of_cell? _ _ (HCELL.out p _ hat))).trans (HCELL.out p _ hat)
              have HC := Lib.hid (hc wr HBW.out)
              have HTX := Lib.hid (show l.take (p + 1) = l.take p ++ [z] from by rw [List.take_add_one, hz]; rfl)
              have hup := HUS.out z (List.mem_of_getElem? hz)
              obtain ⟨T, hT⟩ : ∃ T : Nat, T = (z - lq).toNat := ⟨_, rfl⟩
              rw [← hT] at hup
              have HTT := Lib.hid hT
              have hsz7 : W5.heap.size ≤ wr.heap.size := HBD.out.size
              have HOA := Lib.hid (show (wr.alloc (.cells #[.int .u64 (T : Int)] 57)).ownsRow W5.heap.size 57 1 (.slice ad p cd) p (((l.take p).map fun m => (m - lq).toNat).map u64v) from World.ownsRow.alloc HD.out _)
              have HLT := Lib.hid (rdS_lit wr #[.int .u64 (T : Int)] 57 1 rfl)
              have hszB : W5.heap.size ≤ (wr.alloc (.cells #[.int .u64 (T : Int)] 57)).heap.size := le_alloc0 hsz7 _
              have HONE := Lib.hid (ones_one (.int .u64 (T : Int)) rfl)
              clear hz hc hat hT
              go_wp2_with fail
              refine HC.out.mono ?_
              rintro e w4 ⟨rfl, rfl⟩
              go_wp2_with (at_builtin; go_must (refine wpList_append_k elmU64 rfl _ _ rfl W5.heap.size _ _ _ rfl HOA.out _ [[.int .u64 (T : Int)]] rfl HLT.out HONE.out (by simp <;> omega) hszB (p + 1) rfl ?_); intro ao9 cap9 w9 hown9 hgrow9 hnew9; have HO9 := Lib.hid hown9; have HG9 := Lib.hid hgrow9; clear hown9 hgrow9 hnew9)
              go_roundw
              case rel =>
                refine ⟨p + 1, by omega, by go_num, ?_, ?_⟩
                · rw [HTX.out, List.map_append, List.map_append, List.map_singleton, ← HTT.out]
                  have h := HO9.out
                  exact h
                · exact below_ownB (HBD.out.trans ((below_alloc wr _).mono hsz7)) hszB HG9.out (own_base HOA.out)
              case measure => simp [intOf]; omega
            · have hpn : p = q := by omega
              subst hpn
              have hlpi : ¬ (p : Int) < (p : Int) := by omega
              have HUR := Lib.hid (show Rd wr (.slice ad p cd) ((diffT l).map u64v) from by
                have h := HD.out
                rw [List.take_of_length_le (by rw [HNL.out]; exact Nat.le_refl _), ← HDT.out] at h
                exact Rd.of_owns h)
              have HPA := Lib.hid (fun w' (h : Below wr.heap.size wr w') => refPack_any (.slice ad p cd) (diffT l) (wd : Int) w' (HUR.out.kept h) HD64.out (by rw [HLEND.out]; exact hl))
              have hhe : heldN (wd : Int) = wd := heldN_id wd hw64
              rw [hhe] at HPA
              have hpkl := packB_length wd (diffT l)
              have hpk2 : wd * (diffT l).length ≤ 64 * 65535 := Nat.mul_le_mul hw64 (by rw [HLEND.out]; exact hl)
              obtain ⟨kp, hkp⟩ : ∃ kp, kp = (packB wd (diffT l)).length := ⟨_, rfl⟩
              have hkpl : kp ≤ 600000 := by rw [hkp, hpkl]; omega
              have HKP2 := Lib.hid hkp
              have HZI := Lib.hid (fun w' => refzig_any lq w' hIlo)
              have hw8 : IntKind.u8.wrap (wd : Int) = (wd : Int) := IntWalk.u8_in _ (by omega)
              have HR0 := Lib.hid (show Rd wr (.slice (some ⟨w.heap.size, 0, none⟩) 1 1) ([3].map u8v) from Rd.kept (show Rd W1 _ _ from HO1.out.rd) HBW.out)
              have HNU := Lib.hid (show Calls Try.prog 45 #[.slice (some ⟨w.heap.size, 0, none⟩) 1 1, .int .u64 (zigN lq : Nat)] wr _ from refNum_any _ [3] (zigN lq) wr HR0.out (by decide) (zigN_lt hIlo))
              obtain ⟨k3, hk3⟩ : ∃ k3, k3 = (([3] ++ numC (zigN lq)).map u8v).length := ⟨_, rfl⟩
              have hk3l : k3 ≤ 12 := by rw [hk3, List.length_map, List.length_append]; have h9 : (numC (zigN lq)).length ≤ 10 := (numF_len 9 (zigN lq)).1; simp only [List.length_singleton]; omega
              have HK3 := Lib.hid hk3
              clear hhe hpkl hpk2 hkp hk3
              go_wp2_with fail
              refine (HWI.out _).mono ?_
              rintro e w9 ⟨rfl, rfl⟩
              go_wp2_with fail
              refine (HZI.out _).mono ?_
              rintro e w9 ⟨rfl, rfl⟩
              go_wp2_with fail
              refine HNU.out.mono ?_
              rintro e w3 ⟨ao3, cap3, rfl, hown3, hb3⟩
              rw [← HK3.out] at hown3 ⊢
              have HB3 := Lib.hid (show Below W1.heap.size W1 w3 from HBW.out.trans (hb3.mono HBW.out.size))
              have HUB := Lib.hid hb3
              have HO3 := Lib.hid (show w3.ownsRow W1.heap.size 5 1 (.slice ao3 k3 cap3) k3 (([3] ++ numC (zigN lq)).map u8v) from own_mono hown3 HBW.out.size)
              have HN3 := Lib.hid (show ∀ g, (Value.slice ao3 k3 cap3).ownBlock = some g → wr.heap.size ≤ g from own_base hown3)
              have HOA := Lib.hid (World.ownsRow.alloc HO3.out (.cells #[.int .u8 (wd : Int)] 5))
              have HLT := Lib.hid (rdS_lit w3 #[.int .u8 (wd : Int)] 5 1 rfl)
              have hszB : W1.heap.size ≤ (w3.alloc (.cells #[.int .u8 (wd : Int)] 5)).heap.size := le_alloc0 HB3.out.size _
              have HONE := Lib.hid (ones_one (.int .u8 (wd : Int)) rfl)
              clear hown3 hb3 HNU HZI HWI
              go_wp2_with (at_builtin; go_must (refine wpList_append_k elmU8 rfl _ _ rfl W1.heap.size _ _ _ rfl HOA.out _ [[Value.int .u8 (wd : Int)]] rfl HLT.out HONE.out (by simp <;> omega) hszB (k3 + 1) rfl ?_); intro ao9 cap9 w9 hown9 hgrow9 hnew9; have HO9 := Lib.hid hown9; have HG9 := Lib.hid hgrow9; clear hown9 hgrow9 hnew9)
              have hg39 : w3.grownBy w9 (Value.slice ao3 k3 cap3).ownBlock := grown_trans (grownBy_any (World.grownBy_alloc w3 _ none)) HG9.out
              have HB9 := Lib.hid (below_ownB HB3.out HB3.out.size hg39 (own_base HO3.out))
              have HBU := Lib.hid (show Below wr.heap.size wr w9 from below_ownB HUB.out HUB.out.size hg39 HN3.out)
              clear hg39 HO3 HOA HLT HONE HG9
              go_wp2_with fail
              refine (HPA.out _ HBU.out).mono ?_
              rintro e w10 ⟨ao10, cap10, rfl, hown10, hb10⟩
              have HB10 := Lib.hid (HB9.out.trans (hb10.mono HB9.out.size))
              have HR10 := Lib.hid (rdS_flat (show Rd w10 (.slice ao10 kp cap10) ((packB wd (diffT l)).map u8v) from by have := Rd.of_owns hown10; rw [List.length_map, ← HKP2.out] at this; exact this))
              rw [List.length_map, ← HKP2.out]
              have HO10 := Lib.hid (show w10.ownsRow W1.heap.size 5 1 (.slice ao9 (k3 + 1) cap9) (k3 + 1) (([3] ++ numC (zigN lq) ++ [wd]).map u8v) from by
                have h := own_keptU HO9.out hb10
                rw [List.map_append]
                exact h)
              have HON := Lib.hid (ones_flat (ones_u8 (packB wd (diffT l))))
              have hsz10 := HB10.out.size
              clear hown10 hb10 HPA HO9
              go_wp2_with (at_builtin; go_must (refine wpList_append_k elmU8 rfl _ _ rfl W1.heap.size _ _ _ rfl HO10.out _ (((packB wd (diffT l)).map u8v).map fun u => [u]) rfl HR10.out HON.out (by simp; have := HKP2.out; omega) hsz10 (k3 + 1 + kp) (by have := HKP2.out; simp; omega) ?_); intro ao11 cap11 w11 hown11 hgrow11 hnew11; have HO11 := Lib.hid hown11; have HG11 := Lib.hid hgrow11; clear hown11 hgrow11 hnew11)
              go_ret2
              refine ⟨?_, HB1.out.trans ((below_ownB HB10.out hsz10 (show w10.grownBy w11 (Value.slice ao9 (k3 + 1) cap9).ownBlock from HG11.out) (own_base HO10.out)).mono HB1.out.size)⟩
              rw [HT.out]
              refine ⟨_, rfl, ?_⟩
              have h := HO11.out
              rw [flat_ones, ← List.map_append] at h
              have h2 := OwnB.of (own_mono h hszW)
              have e : 3 :: gKind true 3 (xs ps) = [3] ++ numC (zigN lq) ++ [wd] ++ packB wd (diffT l) := by
                show 3 :: frameT ((xs ps).map num64) = _
                rw [← HL.out, HFT.out]
                show 3 :: (numC (zigN lq) ++ [wd] ++ packB wd (diffT l)) = _
                simp only [List.append_assoc, List.singleton_append, List.cons_append, List.nil_append]
              rw [e]
              exact h2


end Go.Proofs.Ytjcmekhamohbnaa.Bc

namespace Go.Proofs.Ytjcmekhamohbnaa.Bc
set_option linter.unusedVariables false
set_option linter.unusedSimpArgs false
open Go.RowKit

set_option maxRecDepth 100000 in
set_option maxHeartbeats 8000000 in
theorem rtell_long (nums : Bool) (k : Int) (ps : Row) (lv : Value) (w : World) (hl : 65535 < ps.length) (hr : Rd w lv (vs ps)) :
    Calls Try.prog 24 #[.int .i64 k, lv, .bool nums] w fun e w' => RetTell w.heap.size none e w' ∧ Below w.heap.size w w' := by
  obtain ⟨ao, cap, rfl⟩ := rd_shape1 hr
  obtain ⟨n, hn⟩ : ∃ n, n = ps.length := ⟨_, rfl⟩
  rw [len_vs, ← hn] at hr ⊢
  rw [← hn] at hl
  have h1 : (n : Int) > 65535 := by omega
  have h2 : decide ((n : Int) > 65535) = true := decide_eq_true h1
  clear hr hn
  go_enter Try.func24, Try.ntmps24
  go_wp2_with fail
  go_ret2
  exact ⟨rfl, below_alloc w _⟩

set_option maxRecDepth 100000 in
set_option maxHeartbeats 8000000 in
theorem rtell_odd (nums : Bool) (k : Int) (ps : Row) (lv : Value) (w : World) (hl : ps.length ≤ 65535) (hk : k < 1 ∨ 4 < k) (hr : Rd w lv (vs ps)) :
    Calls Try.prog 24 #[.int .i64 k, lv, .bool nums] w fun e w' => RetTell w.heap.size none e w' ∧ Below w.heap.size w w' := by
  obtain ⟨ao, cap, rfl⟩ := rd_shape1 hr
  obtain ⟨n, hn⟩ : ∃ n, n = ps.length := ⟨_, rfl⟩
  rw [len_vs, ← hn] at hr ⊢
  rw [← hn] at hl
  have h1 : decide ((n : Int) > 65535) = false := decide_eq_false (by omega)
  have h2 : ¬ ((n : Int) > 65535) := by omega
  have k1 : (k == 1) = false := by rw [beq_eq_false_iff_ne]; omega
  have m1 : ¬ (k = 1) := by omega
  have k2 : (k == 2) = false := by rw [beq_eq_false_iff_ne]; omega
  have m2 : ¬ (k = 2) := by omega
  have k3 : (k == 3) = false := by rw [beq_eq_false_iff_ne]; omega
  have m3 : ¬ (k = 3) := by omega
  have k4 : (k == 4) = false := by rw [beq_eq_false_iff_ne]; omega
  have m4 : ¬ (k = 4) := by omega
  clear hk
  clear hr hn
  go_enter Try.func24, Try.ntmps24
  go_wp2_with fail
  go_ret2
  exact ⟨rfl, below_alloc w _⟩

set_option maxRecDepth 100000 in
set_option maxHeartbeats 8000000 in
theorem rtell_frameless  (ps : Row) (lv : Value) (w : World) (hl : ps.length ≤ 65535) (hr : Rd w lv (vs ps)) :
    Calls Try.prog 24 #[.int .i64 3, lv, .bool false] w fun e w' => RetTell w.heap.size none e w' ∧ Below w.heap.size w w' := by
  obtain ⟨ao, cap, rfl⟩ := rd_shape1 hr
  obtain ⟨n, hn⟩ : ∃ n, n = ps.length := ⟨_, rfl⟩
  rw [len_vs, ← hn] at hr ⊢
  rw [← hn] at hl
  have h1 : decide ((n : Int) > 65535) = false := decide_eq_false (by omega)
  have h2 : ¬ ((n : Int) > 65535) := by omega
  clear hr hn
  go_enter Try.func24, Try.ntmps24
  go_wp2_with fail
  go_ret2
  exact ⟨rfl, below_alloc w _⟩

theorem rtell_any (nums : Bool) (k : Int) (ps : Row) (lv : Value) (w : World) (hok : ∀ x ∈ xs ps, OkT nums x) (hr : Rd w lv (vs ps)) (he : Els w ps) :
    Calls Try.prog 24 #[.int .i64 k, lv, .bool nums] w fun e w' => RetTell w.heap.size (gTell nums k (xs ps)) e w' ∧ Below w.heap.size w w' := by
  rcases Nat.lt_or_ge 65535 ps.length with hl | hl
  · rw [show gTell nums k (xs ps) = none from by unfold gTell; rw [if_pos (.inl (by rw [len_xs]; exact hl))]]
    exact rtell_long nums k ps lv w hl hr
  · by_cases hk : k < 1 ∨ 4 < k
    · rw [show gTell nums k (xs ps) = none from by unfold gTell; rw [if_pos (by rcases hk with h | h <;> simp [h])]]
      exact rtell_odd nums k ps lv w hl hk hr
    · rcases (by omega : k = 1 ∨ k = 2 ∨ k = 3 ∨ k = 4) with rfl | rfl | rfl | rfl
      · exact rtell_1 nums ps lv w hok hl hr he
      · exact rtell_2 nums ps lv w hok hl hr he
      · cases nums
        · rw [show gTell false 3 (xs ps) = none from by unfold gTell; rw [if_pos (by simp)]]
          exact rtell_frameless ps lv w hl hr
        · exact rtell_3 ps lv w hok hl hr he
      · exact rtell_4 nums ps lv w hok hl hr he


end Go.Proofs.Ytjcmekhamohbnaa.Bc

namespace Go.Proofs.Ytjcmekhamohbnaa.Bc
set_option linter.unusedVariables false
set_option linter.unusedSimpArgs false
open Go.RowKit

def bestG (nums : Bool) (l : List By) : Nat → List Nat
  | 0 => []
  | q + 1 => match gTell nums ((q : Int) + 1) l with
    | none => bestG nums l q
    | some bs => if (bestG nums l q).length = 0 ∨ bs.length < (bestG nums l q).length then bs else bestG nums l q

set_option maxRecDepth 100000 in
set_option maxHeartbeats 8000000 in
theorem refbest_any (nums : Bool) (ps : Row) (lv : Value) (w : World) (hok : ∀ x ∈ xs ps, OkT nums x) (hr : Rd w lv (vs ps)) (he : Els w ps) :
    Calls Try.prog 17 #[lv, .bool nums] w fun e w' => ∃ v, e = .returned v ∧ OwnB w.heap.size w' v (bestG nums (xs ps) 4) ∧ Below w.heap.size w w' := by
  have HR := Lib.hid hr
  have HE := Lib.hid he
  have HOK := Lib.hid hok
  clear hr he hok
  go_enter Try.func17, Try.ntmps17
  go_wp2_with fail
  go_loopw [5, 6] (fun v i wr => ∃ q : Nat, q ≤ 4 ∧ i = .int .i64 ((q : Int) + 1) ∧ OwnB w.heap.size wr v (bestG nums (xs ps) q) ∧ Below w.heap.size w wr) (fun _ i _ => (5 - intOf i).toNat)
  case atStart => exact ⟨0, by omega, rfl, ownB_nil _ _, Below.refl _ _⟩
  case round =>
    obtain ⟨q, hq, rfl, hown, hbel⟩ := hrel
    obtain ⟨ab, cb, rfl⟩ := hown.shape
    obtain ⟨B, hB⟩ : ∃ B, B = bestG nums (xs ps) q := ⟨_, rfl⟩
    obtain ⟨m, hm⟩ : ∃ m, m = (bestG nums (xs ps) q).length := ⟨_, rfl⟩
    rw [← hm]
    have HO := Lib.hid (show wr.ownsRow w.heap.size 5 1 (.slice ab m cb) m ((bestG nums (xs ps) q).map u8v) from by rw [hm]; exact hown)
    have HM := Lib.hid hm
    have HBL := Lib.hid hbel
    have hq0 : (0 : Int) ≤ (q : Int) := by omega
    by_cases hlt : q < 4
    · have hlti : (q : Int) + 1 ≤ 4 := by omega
      have hlt2 : decide ((q : Int) + 1 ≤ 4) = true := decide_eq_true hlti
      have HT := Lib.hid (rtell_any nums ((q : Int) + 1) ps lv wr HOK.out (HR.out.kept HBL.out) (HE.out.kept HBL.out))
      have hstep : bestG nums (xs ps) (q + 1) = match gTell nums ((q : Int) + 1) (xs ps) with
        | none => bestG nums (xs ps) q
        | some bs => if (bestG nums (xs ps) q).length = 0 ∨ bs.length < (bestG nums (xs ps) q).length then bs else bestG nums (xs ps) q := rfl
      obtain ⟨o, ho⟩ : ∃ o, o = gTell nums ((q : Int) + 1) (xs ps) := ⟨_, rfl⟩
      rw [← ho] at HT hstep
      have HS := Lib.hid hstep
      clear ho hstep hown hbel hm hB
      go_wp2_with fail
      refine HT.out.mono ?_
      rintro e w3 ⟨hret, hb3⟩
      have HB3 := Lib.hid (below_then HBL.out hb3)
      have hsz := HBL.out.size
      have HO3 := Lib.hid (show w3.ownsRow w.heap.size 5 1 (.slice ab m cb) m ((bestG nums (xs ps) q).map u8v) from own_keptU HO.out hb3)
      cases o with
      | none =>
        obtain rfl : e = _ := hret
        clear hb3
        go_wp2_with fail
        go_roundw
        case rel => exact ⟨q + 1, by omega, by go_num, by rw [HS.out]; exact OwnB.of HO3.out, HB3.out⟩
        case measure => simp [intOf]; omega
      | some bs =>
        obtain ⟨v3, rfl, hown3⟩ := hret
        obtain ⟨a3, c3, rfl⟩ := hown3.shape
        obtain ⟨m3, hm3⟩ : ∃ m3, m3 = bs.length := ⟨_, rfl⟩
        rw [← hm3]
        have HM3 := Lib.hid hm3
        have HN3 := Lib.hid (show w3.ownsRow w.heap.size 5 1 (.slice a3 m3 c3) m3 (bs.map u8v) from by rw [hm3]; exact own_mono hown3 hsz)
        clear hb3 hown3 hm3
        by_cases hm0 : m = 0
        · have hmb : ((m : Int) == 0) = true := by rw [beq_iff_eq]; omega
          go_wp2_with fail
          go_roundw
          case rel => exact ⟨q + 1, by omega, by go_num, by rw [HS.out]; show OwnB _ _ _ (if _ then _ else _); rw [if_pos (.inl (by rw [← HM.out]; exact hm0))]; exact OwnB.of HN3.out, HB3.out⟩
          case measure => simp [intOf]; omega
        · have hmb : ((m : Int) == 0) = false := by rw [beq_eq_false_iff_ne]; omega
          have hmi : ¬ ((m : Int) = 0) := by omega
          by_cases hmm : m3 < m
          · have hmmi : (m3 : Int) < (m : Int) := by omega
            have hmmb : decide ((m3 : Int) < (m : Int)) = true := decide_eq_true hmmi
            go_wp2_with fail
            go_roundw
            case rel => exact ⟨q + 1, by omega, by go_num, by rw [HS.out]; show OwnB _ _ _ (if _ then _ else _); rw [if_pos (.inr (by rw [← HM.out, ← HM3.out]; exact hmm))]; exact OwnB.of HN3.out, HB3.out⟩
            case measure => simp [intOf]; omega
          · have hmmi : ¬ (m3 : Int) < (m : Int) := by omega
            have hmmb : decide ((m3 : Int) < (m : Int)) = false := decide_eq_false hmmi
            go_wp2_with fail
            go_roundw
            case rel => exact ⟨q + 1, by omega, by go_num, by rw [HS.out]; show OwnB _ _ _ (if _ then _ else _); rw [if_neg (by rw [← HM.out, ← HM3.out]; omega)]; exact OwnB.of HO3.out, HB3.out⟩
            case measure => simp [intOf]; omega
    · have hq4 : q = 4 := by omega
      have hlti : ¬ (q : Int) + 1 ≤ 4 := by omega
      have hlt2 : decide ((q : Int) + 1 ≤ 4) = false := decide_eq_false hlti
      have HQB := Lib.hid (show OwnB w.heap.size wr (.slice ab m cb) (bestG nums (xs ps) 4) from by rw [← hq4]; exact OwnB.of HO.out)
      clear hown hbel hm hB hq4
      go_wp2_with fail
      go_ret
      exact ⟨_, rfl, HQB.out, HBL.out⟩

end Go.Proofs.Ytjcmekhamohbnaa.Bc

namespace Go.Proofs.Ytjcmekhamohbnaa.Bc
set_option linter.unusedVariables false
set_option linter.unusedSimpArgs false
open Go.RowKit

def numQ (left : List Nat) (bad : Bool) : Nat × List Nat × Bool := if bad = true then (0, left, true) else match nextC left with
  | none => (0, left, true)
  | some (u, n) => (u, left.drop n, false)

set_option maxRecDepth 100000 in
set_option maxHeartbeats 8000000 in
theorem refzag_any (u : Nat) (w : World) (h : u < 18446744073709551616) :
    Calls Try.prog 60 #[.int .u64 (u : Int)] w fun e w' => e = .returned (.int .i64 (zagN u)) ∧ w = w' := by
  have h1 : (0 : Int) ≤ (u : Int) := by omega
  have h2 : (u : Int) ≤ 18446744073709551615 := by omega
  have hd : (u : Int) / 2 = ((u / 2 : Nat) : Int) := by omega
  have hand : bits .and .u64 (u : Int) 1 = ((u % 2 : Nat) : Int) := by
    rw [show (1 : Int) = ((1 : Nat) : Int) from rfl, u64_and_nat _ _ h (by decide), Nat.and_one_is_mod]
  obtain ⟨d, hd2⟩ : ∃ d, d = u / 2 := ⟨_, rfl⟩
  rw [← hd2] at hd
  have hw1 : IntKind.i64.wrap (d : Int) = (d : Int) := IntWalk.i64_in _ (by omega)
  have hw2 : IntKind.i64.wrap (-(d : Int)) = -(d : Int) := IntWalk.i64_in _ (by omega)
  have hw3 : IntKind.i64.wrap (-(d : Int) - 1) = -(d : Int) - 1 := IntWalk.i64_in _ (by omega)
  rcases (by omega : u % 2 = 1 ∨ u % 2 = 0) with hm | hm
  · rw [hm] at hand
    have hb : (bits .and .u64 (u : Int) 1 == 1) = true := by rw [hand]; rfl
    have HE := Lib.hid (show zagN u = -(d : Int) - 1 by unfold zagN; rw [if_pos hm, hd2])
    clear hd2 hm
    go_enter Try.func60, Try.ntmps60
    go_wp2_with fail
    go_ret
    rw [HE.out]
    exact ⟨by first | rfl | (congr 2; omega), rfl⟩
  · rw [hm] at hand
    have hb : (bits .and .u64 (u : Int) 1 == 1) = false := by rw [hand]; rfl
    have HE := Lib.hid (show zagN u = (d : Int) by unfold zagN; rw [if_neg (by omega), hd2])
    clear hd2 hm
    go_enter Try.func60, Try.ntmps60
    go_wp2_with fail
    go_ret
    rw [HE.out]
    exact ⟨by first | rfl | (congr 2; omega), rfl⟩

end Go.Proofs.Ytjcmekhamohbnaa.Bc

namespace Go.Proofs.Ytjcmekhamohbnaa.Bc
set_option linter.unusedVariables false
set_option linter.unusedSimpArgs false
open Go.RowKit

theorem numQ_lt (left : List Nat) (bad : Bool) : (numQ left bad).1 < 18446744073709551616 := by
  have h := numR_lt left bad
  unfold numR at h
  unfold numQ
  cases bad with
  | true => rw [if_pos rfl]; exact Nat.zero_lt_succ _
  | false =>
    rw [if_neg (by simp)]
    cases hn : nextC left with
    | none => exact Nat.zero_lt_succ _
    | some p => obtain ⟨u, n⟩ := p
                rw [hn] at h
                exact h

end Go.Proofs.Ytjcmekhamohbnaa.Bc
