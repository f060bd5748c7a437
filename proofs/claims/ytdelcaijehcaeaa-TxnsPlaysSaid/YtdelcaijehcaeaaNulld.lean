/-
  Contract of null's Decode.
-/
import Derived.Test.YtdelcaijehcaeaaNullc
namespace Go.Proofs.Ytdelcaijehcaeaa
set_option linter.unusedVariables false
open Go.RowKit

theorem nextF_bound : ∀ (l : List Nat) (i U u n : Nat), nextF i U l = some (u, n) → i < n ∧ n ≤ i + l.length
  | [], i, U, u, n, h => by rw [nextF] at h; cases h
  | c :: l, i, U, u, n, h => by
    rw [nextF] at h
    split at h
    · cases h
    · split at h
      · have := nextF_bound l _ _ u n h
        rw [List.length_cons]; omega
      · split at h
        · cases h
        · simp only [Option.some.injEq, Prod.mk.injEq] at h
          rw [List.length_cons]; omega

theorem nextC_bound (l : List Nat) (u n : Nat) (h : nextC l = some (u, n)) : 0 < n ∧ n ≤ l.length := by
  have := nextF_bound l 0 0 u n h
  omega

theorem decN_none (b : List Nat) (h : nextC b = none) : decN b = none := by unfold decN; rw [h]
theorem decN_many (b : List Nat) (n k : Nat) (h : nextC b = some (n, k)) (hn : 65535 < n) : decN b = none := by unfold decN; rw [h]; simp only; rw [if_pos hn]
theorem decN_end (b : List Nat) (n k : Nat) (h : nextC b = some (n, k)) (hd : b.drop k = []) : decN b = none := by
  unfold decN; rw [h]; simp only; rw [hd]; simp
theorem decN_kind (b : List Nat) (n k kind : Nat) (rest : List Nat) (h : nextC b = some (n, k)) (hn : n ≤ 65535) (hd : b.drop k = kind :: rest) : decN b = decK n kind rest := by
  unfold decN; rw [h]; simp only; rw [if_neg (by omega), hd]

set_option maxRecDepth 100000 in
set_option maxHeartbeats 2000000 in
theorem decode_any (v : Value) (bs : List Nat) (w : World) (hr : Rd w v (bs.map u8v)) (h256 : ∀ x ∈ bs, x < 256) (hbig : bs.length ≤ 17592186044416) :
    Calls Try.prog 39 #[v] w (RetDec (decN bs) w) := by
  have HR := Lib.hid hr
  have H256 := Lib.hid h256
  have HBIG := Lib.hid hbig
  clear hr h256 hbig
  rcases hn : nextC bs with _ | ⟨u, n⟩
  · have HN := Lib.hid hn
    clear hn
    go_enter Try.func39, Try.ntmps39
    go_wp2_with fail
    refine (read_any _ bs _ HR.out (by have := HBIG.out; omega)).mono ?_
    rintro e w2 ⟨r, rfl, hr, hi, hb⟩
    have HI := Lib.hid hi
    have HB := Lib.hid hb
    have HRr := Lib.hid hr
    clear hr hi hb
    go_wp2_with fail
    refine (rnum_no r bs false _ HI.out H256.out (by have := HBIG.out; omega) HN.out).mono ?_
    rintro e w3 ⟨rfl, hi, hg⟩
    have HI2 := Lib.hid hi
    have HB3 := Lib.hid (HB.out.grown hg HB.out.size (fun k e => by cases e; exact HRr.out))
    clear hi hg HI HB
    go_wp2_with fail
    refine (rest_any r [] true _ HI2.out (by simp)).mono ?_
    rintro e w4 ⟨ao4, cap4, rfl, hown, hb⟩
    have HB4 := Lib.hid (below_then HB3.out hb)
    clear hown hb HB3 HI2
    simp only [List.map_nil, List.length_nil]
    go_wp2_with fail
    go_ret3
    exact .inl ⟨decN_none bs HN.out, rfl, HB4.out⟩
  · obtain ⟨hn1, hn2⟩ := nextC_bound bs u n hn
    have HN := Lib.hid hn
    clear hn
    obtain ⟨ds, hds⟩ : ∃ ds, ds = bs.drop n := ⟨_, rfl⟩
    have hdl : ds.length ≤ 17592186044416 := by have := HBIG.out; rw [hds, List.length_drop]; omega
    have HDL := Lib.hid hdl
    have HDS := Lib.hid hds
    have HD256 := Lib.hid (show ∀ x ∈ ds, x < 256 from fun x hx => H256.out x (List.mem_of_mem_drop (hds ▸ hx)))
    clear hds hdl
    go_enter Try.func39, Try.ntmps39
    go_wp2_with fail
    refine (read_any _ bs _ HR.out (by have := HBIG.out; omega)).mono ?_
    rintro e w2 ⟨r, rfl, hr, hi, hb⟩
    have HI := Lib.hid hi
    have HB := Lib.hid hb
    have HRr := Lib.hid hr
    clear hr hi hb
    go_wp2_with fail
    refine (rnum_any r bs false _ HI.out H256.out (by have := HBIG.out; omega) u n HN.out hn1 hn2).mono ?_
    rw [← HDS.out]
    rintro e w3 ⟨rfl, hi, hg⟩
    have HI2 := Lib.hid hi
    have HB3 := Lib.hid (HB.out.grown hg HB.out.size (fun k e => by cases e; exact HRr.out))
    clear hi hg HI HB hn1 hn2
    go_wp2_with fail
    refine (rest_any r ds false _ HI2.out (by have := HDL.out; omega)).mono ?_
    rintro e w4 ⟨ao4, cap4, rfl, hown, hb⟩
    have HB4 := Lib.hid (below_then HB3.out hb)
    have hr4 : Rd w4 (.slice ao4 ds.length cap4) (ds.map u8v) := rd_own_map hown
    clear hown hb HB3 HI2
    simp only [List.length_map]
    by_cases hu : 65535 < u
    · have hu' : decide ((65535 : Int) < (u : Int)) = true := by simp; omega
      go_wp2_with fail
      go_ret3
      exact .inl ⟨decN_many bs u n HN.out hu, rfl, HB4.out⟩
    · have hu' : decide ((65535 : Int) < (u : Int)) = false := by simp; omega
      rcases ds with _ | ⟨kind, rest⟩
      · simp only [List.length_nil] at hr4 ⊢
        go_wp2_with fail
        go_ret3
        exact .inl ⟨decN_end bs u n HN.out HDS.out.symm, rfl, HB4.out⟩
      · have HDK := Lib.hid (decN_kind bs u n kind rest HN.out (by omega) HDS.out.symm)
        obtain ⟨len, hlen⟩ : ∃ len, len = (kind :: rest).length := ⟨_, rfl⟩
        rw [← hlen] at hr4 ⊢
        have hl0 : 0 < len := by rw [hlen]; simp
        have hl0i : ((len : Int) == 0) = false := by rw [beq_eq_false_iff_ne]; omega
        have HR4 := Lib.hid hr4
        have HRT := Lib.hid (show Rd w4 (.slice (if cap4 = 1 then ao4 else Option.map (fun x => x.add 1) ao4) (len - 1) (cap4 - 1)) (rest.map u8v) from rd_behind (q := 1) hr4 (by omega))
        have hcl := rd_cap hr4
        obtain ⟨o, off, rfl, hcell⟩ := (rd_cells hr4).2 hl0
        have hx := hcell 0 hl0
        have hk256 : kind < 256 := HD256.out kind List.mem_cons_self
        simp only [List.getD_cons_zero, Nat.add_zero] at hx
        clear hcell hr4 hlen
        go_wp2_with fail
        go_quiet (fail)
        obtain ⟨aq, haq⟩ : ∃ aq, aq = (if cap4 = 1 then some (⟨o, off, none⟩ : Addr) else some ⟨o, off + 1, none⟩) := ⟨_, rfl⟩
        have hrt : Rd w4 (.slice aq (len - 1) (cap4 - 1)) (rest.map u8v) := by
          have h := HRT.out
          rw [haq]
          simpa [Addr.add] using h
        rw [← haq]
        obtain ⟨m, hm⟩ : ∃ m, m = len - 1 := ⟨_, rfl⟩
        obtain ⟨c4, hc4⟩ : ∃ c4, c4 = cap4 - 1 := ⟨_, rfl⟩
        obtain ⟨w5, hw5⟩ : ∃ w5, w5 = w4.drewN nq := ⟨_, rfl⟩
        have hrt5 : Rd w5 (.slice aq m c4) (rest.map u8v) := by rw [hm, hc4, hw5]; exact hrt
        have hb5 : Below w.heap.size w w5 := by rw [hw5]; exact below_draws HB4.out _
        rw [← hm, ← hc4, ← hw5]
        have HRT5 := Lib.hid hrt5
        have HB5 := Lib.hid hb5
        have hu0 : (0 : Int) ≤ (u : Int) := by omega
        clear haq hrt hm hc4 hw5 hrt5 hb5 HRT HR4 hx HB4
        by_cases hk0 : kind = 0
        · subst hk0
          obtain ⟨i0, hi, hz0, hz1, hz2⟩ := info_parts infob
          go_wp2_with (at_make; refine wpList_make_full _ rfl _ _ 65 rfl w5.heap.size 4 i0 (.bool false) 1 Try.underlying65 hi hz0 hz1 .i64 .i64 _ _ u rfl rfl rfl rfl (by rw [hz2]; omega) (by unfold maxLen; omega) (Nat.le_refl _) ?_; intro w6 hown1 hgrow1)
          go_ret3
          have hb6 : Below w5.heap.size w5 w6 := (Below.refl _ w5).grown hgrow1 (Nat.le_refl _) (fun k e => by cases e)
          rw [madeb] at hown1
          exact .inr ⟨List.replicate u false, rest, _, _, _, _, _, _, by rw [HDK.out]; rfl, rfl, Rd.of_owns hown1, HRT5.out.kept hb6, HB5.out.trans (hb6.mono HB5.out.size)⟩
        · have hk0i : ((kind : Int) == 0) = false := by rw [beq_eq_false_iff_ne]; omega
          by_cases hk1 : kind = 1
          · subst hk1
            by_cases hu1 : 0 < u
            · have hu1' : decide ((0 : Int) < (u : Int)) = true := by simp; omega
              go_wp2_with fail
              refine (all_true_any u _ (by omega)).mono ?_
              rintro e w6 ⟨ao6, cap6, rfl, hown, hb⟩
              go_wp2_with fail
              go_ret3
              exact .inr ⟨List.replicate u true, rest, _, _, _, _, _, _, by rw [HDK.out]; unfold decK; rw [if_neg (by decide), if_pos ⟨rfl, hu1⟩], rfl, by simpa using Rd.of_owns hown, HRT5.out.kept hb, HB5.out.trans (hb.mono HB5.out.size)⟩
            · have hu1' : decide ((0 : Int) < (u : Int)) = false := by simp; omega
              go_wp2_with fail
              go_ret3
              exact .inl ⟨by rw [HDK.out]; unfold decK; rw [if_neg (by decide), if_neg (by omega), if_neg (by omega)], rfl, HB5.out⟩
          · have hk1i : ((kind : Int) == 1) = false := by rw [beq_eq_false_iff_ne]; omega
            by_cases hk2 : kind = 2
            · subst hk2
              go_wp2_with fail
              refine (mixed_any _ rest u _ HRT5.out (fun x hx => HD256.out x (List.mem_cons_of_mem _ hx)) (by have := HDL.out; rw [List.length_cons] at this; omega) (by omega)).mono ?_
              rintro e w6 (⟨hn, rfl, hb⟩ | ⟨l, r2, ao7, len7, cap7, ao8, len8, cap8, hs, rfl, hr7, hr8, hb⟩)
              · go_wp2_with fail
                go_ret3
                exact .inl ⟨by rw [HDK.out]; exact hn, rfl, HB5.out.trans (hb.mono HB5.out.size)⟩
              · go_wp2_with fail
                go_ret3
                exact .inr ⟨l, r2, _, _, _, _, _, _, by rw [HDK.out]; exact hs, rfl, hr7, hr8, HB5.out.trans (hb.mono HB5.out.size)⟩
            · have hk2i : ((kind : Int) == 2) = false := by rw [beq_eq_false_iff_ne]; omega
              go_wp2_with fail
              go_ret3
              exact .inl ⟨by rw [HDK.out]; unfold decK; rw [if_neg hk0, if_neg (by omega), if_neg (by omega)], rfl, HB5.out⟩

end Go.Proofs.Ytdelcaijehcaeaa
