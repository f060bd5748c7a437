/-
  The walk of ReptApart.
-/
import Derived.Test.YtblnpkameboohaaDoorRpe
import Derived.Test.YtblnpkameboohaaDoorRpc
namespace Go.Proofs.YtblnpkameboohaaDoor
set_option linter.unusedVariables false
set_option linter.unusedSimpArgs false
open Go.RowKit

theorem bytes_eq (T1 T2 : List UInt8) : ((⟨T1.toArray⟩ : ByteArray).toList == (⟨T2.toArray⟩ : ByteArray).toList) = true ↔ T1 = T2 := by
  rw [ByteArray.toList_eq, ByteArray.toList_eq, beq_iff_eq]
theorem and_more (a M : Int) (m : Nat) (hM : M = (m : Int)) (hm : m ≤ 100000000) : ∃ c : Nat, bits .and .i64 a M = (c : Int) ∧ c ≤ m := by
  subst hM
  have h : bits .and .i64 a (m : Int) = IntKind.i64.wrap ((BitVec.ofInt 64 a &&& BitVec.ofInt 64 (m : Int)).toNat : Int) := rfl
  have h1 : (BitVec.ofInt 64 a &&& BitVec.ofInt 64 (m : Int)).toNat ≤ m := by
    rw [BitVec.toNat_and]
    refine Nat.le_trans Nat.and_le_right ?_
    rw [BitVec.ofInt_natCast, BitVec.toNat_ofNat]
    exact Nat.mod_le _ _
  refine ⟨(BitVec.ofInt 64 a &&& BitVec.ofInt 64 (m : Int)).toNat, ?_, h1⟩
  rw [h, IntWalk.i64_in _ (by omega)]

theorem name_wr {A : Nat} {w0 w : World} (h : Below A w0 w) : ∃ V : World, V = w := ⟨w, rfl⟩
set_option maxRecDepth 1000000 in
set_option maxHeartbeats 16000000 in
theorem walk_ReptApart (a0 a1 : Int) (a2 : Bool) (w : World) (w0 : (Lit.int .i64 a0).wf = true) (w1 : (Lit.int .i64 a1).wf = true) :
    Calls Tryd.prog 3 #[.int .i64 a0, .int .i64 a1, .bool a2] w fun e w' => e = .returned (.bool true) ∧ Below w.heap.size w w' := by
  obtain ⟨n0, h0, hn0⟩ := and_more a0 16777215 16777215 rfl (by decide)
  obtain ⟨n1, h1, hn1⟩ := and_more a1 16777215 16777215 rfl (by decide)
  clear w0 w1
  go_enter Tryd.func3, Tryd.ntmps3
  go_upto_region 3 with (fail)
  go_upto_if 15 with (fail)
  go_cut [1] (fun m wx => (∃ m' : Nat, m' < 16777216 ∧ m = .int .i64 (m' : Int)) ∧ w = wx)
  case first =>
    cases a2
    · go_wp2_with fail
      go_meet
      exact ⟨⟨n1, by omega, rfl⟩, rfl⟩
    · go_wp2_with fail
      go_meet
      exact ⟨⟨n0, by omega, rfl⟩, rfl⟩
  case rest =>
    obtain ⟨⟨n2, hn2, rfl⟩, rfl⟩ := hcut
    clear h0 h1 hn1
    go_wp2_with fail
    refine (of_any n0 (by omega) w).mono ?_
    rintro e W1 ⟨v1, L1, rfl, hr1, hl1, hk1, hb1⟩
    obtain ⟨e1, he1⟩ : ∃ e1, e1 = errN n0 := ⟨_, rfl⟩
    obtain ⟨N1, hN1⟩ : ∃ N1, N1 = n0 % 4 := ⟨_, rfl⟩
    rw [← he1, ← hN1]
    have HR1 := Lib.hid hr1
    have HL1 := Lib.hid hl1
    have HK1 := Lib.hid hk1
    have HB1 := Lib.hid hb1
    have HE1 := Lib.hid he1
    have HN1 := Lib.hid hN1
    clear hr1 hl1 hk1 hb1 he1 hN1
    go_wp2_with fail
    refine (of_any n2 hn2 W1).mono ?_
    rintro e W2 ⟨v2, L2, rfl, hr2, hl2, hk2, hb2⟩
    obtain ⟨e2, he2⟩ : ∃ e2, e2 = errN n2 := ⟨_, rfl⟩
    obtain ⟨N2, hN2⟩ : ∃ N2, N2 = n2 % 4 := ⟨_, rfl⟩
    rw [← he2, ← hN2]
    have HR2 := Lib.hid hr2
    have HR12 := Lib.hid (HR1.out.kept hb2)
    have HL2 := Lib.hid hl2
    have HK2 := Lib.hid hk2
    have HB2 := Lib.hid (below_then HB1.out hb2)
    have HT := Lib.hid (text_iff n0 n2)
    rw [← he2, ← HE1.out, ← hN2, ← HN1.out] at HT
    have he10 : e1 < 10 := by rw [HE1.out]; exact errN_lt n0
    have he20 : e2 < 10 := by rw [he2]; exact errN_lt n2
    have hN10 : N1 < 100 := by have := HN1.out; omega
    have hN20 : N2 < 100 := by omega
    have hsl1 : ∃ a m c, v1 = .slice a m c := by obtain ⟨a, c, h⟩ := rdS_shape HR1.out.out; exact ⟨a, _, c, h⟩
    have hsl2 : ∃ a m c, v2 = .slice a m c := by obtain ⟨a, c, h⟩ := rdS_shape HR2.out.out; exact ⟨a, _, c, h⟩
    obtain ⟨xa, xm, xc, rfl⟩ := hsl1
    obtain ⟨ya, ym, yc, rfl⟩ := hsl2
    have hx3 := heap_alloc_new W2 (.cells #[.int .i64 (e1 : Int), .int .i64 (N1 : Int), .slice xa xm xc] 25)
    have hx4 := (heap_alloc_old (W2.alloc (.cells #[.int .i64 (e1 : Int), .int .i64 (N1 : Int), .slice xa xm xc] 25)) (.cells #[.int .i64 (e2 : Int), .int .i64 (N2 : Int), .slice ya ym yc] 25) (r := W2.heap.size) (by simp)).trans hx3
    have hy4 := heap_alloc_new (W2.alloc (.cells #[.int .i64 (e1 : Int), .int .i64 (N1 : Int), .slice xa xm xc] 25)) (.cells #[.int .i64 (e2 : Int), .int .i64 (N2 : Int), .slice ya ym yc] 25)
    have hs3 : (W2.alloc (.cells #[.int .i64 (e1 : Int), .int .i64 (N1 : Int), .slice xa xm xc] 25)).heap.size = W2.heap.size + 1 := by simp
    have hb3 := below_lay (below_alloc W2 (.cells #[.int .i64 (e1 : Int), .int .i64 (N1 : Int), .slice xa xm xc] 25)) (.cells #[.int .i64 (e2 : Int), .int .i64 (N2 : Int), .slice ya ym yc] 25)
    rw [hs3] at hy4
    clear hr2 hl2 hk2 hb2 he2 hN2 hx3 hs3
    go_upto_region 6 with (fail)
    obtain ⟨W3, hW3⟩ : ∃ W3 : World, W3 = (W2.alloc (.cells #[.int .i64 (e1 : Int), .int .i64 (N1 : Int), .slice xa xm xc] 25)).alloc (.cells #[.int .i64 (e2 : Int), .int .i64 (N2 : Int), .slice ya ym yc] 25) := ⟨_, rfl⟩
    obtain ⟨XB, hXB⟩ : ∃ XB, XB = W2.heap.size := ⟨_, rfl⟩
    rw [← hW3] at hx4 hy4 hb3 ⊢
    rw [← hXB] at hx4 hy4 ⊢
    obtain ⟨YB, hYB⟩ : ∃ YB, YB = XB + 1 := ⟨_, rfl⟩
    rw [← hYB] at hy4 ⊢
    have HX4 := Lib.hid hx4
    have HY4 := Lib.hid hy4
    have HB3 := Lib.hid hb3
    have HC3 := Lib.hid (show ∀ w', Below W3.heap.size W3 w' → (w'.cell? ⟨XB, 0, none⟩ = some (.int .i64 (e1 : Int)) ∧ w'.cell? ⟨XB, 1, none⟩ = some (.int .i64 (N1 : Int)) ∧ w'.cell? ⟨XB, 2, none⟩ = some (.slice xa xm xc) ∧ w'.cell? ⟨YB, 0, none⟩ = some (.int .i64 (e2 : Int)) ∧ w'.cell? ⟨YB, 1, none⟩ = some (.int .i64 (N2 : Int)) ∧ w'.cell? ⟨YB, 2, none⟩ = some (.slice ya ym yc)) from fun w' h => by
      have h1 := (h.block XB (Array.getElem?_eq_some_iff.1 HX4.out).1).trans HX4.out
      have h2 := (h.block YB (Array.getElem?_eq_some_iff.1 HY4.out).1).trans HY4.out
      exact ⟨by rw [cell_of_row w' XB 0 _ _ _ h1]; rfl, by rw [cell_of_row w' XB 1 _ _ _ h1]; rfl, by rw [cell_of_row w' XB 2 _ _ _ h1]; rfl, by rw [cell_of_row w' YB 0 _ _ _ h2]; rfl, by rw [cell_of_row w' YB 1 _ _ _ h2]; rfl, by rw [cell_of_row w' YB 2 _ _ _ h2]; rfl⟩)
    clear hW3 hXB hYB hx4 hy4 hb3
    go_cut [10] (fun s wx => ∃ c : Bool, s = .bool c ∧ (c = true ↔ (e1 = e2 ∧ (e1 ≠ 0 ∨ (N1 = N2 ∧ rowsN n0 = rowsN n2)))) ∧ Below W3.heap.size W3 wx)
    case first =>
      obtain ⟨x0, x1, x2, y0, y1, y2⟩ := HC3.out W3 (Below.refl _ _)
      by_cases he : e1 = e2
      · have k1 : ((e1 : Int) == (e2 : Int)) = true := by rw [beq_iff_eq]; omega
        have HE := Lib.hid he
        clear he
        by_cases hz : e1 = 0
        · have k2 : ((e1 : Int) == 0) = true := by rw [beq_iff_eq]; omega
          have k2b : ((e1 : Int) != 0) = false := by rw [bne_eq_false_iff_eq]; omega
          have HZ := Lib.hid hz
          clear hz
          by_cases hn : N1 = N2
          · have k3 : ((N1 : Int) == (N2 : Int)) = true := by rw [beq_iff_eq]; omega
            have HN := Lib.hid hn
            clear hn
            have HSM := Lib.hid (same27_any (.slice xa xm xc) (.slice ya ym yc) L1 L2 W3 (HR12.out.kept HB3.out) (HR2.out.kept HB3.out) HK1.out HK2.out)
            go_wp2_with fail
            refine HSM.out.mono ?_
            rintro e w5 ⟨c, rfl, hc, hb5⟩
            have HCC := Lib.hid hc
            have HB5 := Lib.hid hb5
            clear hc hb5
            go_wp2_with fail
            go_meet
            refine ⟨c, rfl, ?_, HB5.out⟩
            rw [HCC.out, HL1.out, HL2.out]
            exact ⟨fun h => ⟨HE.out, .inr ⟨HN.out, h⟩⟩, fun h => h.2.elim (fun h1 => absurd HZ.out h1) fun h1 => h1.2⟩
          · have k3 : ((N1 : Int) == (N2 : Int)) = false := by rw [beq_eq_false_iff_ne]; omega
            have HN := Lib.hid hn
            clear hn
            go_wp2_with fail
            go_meet
            exact ⟨false, rfl, ⟨(fun h => by cases h), (fun h => h.2.elim (fun h1 => absurd HZ.out h1) fun h1 => absurd h1.1 HN.out)⟩, Below.refl _ _⟩
        · have k2 : ((e1 : Int) == 0) = false := by rw [beq_eq_false_iff_ne]; omega
          have k2b : ((e1 : Int) != 0) = true := by rw [bne_iff_ne]; omega
          have HZ := Lib.hid hz
          clear hz
          go_wp2_with fail
          go_meet
          exact ⟨true, rfl, ⟨(fun _ => ⟨HE.out, .inl HZ.out⟩), (fun _ => rfl)⟩, Below.refl _ _⟩
      · have k1 : ((e1 : Int) == (e2 : Int)) = false := by rw [beq_eq_false_iff_ne]; omega
        have HE := Lib.hid he
        clear he
        go_wp2_with fail
        go_meet
        exact ⟨false, rfl, ⟨(fun h => by cases h), (fun h => absurd h.1 HE.out)⟩, Below.refl _ _⟩
    case rest =>
      obtain ⟨c, rfl, hc, hb4⟩ := hcut
      obtain ⟨W4, hW4⟩ := name_wr hb4
      rw [← hW4] at hb4 ⊢
      have HB4 := Lib.hid hb4
      obtain ⟨sx, hsx⟩ : ∃ sx : ByteArray, sx = ⟨(resT e1 N1 (rowsN n0)).toArray⟩ := ⟨_, rfl⟩
      obtain ⟨sy, hsy⟩ : ∃ sy : ByteArray, sy = ⟨(resT e2 N2 (rowsN n2)).toArray⟩ := ⟨_, rfl⟩
      have hcc : (sx.toList == sy.toList) = c := by
        rw [Bool.eq_iff_iff, hsx, hsy, bytes_eq, HT.out, hc]
      have HR7 := Lib.hid (show ∀ w', Below W4.heap.size W4 w' → Calls Tryd.prog 7 #[.agg #[.int .i64 (e1 : Int), .int .i64 (N1 : Int), .slice xa xm xc]] w' fun e w'' => e = .returned (.string sx) ∧ Below w'.heap.size w' w'' from fun w' h => by
        have h1 := tres_any e1 N1 (.slice xa xm xc) L1 (by omega) hN10 HK1.out w' (((HR12.out.kept HB3.out).kept hb4).kept h)
        rw [HL1.out] at h1
        rw [hsx]
        exact h1)
      have HR8 := Lib.hid (show ∀ w', Below W4.heap.size W4 w' → Calls Tryd.prog 7 #[.agg #[.int .i64 (e2 : Int), .int .i64 (N2 : Int), .slice ya ym yc]] w' fun e w'' => e = .returned (.string sy) ∧ Below w'.heap.size w' w'' from fun w' h => by
        have h1 := tres_any e2 N2 (.slice ya ym yc) L2 (by omega) hN20 HK2.out w' (((HR2.out.kept HB3.out).kept hb4).kept h)
        rw [HL2.out] at h1
        rw [hsy]
        exact h1)
      have HCX := Lib.hid (show ∀ w', Below W4.heap.size W4 w' → ((w'.cell? ⟨XB, 0, none⟩ = some (.int .i64 (e1 : Int)) ∧ w'.cell? ⟨XB, 1, none⟩ = some (.int .i64 (N1 : Int)) ∧ w'.cell? ⟨XB, 2, none⟩ = some (.slice xa xm xc) ∧ w'.cell? ⟨YB, 0, none⟩ = some (.int .i64 (e2 : Int)) ∧ w'.cell? ⟨YB, 1, none⟩ = some (.int .i64 (N2 : Int)) ∧ w'.cell? ⟨YB, 2, none⟩ = some (.slice ya ym yc)) ∧ Below W4.heap.size W4 w') from fun w' h => ⟨HC3.out w' (hb4.trans (h.mono hb4.size)), h⟩)
      have hcb : (c == c) = true := by simp
      clear hW4 hb4 hc hsx hsy
      go_upto_region 7 with (fail)
      refine wp_region_noPanic ?_
      refine wp_region_held_drew (S := fun w' => (w'.cell? ⟨XB, 0, none⟩ = some (.int .i64 (e1 : Int)) ∧ w'.cell? ⟨XB, 1, none⟩ = some (.int .i64 (N1 : Int)) ∧ w'.cell? ⟨XB, 2, none⟩ = some (.slice xa xm xc) ∧ w'.cell? ⟨YB, 0, none⟩ = some (.int .i64 (e2 : Int)) ∧ w'.cell? ⟨YB, 1, none⟩ = some (.int .i64 (N2 : Int)) ∧ w'.cell? ⟨YB, 2, none⟩ = some (.slice ya ym yc)) ∧ Below W4.heap.size W4 w') (by kernel_rfl) ?hS0 (fun hHeld => ?go0)
      case' hS0 => ((try dsimp only); exact HCX.out _ (below_drw _ _))
      refine tkH 0 (v := ?v0) rfl (.inl ⟨by rfl, ?y0⟩) ?_
      case' y0 => (intro w hSw; first | (go_simp; done) | (go_simp; with_reducible rfl))
      (try simp only [Act.put, List.getElem_toArray, List.getElem_cons_succ, List.getElem_cons_zero, List.setIfInBounds_toArray, List.set_cons_zero, List.set_cons_succ])
      refine tkH 2 (v := ?v2) rfl (.inl ⟨by rfl, ?y2⟩) ?_
      case' y2 => (intro w hSw; first | (go_simp; done) | (go_simp; with_reducible rfl))
      (try simp only [Act.put, List.getElem_toArray, List.getElem_cons_succ, List.getElem_cons_zero, List.setIfInBounds_toArray, List.set_cons_zero, List.set_cons_succ])
      refine tkH 5 (v := ?v5) rfl (.inl ⟨by rfl, ?y5⟩) ?_
      case' y5 => (intro w hSw; first | (go_simp; done) | (go_simp; with_reducible rfl))
      (try simp only [Act.put, List.getElem_toArray, List.getElem_cons_succ, List.getElem_cons_zero, List.setIfInBounds_toArray, List.set_cons_zero, List.set_cons_succ])
      refine wpAnyH_ready (rs := [1]) (by kernel_rfl) (by simp) ?_
      refine AllReadyH.cons (o := _) rfl (fun K1a hK1a => ?_) AllReadyH.nil
      go_simp
      (go_at_call 7; refine (HR7.out _ (hHeld.2)).mono ?_; rintro e w5 ⟨rfl, hb5⟩; have hbc : Below W4.heap.size W4 w5 := below_then (hHeld.2) hb5)
      refine hK1a.out _ _ ?hS1a (fun hHeld1a => ?_)
      case' hS1a => ((try dsimp only); exact HCX.out _ hbc)
      clear hK1a K1a
      (try simp only [Act.put, List.getElem_toArray, List.getElem_cons_succ, List.getElem_cons_zero, List.setIfInBounds_toArray, List.set_cons_zero, List.set_cons_succ])
      refine wpAnyH_ready (rs := [3]) (by kernel_rfl) (by simp) ?_
      refine AllReadyH.cons (o := _) rfl (fun K3b hK3b => ?_) AllReadyH.nil
      go_simp
      (go_at_call 7; refine (HR8.out _ hbc).mono ?_; rintro e w6 ⟨rfl, hb6⟩; have hbd : Below W4.heap.size W4 w6 := below_then hbc hb6)
      refine hK3b.out _ _ ?hS3b (fun hHeld3b => ?_)
      case' hS3b => ((try dsimp only); exact HCX.out _ hbd)
      clear hK3b K3b
      (try simp only [Act.put, List.getElem_toArray, List.getElem_cons_succ, List.getElem_cons_zero, List.setIfInBounds_toArray, List.set_cons_zero, List.set_cons_succ])
      refine tkH 4 (v := ?v4b) rfl (.inl ⟨by rfl, ?y4b⟩) ?_
      case' y4b => (intro w hSw; first | (go_simp; done) | (go_simp; with_reducible rfl))
      (try simp only [Act.put, List.getElem_toArray, List.getElem_cons_succ, List.getElem_cons_zero, List.setIfInBounds_toArray, List.set_cons_zero, List.set_cons_succ])
      refine tkH 6 (v := ?v6b) rfl (.inl ⟨by rfl, ?y6b⟩) ?_
      case' y6b => (intro w hSw; first | (go_simp; done) | (go_simp; with_reducible rfl))
      (try simp only [Act.put, List.getElem_toArray, List.getElem_cons_succ, List.getElem_cons_zero, List.setIfInBounds_toArray, List.set_cons_zero, List.set_cons_succ])
      refine tkH 7 (v := ?v7b) rfl (.inl ⟨by rfl, ?y7b⟩) ?_
      case' y7b => (intro w hSw; first | (go_simp; done) | (go_simp; with_reducible rfl))
      (try simp only [Act.put, List.getElem_toArray, List.getElem_cons_succ, List.getElem_cons_zero, List.setIfInBounds_toArray, List.set_cons_zero, List.set_cons_succ])
      refine wpAnyH_ready (rs := [8]) (by kernel_rfl) (by simp) ?_
      refine AllReadyH.cons (o := _) rfl (fun K8c hK8c => ?_) AllReadyH.nil
      go_simp
      (go_at_call 8; refine (awake27_any _).mono ?_; rintro e w7 ⟨rfl, hb7⟩; have hbe : Below W4.heap.size W4 w7 := below_then hbd hb7)
      refine hK8c.out _ _ ?hS8c (fun hHeld8c => ?_)
      case' hS8c => ((try dsimp only); exact HCX.out _ hbe)
      clear hK8c K8c
      (try simp only [Act.put, List.getElem_toArray, List.getElem_cons_succ, List.getElem_cons_zero, List.setIfInBounds_toArray, List.set_cons_zero, List.set_cons_succ])
      refine tkH 9 (v := ?v9c) rfl (.inl ⟨by rfl, ?y9c⟩) ?_
      case' y9c => (intro w hSw; first | (go_simp; done) | (go_simp; with_reducible rfl))
      (try simp only [Act.put, List.getElem_toArray, List.getElem_cons_succ, List.getElem_cons_zero, List.setIfInBounds_toArray, List.set_cons_zero, List.set_cons_succ])
      refine tkH 10 (v := ?v10c) rfl (.inl ⟨by rfl, ?y10c⟩) ?_
      case' y10c => (intro w hSw; first | (go_simp; done) | (go_simp; with_reducible rfl))
      (try simp only [Act.put, List.getElem_toArray, List.getElem_cons_succ, List.getElem_cons_zero, List.setIfInBounds_toArray, List.set_cons_zero, List.set_cons_succ])
      refine wpAnyH_done (by kernel_rfl) ?_ _
      refine NoPanic.normal ?_
      go_wp2_with fail
      go_ret
      exact ⟨rfl, ((HB2.out.trans (HB3.out.mono HB2.out.size)).trans (HB4.out.mono (Nat.le_trans HB2.out.size HB3.out.size))).trans (hbe.mono (Nat.le_trans (Nat.le_trans HB2.out.size HB3.out.size) HB4.out.size))⟩

end Go.Proofs.YtblnpkameboohaaDoor
