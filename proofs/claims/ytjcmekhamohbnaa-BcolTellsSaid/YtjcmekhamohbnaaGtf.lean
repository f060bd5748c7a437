/-
  Contracts of the reference: get: frames.
-/
import Derived.Test.YtjcmekhamohbnaaGtbase
import Derived.Deep.CutBlock
import Derived.Deep.RegionHeld3
namespace Go.Proofs.Ytjcmekhamohbnaa.Bc
set_option linter.unusedVariables false
set_option linter.unusedSimpArgs false
open Go.RowKit

theorem rd_u64_cells {w : World} {ao : Option Addr} {len cap : Nat} {l : List Nat} (h : Rd w (.slice ao len cap) (l.map u64v)) : len = l.length ∧ (0 < len → ∃ b off, ao = some ⟨b, off, none⟩ ∧ ∀ i, i < len → w.cell? ⟨b, off + i, none⟩ = some (.int .u64 ((l.getD i 0 : Nat) : Int))) := by
  obtain ⟨ao', cap', hv, _, hc⟩ := h
  simp only [List.length_map, Value.slice.injEq] at hv hc
  obtain ⟨rfl, rfl, rfl⟩ := hv
  refine ⟨rfl, fun hp => ?_⟩
  obtain ⟨b, off, ha, hcell⟩ := hc hp
  refine ⟨b, off, ha, fun i hi => ?_⟩
  rw [hcell i hi, List.getD_eq_getElem?_getD, List.getElem?_map, List.getD_eq_getElem?_getD, List.getElem?_eq_getElem hi]
  rfl

set_option maxRecDepth 100000 in
set_option maxHeartbeats 8000000 in
theorem get_3 (nums : Bool) (rr : List Nat) (c : Nat) (bv : Value) (w : World) (hr : Rd w bv ((3 :: rr).map u8v)) (h256 : ∀ x ∈ rr, x < 256) (hbig : rr.length ≤ 900000) (hc : c ≤ 65535) :
    Calls Try.prog 29 #[bv, .int .i64 (c : Int), .bool nums] w fun e w' => RetGet w.heap.size nums 3 rr (c : Int) e w' ∧ Below w.heap.size w w' := by
  obtain ⟨ao, cap, rfl⟩ := rd_shape1 hr
  rw [List.length_map] at hr ⊢
  obtain ⟨m, hm⟩ : ∃ m, m = List.length (3 :: rr) := ⟨_, rfl⟩
  have hrl2 : rr.length = m - 1 := by rw [hm, List.length_cons]; omega
  have hm1 : 1 ≤ m := by rw [hm, List.length_cons]; omega
  rw [← hm] at hr ⊢
  have HRL := Lib.hid hrl2
  have HR := Lib.hid hr
  have H256 := Lib.hid h256
  have HBIG := Lib.hid hbig
  have HRM := Lib.hid (show m ≤ 900001 by omega)
  obtain ⟨b, off, rfl, hcell⟩ := (rd_cells hr).2 (by omega)
  have hx0 := hcell 0 (by omega)
  rw [Nat.add_zero] at hx0
  have HX0 := Lib.hid (show ∀ w', Below w.heap.size w w' → w'.cell? ⟨b, off, none⟩ = some (.int .u8 (3 : Int)) from fun w' h => (h.cell (World.block_lt_of_cell? _ _ hx0)).trans hx0)
  have hcapn := rd_cap HR.out
  have hnb : ((m : Int) == 0) = false := by rw [beq_eq_false_iff_ne]; omega
  have hnb2 : ¬ ((m : Int) = 0) := by omega
  have hnp : (0 : Int) < (m : Int) := by omega
  have hn1i : (1 : Int) ≤ (m : Int) := by omega
  have hc0 : decide ((c : Int) < 0) = false := decide_eq_false (by omega)
  have hc00 : ¬ (c : Int) < 0 := by omega
  have hc01 : (0 : Int) ≤ (c : Int) := by omega
  have hc1 : decide ((c : Int) > 65535) = false := decide_eq_false (by omega)
  have hc11 : ¬ (c : Int) > 65535 := by omega
  clear hr h256 hm hrl2 hcell hx0 hbig
  go_enter Try.func29, Try.ntmps29
  go_upto_region 3 with (fail)
  go_cut [8] (fun p wx => ∃ r, p = .pointer (some ⟨r, 0, none⟩) ∧ w.heap.size ≤ r ∧ r < wx.heap.size ∧ IsQB wx.heap.size wx r rr false ∧ Below w.heap.size w wx)
  case first =>
    by_cases hck : cap = 1
    · have hn2 : m = 1 := by omega
      subst hck
      subst hn2
      have HR4 := Lib.hid (show Rd w (.slice (some ⟨b, off, none⟩) 0 0) (rr.map u8v) from by
        have : rr = [] := List.length_eq_zero_iff.1 HRL.out
        rw [this]
        exact rd_empty w _ 0)
      go_wp2_with fail
      go_meet
      exact ⟨w.heap.size, rfl, Nat.le_refl _, by simp, newQ HR4.out, below_alloc w _⟩
    · have hck2 : ¬ 1 = cap := fun h => hck h.symm
      have HR4 := Lib.hid (show Rd w (.slice (some ⟨b, off + 1, none⟩) (m - 1) (cap - 1)) (rr.map u8v) from by
        have h := rd_drop HR.out (n := 1) (by omega)
        rw [← List.map_drop] at h
        exact h)
      go_wp2_with fail
      go_meet
      exact ⟨w.heap.size, rfl, Nat.le_refl _, by simp, newQ HR4.out, below_alloc w _⟩
  case rest =>
    obtain ⟨r, rfl, hrw, hrW, hq1, hb1⟩ := hcut
    have HQ1 := Lib.hid hq1
    have HB1 := Lib.hid hb1
    have hx0 := HX0.out wc hb1
    have hsz1 := hb1.size
    clear hq1 hb1
    obtain ⟨W1, rfl⟩ : ∃ W1 : World, W1 = wc := ⟨_, rfl⟩
    go_upto_block 0 with (fail)
    go_cut [9] (fun v wx => ∃ (q : Nat) (ps : Row) (left : List Nat) (bad : Bool) (ao : Option Addr) (ac : Nat), v = .slice ao q ac ∧ ps.length = q ∧ q ≤ 65535 ∧ (∀ x ∈ xs ps, OkT nums x) ∧ Far w.heap.size wx (.slice ao q ac) ps ∧ IsQB W1.heap.size wx r left bad ∧ Fin nums 3 rr (c : Int) (xs ps) bad ∧ Below w.heap.size w wx)
    case first =>
      by_cases hcz : c = 0
      · have hczi : ¬ (0 : Int) < (c : Int) := by omega
        have hczb : decide ((0 : Int) < (c : Int)) = false := decide_eq_false hczi
        have HFIN := Lib.hid (c3_zero (nums := nums) (r := rr) (count := (c : Int)) (by omega))
        clear hcz
        go_wp2_with fail
        go_meet
        exact ⟨0, [], rr, false, _, _, rfl, rfl, by omega, (fun x hx => by simp [xs] at hx), far_nil _ _, HQ1.out, HFIN.out, HB1.out⟩
      · have hczi : (0 : Int) < (c : Int) := by omega
        have hczb : decide ((0 : Int) < (c : Int)) = true := decide_eq_true hczi
        have HNQ := Lib.hid (refNumQB_any W1.heap.size r rr false W1 HQ1.out H256.out (by have := HBIG.out; omega))
        have hnlt := numQ_lt rr false
        have hm4 := numQ_mem (bad := false) H256.out
        have hbl4 := numQ_len rr false
        obtain ⟨U, left, bad, hnq⟩ : ∃ N l1 b1, numQ rr false = (N, l1, b1) := ⟨_, _, _, rfl⟩
        rw [hnq] at HNQ hnlt hm4 hbl4
        simp only at hnlt hm4 hbl4
        have HM4 := Lib.hid hm4
        have HNQE := Lib.hid hnq
        have HZ := Lib.hid fun w' => refzag_any U w' hnlt
        have hzI := zag_i64 hnlt
        obtain ⟨z, hz⟩ : ∃ z, z = zagN U := ⟨_, rfl⟩
        rw [← hz] at HZ hzI
        have HZE := Lib.hid hz
        have hbll : left.length ≤ 900000 := by have := HBIG.out; omega
        clear hnq hm4 hz hbl4
        go_wp2_with fail
        refine HNQ.out.mono ?_
        rintro e w2 ⟨rfl, hqb2, hg2⟩
        have HB2 := Lib.hid (show Below w.heap.size w w2 from HB1.out.grown hg2 hsz1 (fun k e => by cases e; exact hrw))
        have HQ2 := Lib.hid hqb2
        have HG2 := Lib.hid hg2
        clear hqb2 hg2 HNQ
        go_wp2_with fail
        refine (HZ.out _).mono ?_
        rintro e w9 ⟨rfl, rfl⟩
        have HBZ := HB2
        obtain ⟨v2, hv2, hr2, hd2⟩ := HQ2.out
        obtain ⟨c0, c1, f0, f1⟩ := isQ_cells hv2
        have hr2k := hr2
        obtain ⟨ao2, cap2, hvs2, _⟩ := hr2k
        rw [List.length_map] at hvs2
        subst hvs2
        obtain ⟨M, hM⟩ : ∃ M, M = left.length := ⟨_, rfl⟩
        rw [← hM] at c0 hr2 hbll
        have HV2 := Lib.hid hv2
        have HR2 := Lib.hid hr2
        have HM := Lib.hid hM
        clear hv2 hr2 hd2 hM
        cases bad with
        | true =>
          have HNT := Lib.hid (c3_not (nums := nums) (count := (c : Int)) (by omega) HNQE.out (.inl rfl))
          clear HZ
          go_wp2_with fail
          go_ret2
          exact ⟨.inr ⟨HNT.out, rfl⟩, HBZ.out⟩
        | false =>
          by_cases hM0 : M = 0
          · have hM0b : ((M : Int) == 0) = true := by rw [beq_iff_eq]; omega
            have HNT := Lib.hid (c3_not (nums := nums) (count := (c : Int)) (by omega) HNQE.out (.inr (.inl (List.length_eq_zero_iff.1 (by rw [← HM.out]; exact hM0)))))
            clear HZ hM0
            go_wp2_with fail
            go_ret2
            exact ⟨.inr ⟨HNT.out, rfl⟩, HBZ.out⟩
          · have hM0b : ((M : Int) == 0) = false := by rw [beq_eq_false_iff_ne]; omega
            have hM0p : (0 : Int) < (M : Int) := by omega
            have hM1 : (1 : Int) ≤ (M : Int) := by omega
            have hM0N : 0 < M := by omega
            have hM1N : 1 ≤ M := by omega
            have hM0n : (0 : Int) ≤ (M : Int) := by omega
            have hM0d : decide ((0 : Int) < (M : Int)) = true := decide_eq_true hM0p
            have hMnz : ¬ (M : Int) = 0 := by omega
            obtain ⟨wd, rest, hwr⟩ : ∃ wd rest, left = wd :: rest := by
              cases left with
              | nil => exact absurd HM.out hM0
              | cons a t => exact ⟨a, t, rfl⟩
            subst hwr
            obtain ⟨b2, off2, rfl, hcell2⟩ := (rd_cells HR2.out).2 (by omega)
            have hcw := hcell2 0 (by omega)
            rw [Nat.add_zero] at hcw
            have hcw2 : w2.cell? ⟨b2, off2, none⟩ = some (.int .u8 (wd : Int)) := hcw
            have hwd256 : wd < 256 := HM4.out wd List.mem_cons_self
            have hwdw : IntKind.i64.wrap (wd : Int) = (wd : Int) := IntWalk.i64_in _ (by omega)
            have hcap2 := rd_cap HR2.out
            have HRM2 := Lib.hid (show rest.length = M - 1 by rw [HM.out, List.length_cons]; rfl)
            clear hcell2 hcw
            by_cases hw64 : 64 < wd
            · have hw64b : decide ((64 : Int) < (wd : Int)) = true := by simp; omega
              have HNT := Lib.hid (c3_not (nums := nums) (count := (c : Int)) (by omega) HNQE.out (.inr (.inr ⟨wd, rest, rfl, .inl hw64⟩)))
              clear HZ hM0
              go_wp2_with fail
              go_ret2
              exact ⟨.inr ⟨HNT.out, rfl⟩, HBZ.out⟩
            · have hw64b : decide ((64 : Int) < (wd : Int)) = false := by simp; omega
              obtain ⟨o, ho⟩ : ∃ o, o = unpackB rest (wd : Nat) (c : Int) := ⟨_, rfl⟩
              have hUN : ∀ (v : Value) (w' : World), Rd w' v (rest.map u8v) → Calls Try.prog 61 #[v, .int .i64 (wd : Int), .int .i64 (c : Int)] w' fun e w'' => ∃ z, e = .returned (.tuple #[z, .bool o.isSome]) ∧ Rd w'' z ((o.getD []).map u64v) ∧ Below w'.heap.size w' w'' := fun v w' h => by
                rw [ho]
                exact refUnpack_any v rest (wd : Int) (c : Int) w' h (fun x hx => HM4.out x (List.mem_cons_of_mem _ hx)) (by have := HRM2.out; omega)
              have HUN := Lib.hid hUN
              have HOE := Lib.hid ho.symm
              clear hUN ho HZ
              obtain ⟨n5, hn5⟩ : ∃ n5, n5 = (o.getD []).length := ⟨_, rfl⟩
              have HN5 := Lib.hid hn5
              clear hn5
              go_upto_region 25 with (fail)
              go_cut [15, 16] (fun d k wx => ∃ ad cd, d = .slice ad n5 cd ∧ k = .bool o.isSome ∧ Rd wx (.slice ad n5 cd) ((o.getD []).map u64v) ∧ Below w2.heap.size w2 wx)
              case first =>
                by_cases hcq : cap2 = 1
                · have hM2 : M = 1 := by omega
                  subst hcq
                  subst hM2
                  have HRT := Lib.hid (show Rd w2 (.slice (some ⟨b2, off2, none⟩) 0 0) (rest.map u8v) from by
                    have : rest = [] := List.length_eq_zero_iff.1 HRM2.out
                    rw [this]
                    exact rd_empty _ _ 0)
                  as_aux_lemma =>
                    have HKP := Lib.hid fun w' (h : Below w2.heap.size w2 w') => (show w'.cell? ⟨r, 0, none⟩ = some (.slice (some ⟨b2, off2, none⟩) 1 1) ∧ w'.cell? ⟨b2, off2, none⟩ = some (.int .u8 (wd : Int)) ∧ Below w2.heap.size w2 w' from ⟨(h.cell (World.block_lt_of_cell? _ _ c0)).trans c0, (h.cell (World.block_lt_of_cell? _ _ hcw2)).trans hcw2, h⟩)
                    have hS := Below.refl w2.heap.size w2
                    refine wp_region_noPanic ?_
                    refine wp_region_held_drew (S := fun w' => w'.cell? ⟨r, 0, none⟩ = some (.slice (some ⟨b2, off2, none⟩) 1 1) ∧ w'.cell? ⟨b2, off2, none⟩ = some (.int .u8 (wd : Int)) ∧ Below w2.heap.size w2 w') (by kernel_rfl) ?hS0 (fun hHeld => ?go0)
                    case' hS0 => ((try dsimp only); first | assumption | exact HKP.out _ (by first | assumption | exact Below.trans (by assumption) (below_drw _ _)))
                    refine wpAnyH_take (i := 0) (v := ?v0) rfl (by kernel_rfl) (by kernel_rfl) (by kernel_rfl) (fun _ _ _ h => h) (Or.inl ⟨by rfl, ?hy0⟩) (by assumption) ?_
                    case' hy0 => (intro w hSw; (try dsimp only at hSw); first | (go_simp; done) | (go_simp; with_reducible rfl))
                    (try simp only [Act.put, List.getElem_toArray, List.getElem_cons_succ, List.getElem_cons_zero, List.setIfInBounds_toArray, List.set_cons_zero, List.set_cons_succ])
                    refine wpAnyH_take (i := 1) (v := ?v1) rfl (by kernel_rfl) (by kernel_rfl) (by kernel_rfl) (fun _ _ _ h => h) (Or.inl ⟨by rfl, ?hy1⟩) (by assumption) ?_
                    case' hy1 => (intro w hSw; (try dsimp only at hSw); first | (go_simp; done) | (go_simp; with_reducible rfl))
                    (try simp only [Act.put, List.getElem_toArray, List.getElem_cons_succ, List.getElem_cons_zero, List.setIfInBounds_toArray, List.set_cons_zero, List.set_cons_succ])
                    refine wpAnyH_take (i := 2) (v := ?v2) rfl (by kernel_rfl) (by kernel_rfl) (by kernel_rfl) (fun _ _ _ h => h) (Or.inl ⟨by rfl, ?hy2⟩) (by assumption) ?_
                    case' hy2 => (intro w hSw; (try dsimp only at hSw); first | (go_simp; done) | (go_simp; with_reducible rfl))
                    (try simp only [Act.put, List.getElem_toArray, List.getElem_cons_succ, List.getElem_cons_zero, List.setIfInBounds_toArray, List.set_cons_zero, List.set_cons_succ])
                    refine wpAnyH_take (i := 3) (v := ?v3) rfl (by kernel_rfl) (by kernel_rfl) (by kernel_rfl) (fun _ _ _ h => h) (Or.inl ⟨by rfl, ?hy3⟩) (by assumption) ?_
                    case' hy3 => (intro w hSw; (try dsimp only at hSw); first | (go_simp; done) | (go_simp; with_reducible rfl))
                    (try simp only [Act.put, List.getElem_toArray, List.getElem_cons_succ, List.getElem_cons_zero, List.setIfInBounds_toArray, List.set_cons_zero, List.set_cons_succ])
                    refine wpAnyH_take (i := 4) (v := ?v4) rfl (by kernel_rfl) (by kernel_rfl) (by kernel_rfl) (fun _ _ _ h => h) (Or.inl ⟨by rfl, ?hy4⟩) (by assumption) ?_
                    case' hy4 => (intro w hSw; (try dsimp only at hSw); first | (go_simp; done) | (go_simp; with_reducible rfl))
                    (try simp only [Act.put, List.getElem_toArray, List.getElem_cons_succ, List.getElem_cons_zero, List.setIfInBounds_toArray, List.set_cons_zero, List.set_cons_succ])
                    refine wpAnyH_take (i := 5) (v := ?v5) rfl (by kernel_rfl) (by kernel_rfl) (by kernel_rfl) (fun _ _ _ h => h) (Or.inl ⟨by rfl, ?hy5⟩) (by assumption) ?_
                    case' hy5 => (intro w hSw; (try dsimp only at hSw); first | (go_simp; done) | (go_simp; with_reducible rfl))
                    (try simp only [Act.put, List.getElem_toArray, List.getElem_cons_succ, List.getElem_cons_zero, List.setIfInBounds_toArray, List.set_cons_zero, List.set_cons_succ])
                    refine wpAnyH_take (i := 6) (v := ?v6) rfl (by kernel_rfl) (by kernel_rfl) (by kernel_rfl) (fun _ _ _ h => h) (Or.inl ⟨by rfl, ?hy6⟩) (by assumption) ?_
                    case' hy6 => (intro w hSw; (try dsimp only at hSw); first | (go_simp; done) | (go_simp; with_reducible rfl))
                    (try simp only [Act.put, List.getElem_toArray, List.getElem_cons_succ, List.getElem_cons_zero, List.setIfInBounds_toArray, List.set_cons_zero, List.set_cons_succ])
                    refine wpAnyH_take (i := 7) (v := ?v7) rfl (by kernel_rfl) (by kernel_rfl) (by kernel_rfl) (fun _ _ _ h => h) (Or.inl ⟨by rfl, ?hy7⟩) (by assumption) ?_
                    case' hy7 => (intro w hSw; (try dsimp only at hSw); first | (go_simp; done) | (go_simp; with_reducible rfl))
                    (try simp only [Act.put, List.getElem_toArray, List.getElem_cons_succ, List.getElem_cons_zero, List.setIfInBounds_toArray, List.set_cons_zero, List.set_cons_succ])
                    refine wpAnyH_take (i := 8) (v := ?v8) rfl (by kernel_rfl) (by kernel_rfl) (by kernel_rfl) (fun _ _ _ h => h) (Or.inl ⟨by rfl, ?hy8⟩) (by assumption) ?_
                    case' hy8 => (intro w hSw; (try dsimp only at hSw); first | (go_simp; done) | (go_simp; with_reducible rfl))
                    (try simp only [Act.put, List.getElem_toArray, List.getElem_cons_succ, List.getElem_cons_zero, List.setIfInBounds_toArray, List.set_cons_zero, List.set_cons_succ])
                    refine wpAnyH_take (i := 9) (v := ?v9) rfl (by kernel_rfl) (by kernel_rfl) (by kernel_rfl) (fun _ _ _ h => h) (Or.inl ⟨by rfl, ?hy9⟩) (by assumption) ?_
                    case' hy9 => (intro w hSw; (try dsimp only at hSw); first | (go_simp; done) | (go_simp; with_reducible rfl))
                    (try simp only [Act.put, List.getElem_toArray, List.getElem_cons_succ, List.getElem_cons_zero, List.setIfInBounds_toArray, List.set_cons_zero, List.set_cons_succ])
                    refine wpAnyH_take (i := 10) (v := ?v10) rfl (by kernel_rfl) (by kernel_rfl) (by kernel_rfl) (fun _ _ _ h => h) (Or.inl ⟨by rfl, ?hy10⟩) (by assumption) ?_
                    case' hy10 => (intro w hSw; (try dsimp only at hSw); first | (go_simp; done) | (go_simp; with_reducible rfl))
                    (try simp only [Act.put, List.getElem_toArray, List.getElem_cons_succ, List.getElem_cons_zero, List.setIfInBounds_toArray, List.set_cons_zero, List.set_cons_succ])
                    refine wpAnyH_take (i := 11) (v := ?v11) rfl (by kernel_rfl) (by kernel_rfl) (by kernel_rfl) (fun _ _ _ h => h) (Or.inl ⟨by rfl, ?hy11⟩) (by assumption) ?_
                    case' hy11 => (intro w hSw; (try dsimp only at hSw); first | (go_simp; done) | (go_simp; with_reducible rfl))
                    (try simp only [Act.put, List.getElem_toArray, List.getElem_cons_succ, List.getElem_cons_zero, List.setIfInBounds_toArray, List.set_cons_zero, List.set_cons_succ])
                    refine wpAnyH_take (i := 12) (v := ?v12) rfl (by kernel_rfl) (by kernel_rfl) (by kernel_rfl) (fun _ _ _ h => h) (Or.inl ⟨by rfl, ?hy12⟩) (by assumption) ?_
                    case' hy12 => (intro w hSw; (try dsimp only at hSw); first | (go_simp; done) | (go_simp; with_reducible rfl))
                    (try simp only [Act.put, List.getElem_toArray, List.getElem_cons_succ, List.getElem_cons_zero, List.setIfInBounds_toArray, List.set_cons_zero, List.set_cons_succ])
                    refine wpAnyH_ready (rs := [13]) (by kernel_rfl) (by simp) ?_
                    refine AllReadyH.cons (o := _) rfl (fun K13 hK13 => ?_) AllReadyH.nil
                    go_simp
                    (go_at_call 61; refine (HUN.out _ _ (HRT.out.kept (by first | assumption | exact Below.trans (by assumption) (below_drw _ _)))).mono ?_; rintro e w5 ⟨va, rfl, hra, hb5⟩; have hS5 : Below w2.heap.size w2 w5 := below_then (by first | assumption | exact Below.trans (by assumption) (below_drw _ _)) hb5; obtain ⟨ad, cd, rfl⟩ := rd_shape1 hra; rw [List.length_map, ← HN5.out] at hra ⊢)
                    refine hK13.out _ _ ?hS13 (fun hHeld13 => ?_)
                    case' hS13 => ((try dsimp only); first | assumption | exact HKP.out _ (by first | assumption | exact Below.trans (by assumption) (below_drw _ _)))
                    clear hK13 K13
                    (try simp only [Act.put, List.getElem_toArray, List.getElem_cons_succ, List.getElem_cons_zero, List.setIfInBounds_toArray, List.set_cons_zero, List.set_cons_succ])
                    refine wpAnyH_take (i := 14) (v := ?v14) rfl (by kernel_rfl) (by kernel_rfl) (by kernel_rfl) (fun _ _ _ h => h) (Or.inl ⟨by rfl, ?hy14⟩) (by assumption) ?_
                    case' hy14 => (intro w hSw; (try dsimp only at hSw); first | (go_simp; done) | (go_simp; with_reducible rfl))
                    (try simp only [Act.put, List.getElem_toArray, List.getElem_cons_succ, List.getElem_cons_zero, List.setIfInBounds_toArray, List.set_cons_zero, List.set_cons_succ])
                    refine wpAnyH_take (i := 15) (v := ?v15) rfl (by kernel_rfl) (by kernel_rfl) (by kernel_rfl) (fun _ _ _ h => h) (Or.inl ⟨by rfl, ?hy15⟩) (by assumption) ?_
                    case' hy15 => (intro w hSw; (try dsimp only at hSw); first | (go_simp; done) | (go_simp; with_reducible rfl))
                    (try simp only [Act.put, List.getElem_toArray, List.getElem_cons_succ, List.getElem_cons_zero, List.setIfInBounds_toArray, List.set_cons_zero, List.set_cons_succ])
                    refine wpAnyH_take (i := 16) (v := ?v16) rfl (by kernel_rfl) (by kernel_rfl) (by kernel_rfl) (fun _ _ _ h => h) (Or.inl ⟨by rfl, ?hy16⟩) (by assumption) ?_
                    case' hy16 => (intro w hSw; (try dsimp only at hSw); first | (go_simp; done) | (go_simp; with_reducible rfl))
                    (try simp only [Act.put, List.getElem_toArray, List.getElem_cons_succ, List.getElem_cons_zero, List.setIfInBounds_toArray, List.set_cons_zero, List.set_cons_succ])
                    refine wpAnyH_take (i := 17) (v := ?v17) rfl (by kernel_rfl) (by kernel_rfl) (by kernel_rfl) (fun _ _ _ h => h) (Or.inl ⟨by rfl, ?hy17⟩) (by assumption) ?_
                    case' hy17 => (intro w hSw; (try dsimp only at hSw); first | (go_simp; done) | (go_simp; with_reducible rfl))
                    (try simp only [Act.put, List.getElem_toArray, List.getElem_cons_succ, List.getElem_cons_zero, List.setIfInBounds_toArray, List.set_cons_zero, List.set_cons_succ])
                    refine wpAnyH_take (i := 18) (v := ?v18) rfl (by kernel_rfl) (by kernel_rfl) (by kernel_rfl) (fun _ _ _ h => h) (Or.inl ⟨by rfl, ?hy18⟩) (by assumption) ?_
                    case' hy18 => (intro w hSw; (try dsimp only at hSw); first | (go_simp; done) | (go_simp; with_reducible rfl))
                    (try simp only [Act.put, List.getElem_toArray, List.getElem_cons_succ, List.getElem_cons_zero, List.setIfInBounds_toArray, List.set_cons_zero, List.set_cons_succ])
                    refine wpAnyH_done (by kernel_rfl) ?_ _
                    refine NoPanic.normal ?_
                    go_wp2_with fail
                    go_meet
                    exact ⟨_, _, rfl, rfl, hra, hS5⟩
                · have hcq2 : ¬ 1 = cap2 := fun h => hcq h.symm
                  have HRT := Lib.hid (show Rd w2 (.slice (some ⟨b2, off2 + 1, none⟩) (M - 1) (cap2 - 1)) (rest.map u8v) from by
                    have h := rd_drop HR2.out (n := 1) (by omega)
                    rw [← List.map_drop] at h
                    exact h)
                  as_aux_lemma =>
                    have HKP := Lib.hid fun w' (h : Below w2.heap.size w2 w') => (show w'.cell? ⟨r, 0, none⟩ = some (.slice (some ⟨b2, off2, none⟩) M cap2) ∧ w'.cell? ⟨b2, off2, none⟩ = some (.int .u8 (wd : Int)) ∧ Below w2.heap.size w2 w' from ⟨(h.cell (World.block_lt_of_cell? _ _ c0)).trans c0, (h.cell (World.block_lt_of_cell? _ _ hcw2)).trans hcw2, h⟩)
                    have hS := Below.refl w2.heap.size w2
                    refine wp_region_noPanic ?_
                    refine wp_region_held_drew (S := fun w' => w'.cell? ⟨r, 0, none⟩ = some (.slice (some ⟨b2, off2, none⟩) M cap2) ∧ w'.cell? ⟨b2, off2, none⟩ = some (.int .u8 (wd : Int)) ∧ Below w2.heap.size w2 w') (by kernel_rfl) ?hT0 (fun hHeld => ?gp0)
                    case' hT0 => ((try dsimp only); first | assumption | exact HKP.out _ (by first | assumption | exact Below.trans (by assumption) (below_drw _ _)))
                    refine wpAnyH_take (i := 0) (v := ?vv0) rfl (by kernel_rfl) (by kernel_rfl) (by kernel_rfl) (fun _ _ _ h => h) (Or.inl ⟨by rfl, ?hz0⟩) (by assumption) ?_
                    case' hz0 => (intro w hSw; (try dsimp only at hSw); first | (go_simp; done) | (go_simp; with_reducible rfl))
                    (try simp only [Act.put, List.getElem_toArray, List.getElem_cons_succ, List.getElem_cons_zero, List.setIfInBounds_toArray, List.set_cons_zero, List.set_cons_succ])
                    refine wpAnyH_take (i := 1) (v := ?vv1) rfl (by kernel_rfl) (by kernel_rfl) (by kernel_rfl) (fun _ _ _ h => h) (Or.inl ⟨by rfl, ?hz1⟩) (by assumption) ?_
                    case' hz1 => (intro w hSw; (try dsimp only at hSw); first | (go_simp; done) | (go_simp; with_reducible rfl))
                    (try simp only [Act.put, List.getElem_toArray, List.getElem_cons_succ, List.getElem_cons_zero, List.setIfInBounds_toArray, List.set_cons_zero, List.set_cons_succ])
                    refine wpAnyH_take (i := 2) (v := ?vv2) rfl (by kernel_rfl) (by kernel_rfl) (by kernel_rfl) (fun _ _ _ h => h) (Or.inl ⟨by rfl, ?hz2⟩) (by assumption) ?_
                    case' hz2 => (intro w hSw; (try dsimp only at hSw); first | (go_simp; done) | (go_simp; with_reducible rfl))
                    (try simp only [Act.put, List.getElem_toArray, List.getElem_cons_succ, List.getElem_cons_zero, List.setIfInBounds_toArray, List.set_cons_zero, List.set_cons_succ])
                    refine wpAnyH_take (i := 3) (v := ?vv3) rfl (by kernel_rfl) (by kernel_rfl) (by kernel_rfl) (fun _ _ _ h => h) (Or.inl ⟨by rfl, ?hz3⟩) (by assumption) ?_
                    case' hz3 => (intro w hSw; (try dsimp only at hSw); first | (go_simp; done) | (go_simp; with_reducible rfl))
                    (try simp only [Act.put, List.getElem_toArray, List.getElem_cons_succ, List.getElem_cons_zero, List.setIfInBounds_toArray, List.set_cons_zero, List.set_cons_succ])
                    refine wpAnyH_take (i := 4) (v := ?vv4) rfl (by kernel_rfl) (by kernel_rfl) (by kernel_rfl) (fun _ _ _ h => h) (Or.inl ⟨by rfl, ?hz4⟩) (by assumption) ?_
                    case' hz4 => (intro w hSw; (try dsimp only at hSw); first | (go_simp; done) | (go_simp; with_reducible rfl))
                    (try simp only [Act.put, List.getElem_toArray, List.getElem_cons_succ, List.getElem_cons_zero, List.setIfInBounds_toArray, List.set_cons_zero, List.set_cons_succ])
                    refine wpAnyH_take (i := 5) (v := ?vv5) rfl (by kernel_rfl) (by kernel_rfl) (by kernel_rfl) (fun _ _ _ h => h) (Or.inl ⟨by rfl, ?hz5⟩) (by assumption) ?_
                    case' hz5 => (intro w hSw; (try dsimp only at hSw); first | (go_simp; done) | (go_simp; with_reducible rfl))
                    (try simp only [Act.put, List.getElem_toArray, List.getElem_cons_succ, List.getElem_cons_zero, List.setIfInBounds_toArray, List.set_cons_zero, List.set_cons_succ])
                    refine wpAnyH_take (i := 6) (v := ?vv6) rfl (by kernel_rfl) (by kernel_rfl) (by kernel_rfl) (fun _ _ _ h => h) (Or.inl ⟨by rfl, ?hz6⟩) (by assumption) ?_
                    case' hz6 => (intro w hSw; (try dsimp only at hSw); first | (go_simp; done) | (go_simp; with_reducible rfl))
                    (try simp only [Act.put, List.getElem_toArray, List.getElem_cons_succ, List.getElem_cons_zero, List.setIfInBounds_toArray, List.set_cons_zero, List.set_cons_succ])
                    refine wpAnyH_take (i := 7) (v := ?vv7) rfl (by kernel_rfl) (by kernel_rfl) (by kernel_rfl) (fun _ _ _ h => h) (Or.inl ⟨by rfl, ?hz7⟩) (by assumption) ?_
                    case' hz7 => (intro w hSw; (try dsimp only at hSw); first | (go_simp; done) | (go_simp; with_reducible rfl))
                    (try simp only [Act.put, List.getElem_toArray, List.getElem_cons_succ, List.getElem_cons_zero, List.setIfInBounds_toArray, List.set_cons_zero, List.set_cons_succ])
                    refine wpAnyH_take (i := 8) (v := ?vv8) rfl (by kernel_rfl) (by kernel_rfl) (by kernel_rfl) (fun _ _ _ h => h) (Or.inl ⟨by rfl, ?hz8⟩) (by assumption) ?_
                    case' hz8 => (intro w hSw; (try dsimp only at hSw); first | (go_simp; done) | (go_simp; with_reducible rfl))
                    (try simp only [Act.put, List.getElem_toArray, List.getElem_cons_succ, List.getElem_cons_zero, List.setIfInBounds_toArray, List.set_cons_zero, List.set_cons_succ])
                    refine wpAnyH_take (i := 9) (v := ?vv9) rfl (by kernel_rfl) (by kernel_rfl) (by kernel_rfl) (fun _ _ _ h => h) (Or.inl ⟨by rfl, ?hz9⟩) (by assumption) ?_
                    case' hz9 => (intro w hSw; (try dsimp only at hSw); first | (go_simp; done) | (go_simp; with_reducible rfl))
                    (try simp only [Act.put, List.getElem_toArray, List.getElem_cons_succ, List.getElem_cons_zero, List.setIfInBounds_toArray, List.set_cons_zero, List.set_cons_succ])
                    refine wpAnyH_take (i := 10) (v := ?vv10) rfl (by kernel_rfl) (by kernel_rfl) (by kernel_rfl) (fun _ _ _ h => h) (Or.inl ⟨by rfl, ?hz10⟩) (by assumption) ?_
                    case' hz10 => (intro w hSw; (try dsimp only at hSw); first | (go_simp; done) | (go_simp; with_reducible rfl))
                    (try simp only [Act.put, List.getElem_toArray, List.getElem_cons_succ, List.getElem_cons_zero, List.setIfInBounds_toArray, List.set_cons_zero, List.set_cons_succ])
                    refine wpAnyH_take (i := 11) (v := ?vv11) rfl (by kernel_rfl) (by kernel_rfl) (by kernel_rfl) (fun _ _ _ h => h) (Or.inl ⟨by rfl, ?hz11⟩) (by assumption) ?_
                    case' hz11 => (intro w hSw; (try dsimp only at hSw); first | (go_simp; done) | (go_simp; with_reducible rfl))
                    (try simp only [Act.put, List.getElem_toArray, List.getElem_cons_succ, List.getElem_cons_zero, List.setIfInBounds_toArray, List.set_cons_zero, List.set_cons_succ])
                    refine wpAnyH_take (i := 12) (v := ?vv12) rfl (by kernel_rfl) (by kernel_rfl) (by kernel_rfl) (fun _ _ _ h => h) (Or.inl ⟨by rfl, ?hz12⟩) (by assumption) ?_
                    case' hz12 => (intro w hSw; (try dsimp only at hSw); first | (go_simp; done) | (go_simp; with_reducible rfl))
                    (try simp only [Act.put, List.getElem_toArray, List.getElem_cons_succ, List.getElem_cons_zero, List.setIfInBounds_toArray, List.set_cons_zero, List.set_cons_succ])
                    refine wpAnyH_ready (rs := [13]) (by kernel_rfl) (by simp) ?_
                    refine AllReadyH.cons (o := _) rfl (fun K13 hK13 => ?_) AllReadyH.nil
                    go_simp
                    (go_at_call 61; refine (HUN.out _ _ (HRT.out.kept (by first | assumption | exact Below.trans (by assumption) (below_drw _ _)))).mono ?_; rintro e w5 ⟨va, rfl, hra, hb5⟩; have hS5 : Below w2.heap.size w2 w5 := below_then (by first | assumption | exact Below.trans (by assumption) (below_drw _ _)) hb5; obtain ⟨ad, cd, rfl⟩ := rd_shape1 hra; rw [List.length_map, ← HN5.out] at hra ⊢)
                    refine hK13.out _ _ ?hT13 (fun hHeld13 => ?_)
                    case' hT13 => ((try dsimp only); first | assumption | exact HKP.out _ (by first | assumption | exact Below.trans (by assumption) (below_drw _ _)))
                    clear hK13 K13
                    (try simp only [Act.put, List.getElem_toArray, List.getElem_cons_succ, List.getElem_cons_zero, List.setIfInBounds_toArray, List.set_cons_zero, List.set_cons_succ])
                    refine wpAnyH_take (i := 14) (v := ?vv14) rfl (by kernel_rfl) (by kernel_rfl) (by kernel_rfl) (fun _ _ _ h => h) (Or.inl ⟨by rfl, ?hz14⟩) (by assumption) ?_
                    case' hz14 => (intro w hSw; (try dsimp only at hSw); first | (go_simp; done) | (go_simp; with_reducible rfl))
                    (try simp only [Act.put, List.getElem_toArray, List.getElem_cons_succ, List.getElem_cons_zero, List.setIfInBounds_toArray, List.set_cons_zero, List.set_cons_succ])
                    refine wpAnyH_take (i := 15) (v := ?vv15) rfl (by kernel_rfl) (by kernel_rfl) (by kernel_rfl) (fun _ _ _ h => h) (Or.inl ⟨by rfl, ?hz15⟩) (by assumption) ?_
                    case' hz15 => (intro w hSw; (try dsimp only at hSw); first | (go_simp; done) | (go_simp; with_reducible rfl))
                    (try simp only [Act.put, List.getElem_toArray, List.getElem_cons_succ, List.getElem_cons_zero, List.setIfInBounds_toArray, List.set_cons_zero, List.set_cons_succ])
                    refine wpAnyH_take (i := 16) (v := ?vv16) rfl (by kernel_rfl) (by kernel_rfl) (by kernel_rfl) (fun _ _ _ h => h) (Or.inl ⟨by rfl, ?hz16⟩) (by assumption) ?_
                    case' hz16 => (intro w hSw; (try dsimp only at hSw); first | (go_simp; done) | (go_simp; with_reducible rfl))
                    (try simp only [Act.put, List.getElem_toArray, List.getElem_cons_succ, List.getElem_cons_zero, List.setIfInBounds_toArray, List.set_cons_zero, List.set_cons_succ])
                    refine wpAnyH_take (i := 17) (v := ?vv17) rfl (by kernel_rfl) (by kernel_rfl) (by kernel_rfl) (fun _ _ _ h => h) (Or.inl ⟨by rfl, ?hz17⟩) (by assumption) ?_
                    case' hz17 => (intro w hSw; (try dsimp only at hSw); first | (go_simp; done) | (go_simp; with_reducible rfl))
                    (try simp only [Act.put, List.getElem_toArray, List.getElem_cons_succ, List.getElem_cons_zero, List.setIfInBounds_toArray, List.set_cons_zero, List.set_cons_succ])
                    refine wpAnyH_take (i := 18) (v := ?vv18) rfl (by kernel_rfl) (by kernel_rfl) (by kernel_rfl) (fun _ _ _ h => h) (Or.inl ⟨by rfl, ?hz18⟩) (by assumption) ?_
                    case' hz18 => (intro w hSw; (try dsimp only at hSw); first | (go_simp; done) | (go_simp; with_reducible rfl))
                    (try simp only [Act.put, List.getElem_toArray, List.getElem_cons_succ, List.getElem_cons_zero, List.setIfInBounds_toArray, List.set_cons_zero, List.set_cons_succ])
                    refine wpAnyH_done (by kernel_rfl) ?_ _
                    refine NoPanic.normal ?_
                    go_wp2_with fail
                    go_meet
                    exact ⟨_, _, rfl, rfl, hra, hS5⟩
              case rest =>
                obtain ⟨ad, cd, rfl, rfl, hrd, hb5⟩ := hcut
                have HB5 := Lib.hid (show Below w.heap.size w wc from HB2.out.trans (hb5.mono HB2.out.size))
                have HRD := Lib.hid hrd
                have HB25 := Lib.hid hb5
                clear hrd hb5
                obtain ⟨ob, hob⟩ : ∃ ob, ob = o.isSome := ⟨_, rfl⟩
                rw [← hob]
                cases o with
                | none =>
                  obtain rfl : ob = false := hob
                  have HNT := Lib.hid (c3_not (nums := nums) (count := (c : Int)) (by omega) HNQE.out (.inr (.inr ⟨wd, rest, rfl, .inr HOE.out⟩)))
                  go_wp2_with fail
                  go_ret2
                  exact ⟨.inr ⟨HNT.out, rfl⟩, HB5.out⟩
                | some us =>
                 obtain rfl : ob = true := hob
                 as_aux_lemma =>
                  have hul := (unpackB_len HOE.out).1
                  rw [Int.toNat_natCast] at hul
                  obtain rfl : c = n5 := by rw [HN5.out]; exact hul.symm
                  have HRU := Lib.hid (show Rd wc (.slice ad c cd) (us.map u64v) from HRD.out)
                  have HUL := Lib.hid hul
                  have HQ5 := Lib.hid (HQ2.out.kept HB25.out hrW)
                  have hsz1 := HB5.out.size
                  clear HRD hul
                  go_wp2_with fail
                  go_loopw [9, 17] (fun v i wr => ∃ (q : Nat) (ps : Row), q ≤ c ∧ i = .int .i64 (q : Int) ∧ ps.length = q ∧ xs ps = (us.take q).map (fun d => textT (addW z d)) ∧ Far wc.heap.size wr v ps ∧ Below wc.heap.size wc wr) (fun _ i _ => c - (intOf i).toNat)
                  case atStart => exact ⟨0, [], Nat.zero_le _, rfl, rfl, rfl, far_nil _ _, Below.refl _ _⟩
                  case round =>
                    obtain ⟨q, ps, hq, rfl, hpl, hxs, hfar, hbel⟩ := hrel
                    obtain ⟨ao, ac, rfl⟩ := hfar.row.shape
                    rw [hpl] at hfar ⊢
                    have HLEN := Lib.hid hpl
                    have HXS := Lib.hid hxs
                    have HO := Lib.hid hfar
                    have HBL := Lib.hid hbel
                    have hq0 : (0 : Int) ≤ (q : Int) := by omega
                    clear hpl hxs hfar hbel
                    by_cases hlt : q < c
                    · have hlti : (q : Int) < (c : Int) := by omega
                      obtain ⟨b6, off6, rfl, hc6⟩ := (rd_u64_cells (HRU.out.kept HBL.out)).2 (by omega)
                      have hx6 := hc6 q hlt
                      obtain ⟨d, hd⟩ : ∃ d, d = us.getD q 0 := ⟨_, rfl⟩
                      have hat : us[q]? = some d := by
                        rw [hd, List.getD_eq_getElem?_getD, List.getElem?_eq_getElem (by rw [HUL.out]; exact hlt)]
                        rfl
                      rw [← hd] at hx6
                      have HAT := Lib.hid hat
                      have hZI := addW_i64 z d
                      obtain ⟨Z, hZ⟩ : ∃ Z, Z = addW z d := ⟨_, rfl⟩
                      have HZD := Lib.hid hZ
                      unfold addW at hZ
                      obtain ⟨A, hA⟩ : ∃ A, IntKind.u64.wrap z = A := ⟨_, rfl⟩
                      rw [hA] at hZ
                      obtain ⟨S, hS⟩ : ∃ S, IntKind.u64.wrap (A + (d : Int)) = S := ⟨_, rfl⟩
                      rw [hS] at hZ
                      have hZ2 : IntKind.i64.wrap S = Z := hZ.symm
                      rw [← HZD.out] at hZI
                      have HI := Lib.hid hZI
                      clear hc6 hd hat hZI hZ
                      obtain ⟨W3, hW3⟩ : ∃ W3 : World, W3 = wr.alloc (.cells #[.int .i64 Z] 2) := ⟨_, rfl⟩
                      have HB3 := Lib.hid (show Below wr.heap.size wr W3 from by rw [hW3]; exact below_alloc wr _)
                      have HX := Lib.hid (textsE_any [Z] (.slice (some ⟨wr.heap.size, 0, none⟩) 1 1) W3 (fun n hn => by rw [List.mem_singleton.1 hn]; exact HI.out) (show (1 : Nat) ≤ 100000 by decide) (by rw [hW3]; exact rd_lit wr #[.int .i64 Z] 2 1 _ rfl rfl (by decide)))
                      have HW3 := Lib.hid hW3
                      clear hW3
                      go_wp2_with fail
                      rw [← HW3.out]
                      refine HX.out.mono ?_
                      rintro e w4 ⟨v4, rfl, ps4, hown4, hxs4, hb4⟩
                      have hpl4 : ps4.length = 1 := by rw [← len_xs, hxs4]; rfl
                      obtain ⟨u, x, rfl⟩ : ∃ u x, ps4 = [(u, x)] := by
                        match ps4, hpl4 with
                        | [(u, x)], _ => exact ⟨u, x, rfl⟩
                      have hx : x = textT Z := by simpa [xs, TX] using hxs4
                      have HXZ := Lib.hid hx
                      obtain ⟨a4, c4, rfl⟩ := hown4.row.shape
                      have hl1 : List.length [(u, x)] = 1 := rfl
                      have hu4 : OwnB W3.heap.size w4 u x := hown4.els (u, x) List.mem_cons_self
                      obtain ⟨b4, off4, rfl, hcell4⟩ := (rdv_cells (show Rd w4 (.slice a4 1 c4) (vs [(u, x)]) from hown4.row.rd)).2 (by decide)
                      have hc4 : w4.cell? ⟨b4, off4, none⟩ = some u := by have h := hcell4 0 (u, x) rfl; rw [Nat.add_zero] at h; exact h
                      have HB4 := Lib.hid (show Below wr.heap.size wr w4 from HB3.out.trans (hb4.mono HB3.out.size))
                      have HU := Lib.hid (show OwnB wr.heap.size w4 u x from own_mono hu4 HB3.out.size)
                      rw [hl1]
                      obtain ⟨ua, uc, rfl⟩ := hu4.shape
                      have HF4 := Lib.hid (HO.out.kept HB4.out)
                      have hsz3 : wc.heap.size ≤ w4.heap.size := Nat.le_trans HBL.out.size HB4.out.size
                      clear hown4 hxs4 hb4 hpl4 hcell4 hl1 hx hu4 HX
                      have HOA := Lib.hid (show (w4.alloc (.cells #[.slice ua (List.length x) uc] 24)).ownsRow wc.heap.size 24 1 (.slice ao q ac) q (vs ps) from by have h := World.ownsRow.alloc HF4.out.row (.cells #[.slice ua (List.length x) uc] 24); rw [HLEN.out] at h; exact h)
                      have HLT := Lib.hid (rdS_lit w4 #[.slice ua (List.length x) uc] 24 1 rfl)
                      have hszB : wc.heap.size ≤ (w4.alloc (.cells #[.slice ua (List.length x) uc] 24)).heap.size := le_alloc0 hsz3 _
                      have HONE := Lib.hid (ones_one (.slice ua (List.length x) uc) rfl)
                      go_wp2_with (at_builtin; go_must (refine wpList_append_k elmR rfl _ _ rfl wc.heap.size _ _ _ rfl HOA.out _ [[.slice ua (List.length x) uc]] rfl HLT.out HONE.out (by simp; omega) hszB (q + 1) rfl ?_); intro ao9 cap9 w9 hown9 hgrow9 hnew9; have HO9 := Lib.hid hown9; have HG9 := Lib.hid hgrow9; have HN9 := Lib.hid hnew9; clear hown9 hgrow9 hnew9)
                      clear hA hS hZ2 hc4 hx6
                      go_roundw
                      case rel =>
                        have hg9 : w4.grownBy w9 (Value.slice ao q ac).ownBlock := grown_trans (grownBy_any (World.grownBy_alloc w4 _ none)) HG9.out
                        have hrow := ownR_base HF4.out.row
                        have hrow0 : wr.ownsRow wc.heap.size 24 1 (.slice ao q ac) q (vs ps) := by have h := HO.out.row; unfold OwnR at h; rw [HLEN.out] at h; exact h
                        refine ⟨q + 1, ps ++ [(.slice ua (List.length x) uc, x)], by omega, by go_num, by rw [List.length_append, HLEN.out]; rfl, ?_, Far.snoc HF4.out (Below.refl _ _) (far_own hrow0 HU.out) ?_ hg9 ?_, below_ownB (HBL.out.trans (HB4.out.mono HBL.out.size)) hsz3 hg9 hrow⟩
                        · rw [xs_snoc, HXS.out, List.take_add_one, HAT.out, HXZ.out, HZD.out]
                          simp
                        · rw [HLEN.out]
                          have h := HO9.out
                          simpa using h
                        · intro k hk
                          rcases HN9.out k hk with h | h
                          · exact .inl h
                          · right; rw [h]; simp
                      case measure => simp [intOf]; omega
                    · have hqc : q = c := by omega
                      have hlti : ¬ (q : Int) < (c : Int) := by omega
                      have HFIN := Lib.hid (show Fin nums 3 rr (c : Int) (xs ps) false from by
                        rw [HXS.out, hqc, List.take_of_length_le (by rw [HUL.out]; exact Nat.le_refl _), HZE.out]
                        exact c3_end (by omega) HNQE.out HOE.out)
                      have HOK := Lib.hid (show ∀ x ∈ xs ps, OkT nums x from fun x hx => by
                        rw [HXS.out] at hx
                        obtain ⟨d, _, rfl⟩ := List.mem_map.1 hx
                        exact okT_text nums (addW_i64 z d))
                      have HQT := Lib.hid (HQ5.out.kept HBL.out hrW)
                      have HBZ := Lib.hid (show Below w.heap.size w wr from HB5.out.trans (HBL.out.mono HB5.out.size))
                      have HFZ := Lib.hid (far_mono HO.out hsz1)
                      clear hqc
                      go_wp2_with fail
                      go_meet
                      exact ⟨q, ps, _, _, _, _, rfl, HLEN.out, by omega, HOK.out, HFZ.out, HQT.out, HFIN.out, HBZ.out⟩
    case rest =>
      obtain ⟨q, ps, left, bad, ao, ac, rfl, hlen, hq65, hok, hfar, hqb, hfin, hbw⟩ := hcut
      have HLEN := Lib.hid hlen
      have HOK := Lib.hid hok
      have HO := Lib.hid hfar
      have HQT := Lib.hid hqb
      have HFIN := Lib.hid hfin
      have HBX := Lib.hid hbw
      have hq0 : (0 : Int) ≤ (q : Int) := by omega
      have hrw1 := hrw
      clear hlen hok hfar hqb hfin hbw hx0
      as_aux_lemma =>
        have HF := Lib.hid (far_mono HO.out (show w.heap.size ≤ w.heap.size from Nat.le_refl _))
        have HBW := Lib.hid (show Below w.heap.size w wc from HBX.out)
        have HTL := Lib.hid (rtell_any nums 3 ps (.slice ao q ac) wc HOK.out HF.out.row.rd HF.out.els)
        obtain ⟨o, ho⟩ : ∃ o, o = gTell nums ((3 : Nat) : Int) (xs ps) := ⟨_, rfl⟩
        have HTL2 : Hid (Calls Try.prog 24 #[.int .i64 3, .slice ao q ac, .bool nums] wc fun e w' => RetTell wc.heap.size o e w' ∧ Below wc.heap.size wc w') := Lib.hid (by rw [ho]; exact HTL.out)
        have HOE := Lib.hid ho.symm
        have hx0 := HX0.out wc HBW.out
        clear ho HTL
        go_wp2_with fail
        refine HTL2.out.mono ?_
        rintro e w3 ⟨hret, hb3⟩
        have HB3 := Lib.hid (show Below w.heap.size w w3 from HBW.out.trans (hb3.mono HBW.out.size))
        have HF3 := Lib.hid (HF.out.kept hb3)
        obtain ⟨vq3, hvq3, _⟩ := HQT.out.kept hb3 hrW
        obtain ⟨_, hcb3, _, _⟩ := isQ_cells hvq3
        clear hvq3 hx0 HTL2
        try clear hcb
        cases o with
        | none =>
          obtain rfl : e = _ := hret
          have HNT := Lib.hid (fin_none HFIN.out HOE.out)
          clear hb3
          cases bad with
          | true =>
            go_wp2_with fail
            go_ret2
            exact ⟨.inr ⟨HNT.out, rfl⟩, HB3.out⟩
          | false =>
            go_wp2_with fail
            go_ret2
            exact ⟨.inr ⟨HNT.out, rfl⟩, HB3.out⟩
        | some bs =>
          obtain ⟨vt, rfl, hown3⟩ := hret
          cases bad with
          | true =>
            have HNT := Lib.hid (fin_bad HFIN.out rfl)
            clear hb3 hown3
            go_wp2_with fail
            go_ret2
            exact ⟨.inr ⟨HNT.out, rfl⟩, HB3.out⟩
          | false =>
            by_cases hqc2 : (q : Int) = (c : Int)
            · have hqcb : ((q : Int) == (c : Int)) = true := beq_iff_eq.2 hqc2
              have hqcn : ((q : Int) != (c : Int)) = false := by unfold bne; rw [hqcb]; rfl
              have h8 := gTell_lt HOE.out HOK.out
              obtain ⟨at3, ct3, rfl⟩ := hown3.shape
              have hrt := OwnB.rd hown3
              obtain ⟨m3, hm3⟩ : ∃ m3, m3 = bs.length := ⟨_, rfl⟩
              rw [← hm3] at hrt hown3 ⊢
              have hcv := run_str (P := Try.prog) w3 24 9 5 Try.underlying24 Try.underlying5 Try.underlying9 hrt (lt256 _ h8)
              have hrb := HR.out.kept HB3.out
              have hk8 : ∀ x ∈ 3 :: rr, x < 256 := fun x hx => by
                rcases List.mem_cons.1 hx with rfl | hx
                · first | decide | omega
                · exact H256.out x hx
              have hcw := run_str (P := Try.prog) w3 24 9 5 Try.underlying24 Try.underlying5 Try.underlying9 hrb (lt256 _ hk8)
              have HLQ := Lib.hid (show ((xs ps).length : Int) = (c : Int) from by rw [len_xs, HLEN.out]; exact hqc2)
              clear hqc2
              by_cases heq : bs = 3 :: rr
              · have hcm : ((strOf bs).toList == (strOf (3 :: rr)).toList) = true := by rw [heq]; exact beq_self_eq_true _
                have hcm2 : ((strOf bs).toList != (strOf (3 :: rr)).toList) = false := by unfold bne; rw [hcm]; rfl
                have HT := Lib.hid (fin_yes HOE.out HLQ.out HOK.out heq)
                have HSH := Lib.hid (refshort_any ps (.slice ao q ac) w3 (by rw [HLEN.out]; omega) HF3.out.row.rd HF3.out.els)
                have hall : ((xs ps).all fun x => decide (x.length ≤ 64)) = true := by
                  rw [List.all_eq_true]
                  intro x hx
                  rw [decide_eq_true_iff]
                  exact (HOK.out x hx).2.1
                rw [hall] at HSH
                clear hb3 hown3 hrt hrb hk8 h8 heq hm3 hall
                cases nums with
                | true =>
                  go_wp2_with fail
                  go_ret2
                  exact ⟨.inl ⟨_, HT.out, _, ps, rfl, HF3.out, rfl⟩, HB3.out⟩
                | false =>
                  go_wp2_with fail
                  refine HSH.out.mono ?_
                  rintro e w4 ⟨rfl, rfl⟩
                  go_wp2_with fail
                  go_ret2
                  exact ⟨.inl ⟨_, HT.out, _, ps, rfl, HF3.out, rfl⟩, HB3.out⟩
              · have hcm := strOf_inj h8 hk8 heq
                have hcm2 : (!((strOf bs).toList == (strOf (3 :: rr)).toList)) = true := by rw [hcm]; rfl
                have hcm3 : ((strOf bs).toList != (strOf (3 :: rr)).toList) = true := hcm2
                have HNT := Lib.hid (fin_un HFIN.out HOE.out heq)
                clear hb3 hown3 hrt hrb hk8 h8 heq hm3
                go_wp2_with fail
                go_ret2
                exact ⟨.inr ⟨HNT.out, rfl⟩, HB3.out⟩
            · have hqcb : ((q : Int) == (c : Int)) = false := beq_eq_false_iff_ne.2 hqc2
              have hqcn : ((q : Int) != (c : Int)) = true := by unfold bne; rw [hqcb]; rfl
              have HNT := Lib.hid (fin_len HFIN.out (by rw [len_xs, HLEN.out]; exact hqc2))
              clear hb3 hown3 hqc2
              go_wp2_with fail
              go_ret2
              exact ⟨.inr ⟨HNT.out, rfl⟩, HB3.out⟩


end Go.Proofs.Ytjcmekhamohbnaa.Bc
