/-
  The walk of BcolBack.
-/
import Derived.Test.YteloepccjoikdaaBcs
import Derived.Test.YteloepccjoikdaaAwake5
import Derived.Test.YteloepccjoikdaaLone
import Derived.Deep.RegionHeld3
namespace Go.Proofs.Yteloepccjoikdaa.Bc
set_option linter.unusedVariables false
set_option linter.unusedSimpArgs false
open Go.RowKit

def kf : Nat → Nat
  | 0 => 1
  | 1 => 2
  | _ => 4
theorem kf_in : ∀ r, r < 3 → 1 ≤ kf r ∧ kf r ≤ 4 ∧ kf r ≠ 3 := by decide
theorem three_at (w w' : World) (h : Below (w.heap.size + 1) (w.alloc (.cells #[.int .i64 1, .int .i64 2, .int .i64 4] 3)) w') : ∀ p, p < 3 → w'.cell? ⟨w.heap.size, p, none⟩ = some (.int .i64 (kf p : Nat)) := by
  intro p hp
  have hz := heap_alloc_new w (.cells #[.int .i64 1, .int .i64 2, .int .i64 4] 3)
  have h1 : w'.heap[w.heap.size]? = some (.cells #[.int .i64 1, .int .i64 2, .int .i64 4] 3 (0, 0)) := (h.block _ (by omega)).trans hz
  rw [cell_of_row w' w.heap.size p _ _ _ h1]
  rcases (by omega : p = 0 ∨ p = 1 ∨ p = 2) with rfl | rfl | rfl <;> rfl

set_option maxRecDepth 100000 in
set_option maxHeartbeats 8000000 in
theorem walk_BcolBack (a0 : Option Addr) (len0 cap0 : Nat) (pr : Row) (a1 : Option Addr) (len1 cap1 : Nat) (z1 : List Int) (a2 : Int) (w : World) (w0a : pr.length = len0) (w0b : Rd w (.slice a0 len0 cap0) (vs pr)) (w0c : Els w pr) (w0d : ∀ y ∈ xs pr, ∀ a ∈ y, a < 256) (w1 : IsRow .i64 w a1 len1 cap1 z1) (w2 : (Lit.int .i64 a2).wf = true) :
    Calls Try.prog 12 #[.slice a0 len0 cap0, .slice a1 len1 cap1, .int .i64 a2] w fun e w' => e = .returned (.bool true) ∧ Below w.heap.size w w' := by
  obtain ⟨la, hla, h1, h2⟩ := isRow_rd w1
  have HC := Lib.hid (column_any pr a0 len0 cap0 la a1 len1 cap1 a2 w w0a w0b w0c w0d hla h1)
  clear hla h1 h2 w0a w0b w0c w0d w1 w2
  go_enter Try.func12, Try.ntmps12
  go_wp2_with fail
  refine HC.out.mono ?_
  rintro e x1 ⟨v1, rfl, ps, hfar1, hxl, hx8, hb1⟩
  obtain ⟨ao, cap, rfl⟩ := hfar1.row.shape
  obtain ⟨q, hq⟩ : ∃ q, q = ps.length := ⟨_, rfl⟩
  have HPL := Lib.hid (show ps.length = q from hq.symm)
  have HX8 := Lib.hid hx8
  have HR1 := Lib.hid hfar1.row.rd
  have HE1 := Lib.hid hfar1.els
  rw [← hq] at HR1 hxl ⊢
  have HB1 := Lib.hid hb1
  clear HC hq hx8 hfar1 hb1
  go_wp2_with fail
  go_loopw [28] (fun i wr => ∃ p : Nat, p ≤ q ∧ i = .int .i64 (p : Int) ∧ (∀ y ∈ (xs ps).take p, y.length ≤ 64) ∧ Below x1.heap.size x1 wr) (fun i _ => q - (intOf i).toNat)
  case atStart => exact ⟨0, Nat.zero_le _, rfl, (fun y hy => by simp at hy), Below.refl _ _⟩
  case round =>
    obtain ⟨p, hp, rfl, hfit, hbel⟩ := hrel
    have HFT := Lib.hid hfit
    have HBL := Lib.hid hbel
    clear hfit hbel
    by_cases hpq : p < q
    · have hpqi : (p : Int) < (q : Int) := by omega
      have hp0 : (0 : Int) ≤ (p : Int) := by omega
      obtain ⟨b, off, rfl, hcell⟩ := (rdv_cells (HR1.out.kept HBL.out)).2 (by omega)
      obtain ⟨ya, yc, y, hy, hye⟩ := row_at HE1.out (q := p) (by rw [HPL.out]; exact hpq)
      have hx : wr.cell? ⟨b, off + p, none⟩ = some (.slice ya (List.length y) yc) := hcell p _ hy
      have HTK := Lib.hid (take_xs hy)
      obtain ⟨n, hn⟩ : ∃ n, n = List.length y := ⟨_, rfl⟩
      rw [← hn] at hx
      have HNN := Lib.hid hn
      clear hcell hy hye hn
      by_cases hbig : 64 < n
      · have hbi : (64 : Int) < (n : Int) := by omega
        have HAW := Lib.hid (awake5_any wr)
        go_wp2_with fail
        refine HAW.out.mono ?_
        rintro e y2 ⟨rfl, hb2⟩
        have HY2 := Lib.hid (below_then HBL.out hb2)
        clear hb2
        go_wp2_with fail
        go_ret
        exact ⟨rfl, HB1.out.trans (HY2.out.mono HB1.out.size)⟩
      · have hbi : ¬ (64 : Int) < (n : Int) := by omega
        go_wp2_with fail
        go_roundw
        case rel =>
          refine ⟨p + 1, by omega, by go_num, fun z hz => ?_, HBL.out⟩
          rw [HTK.out] at hz
          rcases List.mem_append.1 hz with h | h
          · exact HFT.out z h
          · have h2 : z = y := List.mem_singleton.1 h
            rw [h2, ← HNN.out]
            omega
        case measure => simp [intOf]; omega
    · have hpq2 : p = q := by omega
      subst hpq2
      have hpqi : ¬ (p : Int) < (p : Int) := by omega
      have HXI := Lib.hid (show ∀ y ∈ xs ps, Fit y from fun y hy => ⟨HX8.out y hy, HFT.out y (by rw [List.take_of_length_le (by rw [len_xs, HPL.out]; exact Nat.le_refl _)]; exact hy)⟩)
      obtain ⟨X1, hX1⟩ : ∃ X1 : World, X1 = wr := ⟨_, rfl⟩
      rw [← hX1] at HBL ⊢
      have HR2 := Lib.hid (HR1.out.kept HBL.out)
      have HE2 := Lib.hid (HE1.out.kept HBL.out)
      have HB2 := Lib.hid (HB1.out.trans (HBL.out.mono HB1.out.size))
      clear hX1 HFT HBL HR1 HE1 HB1 hpq
      obtain ⟨hdec, hlt256, hlen⟩ := best_dec (xs ps) HXI.out (by rw [len_xs, HPL.out]; omega)
      obtain ⟨hkb, hall, hlow⟩ := bestN_ok (xs ps) 4 (by omega)
      rw [len_xs, HPL.out] at hdec
      have hEN := encode_b ps (.slice ao p cap) X1 HXI.out (by rw [HPL.out]; omega) HR2.out HE2.out
      obtain ⟨B, hB⟩ : ∃ B, B = bestN (xs ps) 4 := ⟨_, rfl⟩
      rw [← hB] at hdec hlt256 hlen hkb hall hlow hEN
      have HDC := Lib.hid hdec
      have H256 := Lib.hid hlt256
      have HLEN := Lib.hid hlen
      have HKB := Lib.hid hkb
      have HALL := Lib.hid hall
      have HLOW := Lib.hid hlow
      have HEN := Lib.hid hEN
      clear hdec hlt256 hlen hkb hall hlow hEN hB
      go_wp2_with fail
      refine HEN.out.mono ?_
      rintro e x2 ⟨v2, rfl, hown2, hb2⟩
      obtain ⟨ao2, cap2, rfl⟩ := hown2.shape
      have HX2 := Lib.hid hb2
      have HRB := Lib.hid (OwnB.rd hown2)
      have hDE := decode_b B (.slice ao2 B.length cap2) (p : Int) x2 (OwnB.rd hown2) H256.out (by have := HLEN.out; omega)
      rw [HDC.out] at hDE
      have HDE := Lib.hid hDE
      obtain ⟨m, hm⟩ : ∃ m, m = B.length := ⟨_, rfl⟩
      rw [← hm] at HDE HRB ⊢
      have HM := Lib.hid hm
      clear hown2 hb2 hDE hm HEN
      go_wp2_with fail
      refine HDE.out.mono ?_
      rintro e x3 ⟨⟨v3, p3, rfl, hown3, hx3⟩, hb3⟩
      have HX3 := Lib.hid (below_then HX2.out hb3)
      have hsame := samerows_any ps p3 (.slice ao p cap) v3 x3 (by rw [HPL.out]; omega) (by rw [← len_xs, hx3, len_xs, HPL.out]; omega) (HR2.out.kept HX3.out) (HE2.out.kept HX3.out) HX8.out hown3.row.rd hown3.Els (by rw [hx3]; exact HX8.out)
      rw [hx3, beq_self_eq_true] at hsame
      have HSI := Lib.hid hsame
      have HRB3 := Lib.hid (HRB.out.kept hb3)
      clear hown3 hb3 HDE HRB hsame hx3
      go_wp2_with fail
      refine HSI.out.mono ?_
      rintro e x4 ⟨rfl, hb4⟩
      have HX4 := Lib.hid (below_then HX3.out hb4)
      have HRB4 := Lib.hid (HRB3.out.kept hb4)
      obtain ⟨k0, hk1, hk2, hk5, hk3⟩ := HKB.out
      have hmp : 0 < m := by rw [HM.out, hk3]; simp
      obtain ⟨b2, o2, rfl, hcb⟩ := (rd_cells HRB4.out).2 hmp
      have hb00 := hcb 0 hmp
      rw [Nat.add_zero, show B.getD 0 0 = k0 from by rw [hk3]; rfl] at hb00
      have HB00 := Lib.hid (show x4.cell? ⟨b2, o2, none⟩ = some (.int .u8 (k0 : Int)) from hb00)
      have HK0 := Lib.hid (show B[0]? = some k0 from by rw [hk3]; rfl)
      clear hb4 HSI HRB3 hcb hb00 hk3
      obtain ⟨W6, hW6⟩ : ∃ W6 : World, W6 = x4.alloc (.cells #[.int .i64 1, .int .i64 2, .int .i64 4] 3) := ⟨_, rfl⟩
      have hsz6 : W6.heap.size = x4.heap.size + 1 := by rw [hW6]; simp
      have HF := Lib.hid (show ∀ w', Below W6.heap.size W6 w' → ∀ p, p < 3 → w'.cell? ⟨x4.heap.size, p, none⟩ = some (.int .i64 (kf p : Nat)) from fun w' h p hp => three_at x4 w' (by rw [hsz6, hW6] at h; exact h) p hp)
      have HB46 := Lib.hid (show Below x4.heap.size x4 W6 from by rw [hW6]; exact below_alloc x4 _)
      have HB16 := Lib.hid (HX4.out.trans (HB46.out.mono HX4.out.size))
      have HW6 := Lib.hid hW6
      clear hW6
      go_wp2_with fail
      go_loopw [56] (fun i wr => ∃ r : Nat, r ≤ 3 ∧ i = .int .i64 (r : Int) ∧ Below W6.heap.size W6 wr) (fun i _ => 3 - (intOf i).toNat)
      case atStart => exact ⟨0, by omega, rfl, by rw [← HW6.out]; exact Below.refl _ _⟩
      case round =>
        obtain ⟨r, hr3, rfl, hbel⟩ := hrel
        have HBL := Lib.hid hbel
        have HB4 := Lib.hid (show Below x4.heap.size x4 wr from HB46.out.trans (hbel.mono HB46.out.size))
        have HB1R := Lib.hid (HX4.out.trans (HB4.out.mono HX4.out.size))
        clear hbel
        by_cases hp4 : r < 3
        · have hp4i : (r : Int) < 3 := by omega
          have hp0 : (0 : Int) ≤ (r : Int) := by omega
          have hcell := HF.out wr HBL.out r hp4
          obtain ⟨kk1, kk2, kk3⟩ := kf_in r hp4
          obtain ⟨KK, hKK⟩ : ∃ KK : Nat, KK = kf r := ⟨_, rfl⟩
          rw [← hKK] at hcell kk1 kk2 kk3
          have hal := HALL.out KK (by omega) (by omega) (by omega)
          have hlo := HLOW.out KK (by omega) (by omega) (by omega)
          have hTE := tell_any (KK : Int) ps (.slice ao p cap) wr HX8.out (by rw [HPL.out]; omega) (HR2.out.kept HB1R.out) (HE2.out.kept HB1R.out)
          have hk124 : (KK : Int) = 1 ∨ (KK : Int) = 2 ∨ (KK : Int) = 4 := by omega
          rw [tell_some (KK : Int) hk124 (xs ps) HXI.out (by rw [len_xs, HPL.out]; omega)] at hTE
          have hlt2 := told_lt (KK : Int) hk124 (xs ps) HXI.out (by rw [len_xs, HPL.out]; omega)
          have hdt := dec_tell (KK : Int) hk124 (xs ps) (by rw [len_xs, HPL.out]; omega) HXI.out
          rw [Int.toNat_natCast] at hTE hlt2 hdt
          obtain ⟨bs, hbs⟩ : ∃ bs, bs = KK :: kindT (KK : Int) (xs ps) := ⟨_, rfl⟩
          rw [← hbs] at hTE hlt2 hdt hal hlo
          rw [len_xs, HPL.out] at hdt
          have h00 : bs.getD 0 0 = KK := by rw [hbs]; rfl
          have hbp : 0 < bs.length := by rw [hbs]; simp
          have HTE := Lib.hid hTE
          have HDT := Lib.hid hdt
          have HL2 := Lib.hid hlt2
          clear hTE hdt hlt2 hKK hk124 hbs kk1 kk2 kk3
          go_wp2_with fail
          refine HTE.out.mono ?_
          rintro e y2 ⟨⟨u2, rfl, hown2⟩, hb2⟩
          have HY2 := Lib.hid (below_then HBL.out hb2)
          obtain ⟨ao6, cap6, rfl⟩ := hown2.shape
          have hDE := decode_b bs (.slice ao6 bs.length cap6) (p : Int) y2 (OwnB.rd hown2) HL2.out.1 (by have := HL2.out.2; omega)
          rw [HDT.out] at hDE
          have HDE := Lib.hid hDE
          have hrd := OwnB.rd hown2
          obtain ⟨n, hn⟩ : ∃ n, n = bs.length := ⟨_, rfl⟩
          rw [← hn] at HDE hrd hal hlo hbp ⊢
          rw [← HM.out] at hal hlo
          obtain ⟨b6, o6, rfl, hc6⟩ := (rd_cells hrd).2 hbp
          have hc0 := hc6 0 hbp
          rw [Nat.add_zero, h00] at hc0
          have HC0 := Lib.hid hc0
          have HLO := Lib.hid hlo
          clear hown2 hb2 hDE hcell HTE hrd hc6 hc0 hn h00 hlo
          go_wp2_with fail
          refine HDE.out.mono ?_
          rintro e y3 ⟨⟨u3, p6, rfl, hown3, hx6⟩, hb3⟩
          have HY3 := Lib.hid (below_then HY2.out hb3)
          have HY43 := Lib.hid (show Below x4.heap.size x4 y3 from HB46.out.trans (HY3.out.mono HB46.out.size))
          have HRY := Lib.hid (HR2.out.kept (HX4.out.trans (HY43.out.mono HX4.out.size)))
          have HEY := Lib.hid (HE2.out.kept (HX4.out.trans (HY43.out.mono HX4.out.size)))
          have HSI := Lib.hid (show ∀ w', Below y3.heap.size y3 w' → Calls Try.prog 42 #[.slice ao p cap, u3] w' fun e w'' => e = .returned (.bool true) ∧ Below w'.heap.size w' w'' from fun w' h => by
            have hsame := samerows_any ps p6 (.slice ao p cap) u3 w' (by rw [HPL.out]; omega) (by rw [← len_xs, hx6, len_xs, HPL.out]; omega) (HRY.out.kept h) (HEY.out.kept h) HX8.out (hown3.row.rd.kept h) (hown3.Els.kept h) (by rw [hx6]; exact HX8.out)
            rw [hx6, beq_self_eq_true] at hsame
            exact hsame)
          have HCC := Lib.hid fun w' (h : Below y3.heap.size y3 w') => (show w'.cell? ⟨b6, o6, none⟩ = some (.int .u8 (KK : Int)) ∧ w'.cell? ⟨b2, o2, none⟩ = some (.int .u8 (k0 : Int)) from ⟨(h.cell (World.block_lt_of_cell? _ _ ((hb3.cell (World.block_lt_of_cell? _ _ HC0.out)).trans HC0.out))).trans ((hb3.cell (World.block_lt_of_cell? _ _ HC0.out)).trans HC0.out), ((HY43.out.trans (h.mono HY43.out.size)).cell (World.block_lt_of_cell? _ _ HB00.out)).trans HB00.out⟩)
          have c1 : ¬ (n : Int) < (m : Int) := by omega
          have c1n : ¬ n < m := by omega
          have c2 : (n : Int) > 0 := by omega
          have c2n : 0 < n := hbp
          clear hb3 HDE hown3 hx6
          have hSS := Below.refl y3.heap.size y3
          by_cases hnm : n = m
          · have hle := HLO.out hnm.symm k0 HK0.out
            have c4 : ¬ (KK : Int) < (k0 : Int) := by omega
            have c4n : ¬ KK < k0 := by omega
            subst hnm
            clear hle
            go_upto_region 17 with (fail)
            have HKP := Lib.hid fun w' (h : Below y3.heap.size y3 w') => (show w'.cell? ⟨b6, o6, none⟩ = some (.int .u8 (KK : Int)) ∧ w'.cell? ⟨b2, o2, none⟩ = some (.int .u8 (k0 : Int)) ∧ Below y3.heap.size y3 w' from ⟨(HCC.out w' h).1, (HCC.out w' h).2, h⟩)
            set_option maxRecDepth 1000000 in
            go_region_held3 (fun w' => w'.cell? ⟨b6, o6, none⟩ = some (.int .u8 (KK : Int)) ∧ w'.cell? ⟨b2, o2, none⟩ = some (.int .u8 (k0 : Int)) ∧ Below y3.heap.size y3 w') (first | assumption | exact HKP.out _ (by first | assumption | exact Below.trans (by assumption) (below_drw _ _)))
              (first
                | (go_at_call 42; refine (HSI.out _ (by first | assumption | exact Below.trans (by assumption) (below_drw _ _))).mono ?_; rintro e y4 ⟨rfl, hb4⟩; have hS4 : Below y3.heap.size y3 y4 := below_then (by first | assumption | exact Below.trans (by assumption) (below_drw _ _)) hb4))
            all_goals
              go_wp2_with fail
              go_roundw
              case rel => exact ⟨r + 1, by omega, by go_num, HY3.out.trans ((by first | exact hS4 | exact below_drw2 hS4 | exact below_drw2 (below_drw2 hS4) : Below y3.heap.size y3 _).mono HY3.out.size)⟩
              case measure => simp [intOf]; omega
          · have c5 : ¬ ((n : Int) = (m : Int)) := by omega
            have c5b : ((n : Int) == (m : Int)) = false := by rw [beq_eq_false_iff_ne]; exact c5
            have c5c : (n == m) = false := by rw [beq_eq_false_iff_ne]; exact hnm
            go_upto_region 17 with (fail)
            refine wp_region_noPanic ?_
            refine wp_region_held_drew (S := fun w' => Below y3.heap.size y3 w') (by kernel_rfl) ?hS0 (fun hHeld => ?go0)
            case' hS0 => ((try dsimp only); first | assumption | exact Below.trans (by assumption) (below_drw _ _))
            refine wpAnyH_take (i := 0) (v := ?v0) rfl (by kernel_rfl) (by kernel_rfl) (by kernel_rfl) (fun _ _ _ h => h) (Or.inl ⟨by rfl, ?hy0⟩) (by assumption) ?_
            case' hy0 => (intro w hSw; (try dsimp only at hSw); first | (go_simp; done) | (go_simp; with_reducible rfl))
            (try simp only [Act.put, List.getElem_toArray, List.getElem_cons_succ, List.getElem_cons_zero, List.setIfInBounds_toArray, List.set_cons_zero, List.set_cons_succ])
            refine wpAnyH_take (i := 1) (v := ?v1) rfl (by kernel_rfl) (by kernel_rfl) (by kernel_rfl) (fun _ _ _ h => h) (Or.inl ⟨by rfl, ?hy1⟩) (by assumption) ?_
            case' hy1 => (intro w hSw; (try dsimp only at hSw); first | (go_simp; done) | (go_simp; with_reducible rfl))
            (try simp only [Act.put, List.getElem_toArray, List.getElem_cons_succ, List.getElem_cons_zero, List.setIfInBounds_toArray, List.set_cons_zero, List.set_cons_succ])
            refine wpAnyH_take (i := 2) (v := ?v2) rfl (by kernel_rfl) (by kernel_rfl) (by kernel_rfl) (fun _ _ _ h => h) (Or.inl ⟨by rfl, ?hy2⟩) (by assumption) ?_
            case' hy2 => (intro w hSw; (try dsimp only at hSw); first | (go_simp; done) | (go_simp; with_reducible rfl))
            (try simp only [Act.put, List.getElem_toArray, List.getElem_cons_succ, List.getElem_cons_zero, List.setIfInBounds_toArray, List.set_cons_zero, List.set_cons_succ])
            refine wpAnyH_take (i := 3) (v := ?v3) rfl (by kernel_rfl) (by kernel_rfl) (by kernel_rfl) (fun _ _ _ h => h) (Or.inl ⟨by rfl, ?hy3⟩) (by assumption) ?_
            case' hy3 => (intro w hSw; (try dsimp only at hSw); first | (go_simp; done) | (go_simp; with_reducible rfl))
            (try simp only [Act.put, List.getElem_toArray, List.getElem_cons_succ, List.getElem_cons_zero, List.setIfInBounds_toArray, List.set_cons_zero, List.set_cons_succ])
            refine wpAnyH_take (i := 4) (v := ?v4) rfl (by kernel_rfl) (by kernel_rfl) (by kernel_rfl) (fun _ _ _ h => h) (Or.inl ⟨by rfl, ?hy4⟩) (by assumption) ?_
            case' hy4 => (intro w hSw; (try dsimp only at hSw); first | (go_simp; done) | (go_simp; with_reducible rfl))
            (try simp only [Act.put, List.getElem_toArray, List.getElem_cons_succ, List.getElem_cons_zero, List.setIfInBounds_toArray, List.set_cons_zero, List.set_cons_succ])
            refine wpAnyH_take (i := 5) (v := ?v5) rfl (by kernel_rfl) (by kernel_rfl) (by kernel_rfl) (fun _ _ _ h => h) (Or.inl ⟨by rfl, ?hy5⟩) (by assumption) ?_
            case' hy5 => (intro w hSw; (try dsimp only at hSw); first | (go_simp; done) | (go_simp; with_reducible rfl))
            (try simp only [Act.put, List.getElem_toArray, List.getElem_cons_succ, List.getElem_cons_zero, List.setIfInBounds_toArray, List.set_cons_zero, List.set_cons_succ])
            refine wpAnyH_take (i := 6) (v := ?v6) rfl (by kernel_rfl) (by kernel_rfl) (by kernel_rfl) (fun _ _ _ h => h) (Or.inl ⟨by rfl, ?hy6⟩) (by assumption) ?_
            case' hy6 => (intro w hSw; (try dsimp only at hSw); first | (go_simp; done) | (go_simp; with_reducible rfl))
            (try simp only [Act.put, List.getElem_toArray, List.getElem_cons_succ, List.getElem_cons_zero, List.setIfInBounds_toArray, List.set_cons_zero, List.set_cons_succ])
            refine wpAnyH_take (i := 7) (v := ?v7) rfl (by kernel_rfl) (by kernel_rfl) (by kernel_rfl) (fun _ _ _ h => h) (Or.inl ⟨by rfl, ?hy7⟩) (by assumption) ?_
            case' hy7 => (intro w hSw; (try dsimp only at hSw); first | (go_simp; done) | (go_simp; with_reducible rfl))
            (try simp only [Act.put, List.getElem_toArray, List.getElem_cons_succ, List.getElem_cons_zero, List.setIfInBounds_toArray, List.set_cons_zero, List.set_cons_succ])
            refine wpAnyH_take (i := 8) (v := ?v8) rfl (by kernel_rfl) (by kernel_rfl) (by kernel_rfl) (fun _ _ _ h => h) (Or.inl ⟨by rfl, ?hy8⟩) (by assumption) ?_
            case' hy8 => (intro w hSw; (try dsimp only at hSw); first | (go_simp; done) | (go_simp; with_reducible rfl))
            (try simp only [Act.put, List.getElem_toArray, List.getElem_cons_succ, List.getElem_cons_zero, List.setIfInBounds_toArray, List.set_cons_zero, List.set_cons_succ])
            refine wpAnyH_ready (rs := [9]) (by kernel_rfl) (by simp) ?_
            refine AllReadyH.cons (o := _) rfl (fun K9 hK9 => ?_) AllReadyH.nil
            go_simp
            (go_at_call 42; refine (HSI.out _ (by first | assumption | exact Below.trans (by assumption) (below_drw _ _))).mono ?_; rintro e y4 ⟨rfl, hb4⟩; have hS4 : Below y3.heap.size y3 y4 := below_then (by first | assumption | exact Below.trans (by assumption) (below_drw _ _)) hb4)
            refine hK9.out _ _ ?hS9 (fun hHeld9 => ?_)
            case' hS9 => ((try dsimp only); first | assumption | exact Below.trans (by assumption) (below_drw _ _))
            clear hK9 K9
            (try simp only [Act.put, List.getElem_toArray, List.getElem_cons_succ, List.getElem_cons_zero, List.setIfInBounds_toArray, List.set_cons_zero, List.set_cons_succ])
            refine wpAnyH_take (i := 10) (v := ?v10) rfl (by kernel_rfl) (by kernel_rfl) (by kernel_rfl) (fun _ _ _ h => h) (Or.inl ⟨by rfl, ?hy10⟩) (by assumption) ?_
            case' hy10 => (intro w hSw; (try dsimp only at hSw); first | (go_simp; done) | (go_simp; with_reducible rfl))
            (try simp only [Act.put, List.getElem_toArray, List.getElem_cons_succ, List.getElem_cons_zero, List.setIfInBounds_toArray, List.set_cons_zero, List.set_cons_succ])
            refine wpAnyH_take (i := 11) (v := ?v11) rfl (by kernel_rfl) (by kernel_rfl) (by kernel_rfl) (fun _ _ _ h => h) (Or.inl ⟨by rfl, ?hy11⟩) (by assumption) ?_
            case' hy11 => (intro w hSw; (try dsimp only at hSw); first | (go_simp; done) | (go_simp; with_reducible rfl))
            (try simp only [Act.put, List.getElem_toArray, List.getElem_cons_succ, List.getElem_cons_zero, List.setIfInBounds_toArray, List.set_cons_zero, List.set_cons_succ])
            refine wpAnyH_take (i := 12) (v := ?v12) rfl (by kernel_rfl) (by kernel_rfl) (by kernel_rfl) (fun _ _ _ h => h) (Or.inl ⟨by rfl, ?hy12⟩) (by assumption) ?_
            case' hy12 => (intro w hSw; (try dsimp only at hSw); first | (go_simp; done) | (go_simp; with_reducible rfl))
            (try simp only [Act.put, List.getElem_toArray, List.getElem_cons_succ, List.getElem_cons_zero, List.setIfInBounds_toArray, List.set_cons_zero, List.set_cons_succ])
            refine wpAnyH_take (i := 13) (v := ?v13) rfl (by kernel_rfl) (by kernel_rfl) (by kernel_rfl) (fun _ _ _ h => h) (Or.inl ⟨by rfl, ?hy13⟩) (by assumption) ?_
            case' hy13 => (intro w hSw; (try dsimp only at hSw); first | (go_simp; done) | (go_simp; with_reducible rfl))
            (try simp only [Act.put, List.getElem_toArray, List.getElem_cons_succ, List.getElem_cons_zero, List.setIfInBounds_toArray, List.set_cons_zero, List.set_cons_succ])
            refine wpAnyH_take (i := 14) (v := ?v14) rfl (by kernel_rfl) (by kernel_rfl) (by kernel_rfl) (fun _ _ _ h => h) (Or.inl ⟨by rfl, ?hy14⟩) (by assumption) ?_
            case' hy14 => (intro w hSw; (try dsimp only at hSw); first | (go_simp; done) | (go_simp; with_reducible rfl))
            (try simp only [Act.put, List.getElem_toArray, List.getElem_cons_succ, List.getElem_cons_zero, List.setIfInBounds_toArray, List.set_cons_zero, List.set_cons_succ])
            refine wpAnyH_take (i := 15) (v := ?v15) rfl (by kernel_rfl) (by kernel_rfl) (by kernel_rfl) (fun _ _ _ h => h) (Or.inl ⟨by rfl, ?hy15⟩) (by assumption) ?_
            case' hy15 => (intro w hSw; (try dsimp only at hSw); first | (go_simp; done) | (go_simp; with_reducible rfl))
            (try simp only [Act.put, List.getElem_toArray, List.getElem_cons_succ, List.getElem_cons_zero, List.setIfInBounds_toArray, List.set_cons_zero, List.set_cons_succ])
            refine wpAnyH_take (i := 16) (v := ?v16) rfl (by kernel_rfl) (by kernel_rfl) (by kernel_rfl) (fun _ _ _ h => h) (Or.inl ⟨by rfl, ?hy16⟩) (by assumption) ?_
            case' hy16 => (intro w hSw; (try dsimp only at hSw); first | (go_simp; done) | (go_simp; with_reducible rfl))
            (try simp only [Act.put, List.getElem_toArray, List.getElem_cons_succ, List.getElem_cons_zero, List.setIfInBounds_toArray, List.set_cons_zero, List.set_cons_succ])
            refine wpAnyH_take (i := 17) (v := ?v17) rfl (by kernel_rfl) (by kernel_rfl) (by kernel_rfl) (fun _ _ _ h => h) (Or.inl ⟨by rfl, ?hy17⟩) (by assumption) ?_
            case' hy17 => (intro w hSw; (try dsimp only at hSw); first | (go_simp; done) | (go_simp; with_reducible rfl))
            (try simp only [Act.put, List.getElem_toArray, List.getElem_cons_succ, List.getElem_cons_zero, List.setIfInBounds_toArray, List.set_cons_zero, List.set_cons_succ])
            refine wpAnyH_take (i := 18) (v := ?v18) rfl (by kernel_rfl) (by kernel_rfl) (by kernel_rfl) (fun _ _ _ h => h) (Or.inl ⟨by rfl, ?hy18⟩) (by assumption) ?_
            case' hy18 => (intro w hSw; (try dsimp only at hSw); first | (go_simp; done) | (go_simp; with_reducible rfl))
            (try simp only [Act.put, List.getElem_toArray, List.getElem_cons_succ, List.getElem_cons_zero, List.setIfInBounds_toArray, List.set_cons_zero, List.set_cons_succ])
            refine wpAnyH_take (i := 19) (v := ?v19) rfl (by kernel_rfl) (by kernel_rfl) (by kernel_rfl) (fun _ _ _ h => h) (Or.inl ⟨by rfl, ?hy19⟩) (by assumption) ?_
            case' hy19 => (intro w hSw; (try dsimp only at hSw); first | (go_simp; done) | (go_simp; with_reducible rfl))
            (try simp only [Act.put, List.getElem_toArray, List.getElem_cons_succ, List.getElem_cons_zero, List.setIfInBounds_toArray, List.set_cons_zero, List.set_cons_succ])
            refine wpAnyH_take (i := 20) (v := ?v20) rfl (by kernel_rfl) (by kernel_rfl) (by kernel_rfl) (fun _ _ _ h => h) (Or.inl ⟨by rfl, ?hy20⟩) (by assumption) ?_
            case' hy20 => (intro w hSw; (try dsimp only at hSw); first | (go_simp; done) | (go_simp; with_reducible rfl))
            (try simp only [Act.put, List.getElem_toArray, List.getElem_cons_succ, List.getElem_cons_zero, List.setIfInBounds_toArray, List.set_cons_zero, List.set_cons_succ])
            refine wpAnyH_take (i := 21) (v := ?v21) rfl (by kernel_rfl) (by kernel_rfl) (by kernel_rfl) (fun _ _ _ h => h) (Or.inl ⟨by rfl, ?hy21⟩) (by assumption) ?_
            case' hy21 => (intro w hSw; (try dsimp only at hSw); first | (go_simp; done) | (go_simp; with_reducible rfl))
            (try simp only [Act.put, List.getElem_toArray, List.getElem_cons_succ, List.getElem_cons_zero, List.setIfInBounds_toArray, List.set_cons_zero, List.set_cons_succ])
            refine wpAnyH_take (i := 22) (v := ?v22) rfl (by kernel_rfl) (by kernel_rfl) (by kernel_rfl) (fun _ _ _ h => h) (Or.inl ⟨by rfl, ?hy22⟩) (by assumption) ?_
            case' hy22 => (intro w hSw; (try dsimp only at hSw); first | (go_simp; done) | (go_simp; with_reducible rfl))
            (try simp only [Act.put, List.getElem_toArray, List.getElem_cons_succ, List.getElem_cons_zero, List.setIfInBounds_toArray, List.set_cons_zero, List.set_cons_succ])
            refine wpAnyH_take (i := 23) (v := ?v23) rfl (by kernel_rfl) (by kernel_rfl) (by kernel_rfl) (fun _ _ _ h => h) (Or.inl ⟨by rfl, ?hy23⟩) (by assumption) ?_
            case' hy23 => (intro w hSw; (try dsimp only at hSw); first | (go_simp; done) | (go_simp; with_reducible rfl))
            (try simp only [Act.put, List.getElem_toArray, List.getElem_cons_succ, List.getElem_cons_zero, List.setIfInBounds_toArray, List.set_cons_zero, List.set_cons_succ])
            refine wpAnyH_take (i := 24) (v := ?v24) rfl (by kernel_rfl) (by kernel_rfl) (by kernel_rfl) (fun _ _ _ h => h) (Or.inl ⟨by rfl, ?hy24⟩) (by assumption) ?_
            case' hy24 => (intro w hSw; (try dsimp only at hSw); first | (go_simp; done) | (go_simp; with_reducible rfl))
            (try simp only [Act.put, List.getElem_toArray, List.getElem_cons_succ, List.getElem_cons_zero, List.setIfInBounds_toArray, List.set_cons_zero, List.set_cons_succ])
            refine wpAnyH_take (i := 25) (v := ?v25) rfl (by kernel_rfl) (by kernel_rfl) (by kernel_rfl) (fun _ _ _ h => h) (Or.inl ⟨by rfl, ?hy25⟩) (by assumption) ?_
            case' hy25 => (intro w hSw; (try dsimp only at hSw); first | (go_simp; done) | (go_simp; with_reducible rfl))
            (try simp only [Act.put, List.getElem_toArray, List.getElem_cons_succ, List.getElem_cons_zero, List.setIfInBounds_toArray, List.set_cons_zero, List.set_cons_succ])
            refine wpAnyH_take (i := 26) (v := undef) rfl (by kernel_rfl) (by kernel_rfl) (by kernel_rfl) (fun _ _ _ h => h) (Or.inr ⟨by rfl, rfl⟩) (by assumption) ?_
            (try simp only [Act.put, List.getElem_toArray, List.getElem_cons_succ, List.getElem_cons_zero, List.setIfInBounds_toArray, List.set_cons_zero, List.set_cons_succ])
            refine wpAnyH_take (i := 27) (v := undef) rfl (by kernel_rfl) (by kernel_rfl) (by kernel_rfl) (fun _ _ _ h => h) (Or.inr ⟨by rfl, rfl⟩) (by assumption) ?_
            (try simp only [Act.put, List.getElem_toArray, List.getElem_cons_succ, List.getElem_cons_zero, List.setIfInBounds_toArray, List.set_cons_zero, List.set_cons_succ])
            refine wpAnyH_take (i := 28) (v := undef) rfl (by kernel_rfl) (by kernel_rfl) (by kernel_rfl) (fun _ _ _ h => h) (Or.inr ⟨by rfl, rfl⟩) (by assumption) ?_
            (try simp only [Act.put, List.getElem_toArray, List.getElem_cons_succ, List.getElem_cons_zero, List.setIfInBounds_toArray, List.set_cons_zero, List.set_cons_succ])
            refine wpAnyH_take (i := 29) (v := ?v29) rfl (by kernel_rfl) (by kernel_rfl) (by kernel_rfl) (fun _ _ _ h => h) (Or.inl ⟨by rfl, ?hy29⟩) (by assumption) ?_
            case' hy29 => (intro w hSw; (try dsimp only at hSw); first | (go_simp; done) | (go_simp; with_reducible rfl))
            (try simp only [Act.put, List.getElem_toArray, List.getElem_cons_succ, List.getElem_cons_zero, List.setIfInBounds_toArray, List.set_cons_zero, List.set_cons_succ])
            refine wpAnyH_take (i := 30) (v := ?v30) rfl (by kernel_rfl) (by kernel_rfl) (by kernel_rfl) (fun _ _ _ h => h) (Or.inl ⟨by rfl, ?hy30⟩) (by assumption) ?_
            case' hy30 => (intro w hSw; (try dsimp only at hSw); first | (go_simp; done) | (go_simp; with_reducible rfl))
            (try simp only [Act.put, List.getElem_toArray, List.getElem_cons_succ, List.getElem_cons_zero, List.setIfInBounds_toArray, List.set_cons_zero, List.set_cons_succ])
            refine wpAnyH_take (i := 31) (v := undef) rfl (by kernel_rfl) (by kernel_rfl) (by kernel_rfl) (fun _ _ _ h => h) (Or.inr ⟨by rfl, rfl⟩) (by assumption) ?_
            (try simp only [Act.put, List.getElem_toArray, List.getElem_cons_succ, List.getElem_cons_zero, List.setIfInBounds_toArray, List.set_cons_zero, List.set_cons_succ])
            refine wpAnyH_take (i := 32) (v := undef) rfl (by kernel_rfl) (by kernel_rfl) (by kernel_rfl) (fun _ _ _ h => h) (Or.inr ⟨by rfl, rfl⟩) (by assumption) ?_
            (try simp only [Act.put, List.getElem_toArray, List.getElem_cons_succ, List.getElem_cons_zero, List.setIfInBounds_toArray, List.set_cons_zero, List.set_cons_succ])
            refine wpAnyH_take (i := 33) (v := undef) rfl (by kernel_rfl) (by kernel_rfl) (by kernel_rfl) (fun _ _ _ h => h) (Or.inr ⟨by rfl, rfl⟩) (by assumption) ?_
            (try simp only [Act.put, List.getElem_toArray, List.getElem_cons_succ, List.getElem_cons_zero, List.setIfInBounds_toArray, List.set_cons_zero, List.set_cons_succ])
            refine wpAnyH_take (i := 34) (v := undef) rfl (by kernel_rfl) (by kernel_rfl) (by kernel_rfl) (fun _ _ _ h => h) (Or.inr ⟨by rfl, rfl⟩) (by assumption) ?_
            (try simp only [Act.put, List.getElem_toArray, List.getElem_cons_succ, List.getElem_cons_zero, List.setIfInBounds_toArray, List.set_cons_zero, List.set_cons_succ])
            refine wpAnyH_take (i := 35) (v := undef) rfl (by kernel_rfl) (by kernel_rfl) (by kernel_rfl) (fun _ _ _ h => h) (Or.inr ⟨by rfl, rfl⟩) (by assumption) ?_
            (try simp only [Act.put, List.getElem_toArray, List.getElem_cons_succ, List.getElem_cons_zero, List.setIfInBounds_toArray, List.set_cons_zero, List.set_cons_succ])
            refine wpAnyH_take (i := 36) (v := undef) rfl (by kernel_rfl) (by kernel_rfl) (by kernel_rfl) (fun _ _ _ h => h) (Or.inr ⟨by rfl, rfl⟩) (by assumption) ?_
            (try simp only [Act.put, List.getElem_toArray, List.getElem_cons_succ, List.getElem_cons_zero, List.setIfInBounds_toArray, List.set_cons_zero, List.set_cons_succ])
            refine wpAnyH_take (i := 37) (v := undef) rfl (by kernel_rfl) (by kernel_rfl) (by kernel_rfl) (fun _ _ _ h => h) (Or.inr ⟨by rfl, rfl⟩) (by assumption) ?_
            (try simp only [Act.put, List.getElem_toArray, List.getElem_cons_succ, List.getElem_cons_zero, List.setIfInBounds_toArray, List.set_cons_zero, List.set_cons_succ])
            refine wpAnyH_take (i := 38) (v := ?v38) rfl (by kernel_rfl) (by kernel_rfl) (by kernel_rfl) (fun _ _ _ h => h) (Or.inl ⟨by rfl, ?hy38⟩) (by assumption) ?_
            case' hy38 => (intro w hSw; (try dsimp only at hSw); first | (go_simp; done) | (go_simp; with_reducible rfl))
            (try simp only [Act.put, List.getElem_toArray, List.getElem_cons_succ, List.getElem_cons_zero, List.setIfInBounds_toArray, List.set_cons_zero, List.set_cons_succ])
            refine wpAnyH_take (i := 39) (v := ?v39) rfl (by kernel_rfl) (by kernel_rfl) (by kernel_rfl) (fun _ _ _ h => h) (Or.inl ⟨by rfl, ?hy39⟩) (by assumption) ?_
            case' hy39 => (intro w hSw; (try dsimp only at hSw); first | (go_simp; done) | (go_simp; with_reducible rfl))
            (try simp only [Act.put, List.getElem_toArray, List.getElem_cons_succ, List.getElem_cons_zero, List.setIfInBounds_toArray, List.set_cons_zero, List.set_cons_succ])
            refine wpAnyH_done (by kernel_rfl) ?_ _
            refine NoPanic.normal ?_
            all_goals
              go_wp2_with fail
              go_roundw
              case rel => exact ⟨r + 1, by omega, by go_num, HY3.out.trans ((by first | exact hS4 | exact below_drw2 hS4 | exact below_drw2 (below_drw2 hS4) : Below y3.heap.size y3 _).mono HY3.out.size)⟩
              case measure => simp [intOf]; omega
        · have hp4i : ¬ (r : Int) < 3 := by omega
          obtain ⟨W8, hW8⟩ : ∃ W8 : World, W8 = wr := ⟨_, rfl⟩
          rw [← hW8] at HBL HB4 HB1R ⊢
          clear hW8
          have HRB8 := Lib.hid (HRB4.out.kept HB4.out)
          have HR8 := Lib.hid (HR2.out.kept HB1R.out)
          have HE8 := Lib.hid (HE2.out.kept HB1R.out)
          go_wp2_with fail
          go_loopw [116] (fun i wr => ∃ j : Nat, j ≤ p ∧ i = .int .i64 (j : Int) ∧ Below W8.heap.size W8 wr) (fun i _ => p - (intOf i).toNat)
          case atStart => exact ⟨0, Nat.zero_le _, rfl, Below.refl _ _⟩
          case round =>
            obtain ⟨j, hj, rfl, hbel⟩ := hrel
            have HBJ := Lib.hid hbel
            clear hbel
            by_cases hjq : j < p
            · have hjqi : (j : Int) < (p : Int) := by omega
              have hj0 : (0 : Int) ≤ (j : Int) := by omega
              obtain ⟨ya, yc, y, hy, hye⟩ := row_at HE8.out (q := j) (by rw [HPL.out]; exact hjq)
              have hAT := at_any (xs ps) B (.slice (some ⟨b2, o2, none⟩) m cap2) j y wr (by rw [len_xs, HPL.out]; exact HDC.out) (xs_at hy) (HRB8.out.kept HBJ.out) H256.out (by have := HLEN.out; omega)
              rw [len_xs, HPL.out] at hAT
              have HAT := Lib.hid hAT
              have HY8 := Lib.hid (HX8.out y (List.mem_of_getElem? (xs_at hy)))
              have HYE := Lib.hid hye
              have HPJ := Lib.hid hy
              clear hAT hy hye
              go_wp2_with fail
              refine HAT.out.mono ?_
              rintro e y2 ⟨u, rfl, hu, hb2⟩
              obtain ⟨ua, uc, rfl⟩ := hu.shape
              have HY2 := Lib.hid (below_then HBJ.out hb2)
              obtain ⟨b7, o7, rfl, hc7⟩ := (rdv_cells (HR8.out.kept HY2.out)).2 (by omega)
              have hx7 : y2.cell? ⟨b7, o7 + j, none⟩ = some (.slice ya (List.length y) yc) := hc7 j _ HPJ.out
              have hcv := fun nq : Nat => run_str (P := Try.prog) (y2.drewN nq) 38 9 5 Try.underlying38 Try.underlying5 Try.underlying9 (hu.rd.kept (below_draws (Below.refl _ _) nq)) (lt256 _ HY8.out)
              have hyw := HYE.out.kept HY2.out
              have hcw := fun nq : Nat => run_str (P := Try.prog) (y2.drewN nq) 38 9 5 Try.underlying38 Try.underlying5 Try.underlying9 (hyw.kept (below_draws (Below.refl _ _) nq)) (lt256 _ HY8.out)
              clear hc7 hb2 HAT hu
              go_wp2_with fail
              go_quiet (fail)
              go_wp2_with fail
              go_roundw
              case rel => exact ⟨j + 1, by omega, by go_num, below_draws2 HY2.out _⟩
              case measure => simp [intOf]; omega
            · have hjqe : j = p := by omega
              subst hjqe
              have hjqi : ¬ (j : Int) < (j : Int) := by omega
              have HAW := Lib.hid (awake5_any wr)
              go_wp2_with fail
              refine HAW.out.mono ?_
              rintro e y2 ⟨rfl, hb2⟩
              have HY2 := Lib.hid (below_then HBJ.out hb2)
              clear hb2
              go_wp2_with fail
              go_ret
              exact ⟨rfl, HB2.out.trans ((HB1R.out.trans (HY2.out.mono HB1R.out.size)).mono HB2.out.size)⟩


end Go.Proofs.Yteloepccjoikdaa.Bc
