/-
  The walk of BcolOwn.
-/
import Derived.Test.YteloepccjoikdaaBct
import Derived.Test.YteloepccjoikdaaAwake5
import Derived.Test.YteloepccjoikdaaLone
namespace Go.Proofs.Yteloepccjoikdaa.Bc
set_option linter.unusedVariables false
set_option linter.unusedSimpArgs false
open Go.RowKit

theorem set_same {ps : Row} {i : Nat} {p : Value × By} (h : ps[i]? = some p) : ps.set i p = ps := by
  obtain ⟨hl, rfl⟩ := List.getElem?_eq_some_iff.1 h
  exact List.set_getElem_self hl

set_option maxRecDepth 100000 in
set_option maxHeartbeats 8000000 in
theorem walk_BcolOwn (a0 : Option Addr) (len0 cap0 : Nat) (pr : Row) (a1 : Option Addr) (len1 cap1 : Nat) (z1 : List Int) (a2 : Int) (w : World) (w0a : pr.length = len0) (w0b : Rd w (.slice a0 len0 cap0) (vs pr)) (w0c : Els w pr) (w0d : ∀ y ∈ xs pr, ∀ a ∈ y, a < 256) (w1 : IsRow .i64 w a1 len1 cap1 z1) (w2 : (Lit.int .i64 a2).wf = true) :
    Calls Try.prog 10 #[.slice a0 len0 cap0, .slice a1 len1 cap1, .int .i64 a2] w fun e w' => e = .returned (.bool true) ∧ Below w.heap.size w w' := by
  obtain ⟨la, hla, h1, h2⟩ := isRow_rd w1
  have HC := Lib.hid (column_any pr a0 len0 cap0 la a1 len1 cap1 a2 w w0a w0b w0c w0d hla h1)
  clear hla h1 h2 w0a w0b w0c w0d w1 w2
  go_enter Try.func10, Try.ntmps10
  go_wp2_with fail
  refine HC.out.mono ?_
  rintro e x1 ⟨v1, rfl, ps, hfar1, hxl, hx8, hb1⟩
  obtain ⟨ao, cap, rfl⟩ := hfar1.row.shape
  obtain ⟨q, hq⟩ : ∃ q, q = ps.length := ⟨_, rfl⟩
  have HPL := Lib.hid (show ps.length = q from hq.symm)
  have HX8 := Lib.hid hx8
  have HR1 := Lib.hid hfar1.row.rd
  have HE1 := Lib.hid hfar1.els
  rw [← hq] at HR1 hxl ⊢
  have HB1 := Lib.hid hb1
  clear HC hq hx8 hfar1 hb1
  go_wp2_with fail
  go_loopw [26] (fun i wr => ∃ p : Nat, p ≤ q ∧ i = .int .i64 (p : Int) ∧ (∀ y ∈ (xs ps).take p, y.length ≤ 64) ∧ Below x1.heap.size x1 wr) (fun i _ => q - (intOf i).toNat)
  case atStart => exact ⟨0, Nat.zero_le _, rfl, (fun y hy => by simp at hy), Below.refl _ _⟩
  case round =>
    obtain ⟨p, hp, rfl, hfit, hbel⟩ := hrel
    have HFT := Lib.hid hfit
    have HBL := Lib.hid hbel
    clear hfit hbel
    by_cases hpq : p < q
    · have hpqi : (p : Int) < (q : Int) := by omega
      have hp0 : (0 : Int) ≤ (p : Int) := by omega
      obtain ⟨b, off, rfl, hcell⟩ := (rdv_cells (HR1.out.kept HBL.out)).2 (by omega)
      obtain ⟨ya, yc, y, hy, hye⟩ := row_at HE1.out (q := p) (by rw [HPL.out]; exact hpq)
      have hx : wr.cell? ⟨b, off + p, none⟩ = some (.slice ya (List.length y) yc) := hcell p _ hy
      have HTK := Lib.hid (take_xs hy)
      obtain ⟨n, hn⟩ : ∃ n, n = List.length y := ⟨_, rfl⟩
      rw [← hn] at hx
      have HNN := Lib.hid hn
      clear hcell hy hye hn
      by_cases hbig : 64 < n
      · have hbi : (64 : Int) < (n : Int) := by omega
        have HAW := Lib.hid (awake5_any wr)
        go_wp2_with fail
        refine HAW.out.mono ?_
        rintro e y2 ⟨rfl, hb2⟩
        have HY2 := Lib.hid (below_then HBL.out hb2)
        clear hb2
        go_wp2_with fail
        go_ret
        exact ⟨rfl, HB1.out.trans (HY2.out.mono HB1.out.size)⟩
      · have hbi : ¬ (64 : Int) < (n : Int) := by omega
        go_wp2_with fail
        go_roundw
        case rel =>
          refine ⟨p + 1, by omega, by go_num, fun z hz => ?_, HBL.out⟩
          rw [HTK.out] at hz
          rcases List.mem_append.1 hz with h | h
          · exact HFT.out z h
          · have h2 : z = y := List.mem_singleton.1 h
            rw [h2, ← HNN.out]
            omega
        case measure => simp [intOf]; omega
    · have hpq2 : p = q := by omega
      subst hpq2
      have hpqi : ¬ (p : Int) < (p : Int) := by omega
      have HXI := Lib.hid (show ∀ y ∈ xs ps, Fit y from fun y hy => ⟨HX8.out y hy, HFT.out y (by rw [List.take_of_length_le (by rw [len_xs, HPL.out]; exact Nat.le_refl _)]; exact hy)⟩)
      obtain ⟨X1, hX1⟩ : ∃ X1 : World, X1 = wr := ⟨_, rfl⟩
      rw [← hX1] at HBL ⊢
      have HR2 := Lib.hid (HR1.out.kept HBL.out)
      have HE2 := Lib.hid (HE1.out.kept HBL.out)
      have HB2 := Lib.hid (HB1.out.trans (HBL.out.mono HB1.out.size))
      clear hX1 HFT HBL HR1 HE1 HB1 hpq
      obtain ⟨hdec, hlt256, hlen⟩ := best_dec (xs ps) HXI.out (by rw [len_xs, HPL.out]; omega)
      rw [len_xs, HPL.out] at hdec
      have hEN := encode_b ps (.slice ao p cap) X1 HXI.out (by rw [HPL.out]; omega) HR2.out HE2.out
      obtain ⟨B, hB⟩ : ∃ B, B = bestN (xs ps) 4 := ⟨_, rfl⟩
      rw [← hB] at hdec hlt256 hlen hEN
      have HDC := Lib.hid hdec
      have H256 := Lib.hid hlt256
      have HLEN := Lib.hid hlen
      have HEN := Lib.hid hEN
      clear hdec hlt256 hlen hEN hB
      go_wp2_with fail
      refine HEN.out.mono ?_
      rintro e x2 ⟨v2, rfl, hown2, hb2⟩
      obtain ⟨ao2, cap2, rfl⟩ := hown2.shape
      have HX2 := Lib.hid hb2
      have HRB := Lib.hid (OwnB.rd hown2)
      have hrb := OwnB.rd hown2
      have h8b := H256.out
      have hcb0 := run_str (P := Try.prog) x2 38 9 5 Try.underlying38 Try.underlying5 Try.underlying9 hrb (lt256 _ h8b)
      have hDE := decode_b B (.slice ao2 B.length cap2) (p : Int) x2 (OwnB.rd hown2) H256.out (by have := HLEN.out; omega)
      rw [HDC.out] at hDE
      have HDE := Lib.hid hDE
      obtain ⟨m, hm⟩ : ∃ m, m = B.length := ⟨_, rfl⟩
      rw [← hm] at HDE HRB hcb0 ⊢
      have HM := Lib.hid hm
      clear hown2 hb2 hDE hm HEN hrb
      go_wp2_with fail
      refine HDE.out.mono ?_
      rintro e x3 ⟨⟨v3, py, rfl, hown3, hx3⟩, hb3⟩
      have HX3 := Lib.hid hb3
      have hpyl : py.length = p := by rw [← len_xs, hx3, len_xs, HPL.out]
      obtain ⟨ao3, cap3, rfl⟩ := hown3.row.shape
      rw [hpyl] at hown3 ⊢
      have HO3 := Lib.hid hown3
      have HX0 := Lib.hid hx3
      have HPY := Lib.hid hpyl
      clear hb3 hown3 hx3 hpyl HDE hcb0 h8b
      go_wp2_with fail
      go_loopw [48] (fun i wr => ∃ (r : Nat) (pz : Row), r ≤ p ∧ i = .int .i64 (r : Int) ∧ pz.length = p ∧ (∀ j, r ≤ j → (xs pz)[j]? = (xs ps)[j]?) ∧ (∀ y ∈ xs pz, y.length ≤ 65) ∧ OwnE x2.heap.size wr (.slice ao3 p cap3) pz ∧ Below x2.heap.size x2 wr) (fun i _ => p - (intOf i).toNat)
      case atStart => exact ⟨0, py, Nat.zero_le _, rfl, HPY.out, (fun j _ => by rw [HX0.out]), (fun y hy => by rw [HX0.out] at hy; have := (HXI.out y hy).2; omega), HO3.out, HX3.out⟩
      case round =>
        obtain ⟨r, pz, hrp, rfl, hzl, hzs, hz65, hown, hbel⟩ := hrel
        have HZL := Lib.hid hzl
        have HZS := Lib.hid hzs
        have HZ65 := Lib.hid hz65
        have HO := Lib.hid hown
        have HBL := Lib.hid hbel
        clear hzl hzs hz65 hown hbel
        by_cases hpq : r < p
        · have hpqi : (r : Int) < (p : Int) := by omega
          have hr0 : (0 : Int) ≤ (r : Int) := by omega
          obtain ⟨g, rfl⟩ : ∃ g, ao3 = some ⟨g, 0, none⟩ := by
            rcases HO.out.row.2 with ⟨hv, h0⟩ | ⟨g, c, cur, h1, _⟩
            · have := HZL.out; omega
            · simp only [Value.slice.injEq] at h1; exact ⟨g, h1.1⟩
          obtain ⟨ua, uc, x, hat, hrd⟩ := row_at HO.out.Els (q := r) (by rw [HZL.out]; exact hpq)
          obtain ⟨n, hn⟩ : ∃ n, n = List.length x := ⟨_, rfl⟩
          rw [← hn] at hat
          have hn65 : n ≤ 65 := by rw [hn]; exact HZ65.out x (List.mem_of_getElem? (xs_at hat))
          have hx : wr.cell? ⟨g, r, none⟩ = some (.slice ua n uc) := by
            have h := ((rdv_cells HO.out.row.rd).2 (by omega))
            obtain ⟨b, off, hb, hc⟩ := h
            simp only [Option.some.injEq, Addr.mk.injEq] at hb
            obtain ⟨rfl, rfl, _⟩ := hb
            have h1 := hc r _ hat
            rw [Nat.zero_add] at h1
            exact h1
          have HAT := Lib.hid hat
          have HN := Lib.hid hn
          clear hat hrd hn
          go_wp2_with fail
          obtain ⟨W4, hW4⟩ : ∃ W4 : World, W4 = wr := ⟨_, rfl⟩
          rw [← hW4] at HO HBL ⊢
          clear hW4 hx
          go_loopw [56] (fun k wr => ∃ (t : Nat) (ys : By), t ≤ n ∧ k = .int .i64 (t : Int) ∧ ys.length = n ∧ OwnE x2.heap.size wr (.slice (some ⟨g, 0, none⟩) p cap3) (pz.set r (.slice ua n uc, ys)) ∧ Below x2.heap.size x2 wr) (fun k _ => n - (intOf k).toNat)
          case atStart => exact ⟨0, x, Nat.zero_le _, rfl, HN.out.symm, by rw [set_same HAT.out]; exact HO.out, HBL.out⟩
          case round =>
            obtain ⟨t, ys, htn, rfl, hyl, hown, hbel⟩ := hrel
            have HYL := Lib.hid hyl
            have HOT := Lib.hid hown
            have HBT := Lib.hid hbel
            have hrz : r < pz.length := by rw [HZL.out]; exact hpq
            have hat : (pz.set r (Value.slice ua n uc, ys))[r]? = some (.slice ua n uc, ys) := by rw [List.getElem?_set, if_pos rfl, if_pos hrz]
            have hx : wr.cell? ⟨g, r, none⟩ = some (.slice ua n uc) := by
              have h := ((rdv_cells HOT.out.row.rd).2 (by omega))
              obtain ⟨b, off, hb, hc⟩ := h
              simp only [Option.some.injEq, Addr.mk.injEq] at hb
              obtain ⟨rfl, rfl, _⟩ := hb
              have h1 := hc r _ hat
              rw [Nat.zero_add] at h1
              exact h1
            clear hyl hown hbel
            by_cases htl : t < n
            · have htni : (t : Int) < (n : Int) := by omega
              have ht0 : (0 : Int) ≤ (t : Int) := by omega
              have hub := HOT.out.els _ (List.mem_of_getElem? hat)
              change OwnB _ _ (Value.slice ua n uc) ys at hub
              obtain ⟨ug, rfl⟩ : ∃ ug, ua = some ⟨ug, 0, none⟩ := by
                rcases hub.2 with ⟨hv, h0⟩ | ⟨g, c, cur, h1, _⟩
                · have := HYL.out; omega
                · simp only [Value.slice.injEq] at h1; exact ⟨g, h1.1⟩
              have hub2 : wr.ownsRow x2.heap.size 5 1 (.slice (some ⟨ug, 0, none⟩) n uc) n (ys.map u8v) := by have h := hub; unfold OwnB at h; rw [HYL.out] at h; exact h
              have hc1 := hub2.cellAt t (by omega)
              have hfz := hub2.frozenAt t
              obtain ⟨b0, hb0⟩ : ∃ b0, ys[t]? = some b0 := ⟨_, List.getElem?_eq_getElem (by rw [HYL.out]; exact htl)⟩
              rw [List.getElem?_map, hb0] at hc1
              have hc2 : wr.cell? ⟨ug, t, none⟩ = some (.int .u8 (b0 : Int)) := hc1
              obtain ⟨D, hD⟩ : ∃ D : Nat, IntKind.u8.wrap ((b0 : Int) + 1) = (D : Int) := ⟨(IntKind.u8.wrap ((b0 : Int) + 1)).toNat, by rw [IntKind.wrap_u8]; omega⟩
              have HPK := Lib.hid (HOT.out.poke (k := t) (b := D) hat HYL.out.symm)
              have hub9 := own_base hub2 ug rfl
              have HBP := Lib.hid (HBT.out.setCell (p := ⟨ug, t, none⟩) hub9 (.int .u8 (D : Int)))
              clear hub hub2 hc1 hb0 hat
              go_wp2_with fail
              go_roundw
              case rel =>
                refine ⟨t + 1, ys.set t D, by omega, by go_num, by rw [List.length_set]; exact HYL.out, ?_, HBP.out⟩
                have h := HPK.out
                rw [List.set_set] at h
                exact h
              case measure => simp [intOf]; omega
            · have htn2 : t = n := by omega
              subst htn2
              have htni : ¬ (t : Int) < (t : Int) := by omega
              have hub := HOT.out.els _ (List.mem_of_getElem? hat)
              change OwnB _ _ (Value.slice ua t uc) ys at hub
              have hub2 : wr.ownsRow x2.heap.size 5 1 (.slice ua t uc) t (ys.map u8v) := by have h := hub; unfold OwnB at h; rw [HYL.out] at h; exact h
              have HAT2 := Lib.hid hat
              have HOA := Lib.hid (World.ownsRow.alloc hub2 (.cells #[.int .u8 1] 5))
              have HLT := Lib.hid (rdS_lit wr #[.int .u8 1] 5 1 rfl)
              have hszB : x2.heap.size ≤ (wr.alloc (.cells #[.int .u8 1] 5)).heap.size := le_alloc0 HBT.out.size _
              have HONE := Lib.hid (ones_one (.int .u8 1) rfl)
              have hxa : (wr.alloc (.cells #[.int .u8 1] 5)).cell? ⟨g, r, none⟩ = some (.slice ua t uc) := ((below_alloc wr _).cell (World.block_lt_of_cell? _ _ hx)).trans hx
              have hna := HOT.out.blocks _ List.mem_cons_self g rfl
              have HNE := Lib.hid (HOT.out.unlike hat)
              clear hub hub2 hat
              go_wp2_with (at_builtin; go_must (refine wpList_append_k elmU8 rfl _ _ rfl x2.heap.size _ _ _ rfl HOA.out _ [[Value.int .u8 1]] rfl HLT.out HONE.out (by simp; omega) hszB (t + 1) rfl ?_); intro ao9 cap9 w9 hown9 hgrow9 hnew9; have HO9 := Lib.hid hown9; have HG9 := Lib.hid (grown_trans (grownBy_any (World.grownBy_alloc wr (.cells #[.int .u8 1] 5) none)) hgrow9 : wr.grownBy w9 (Value.slice ua t uc).ownBlock); have HN9 := Lib.hid hnew9; have hx9 : w9.cell? ⟨g, r, none⟩ = some (.slice ua t uc) := HG9.out.cell hx (by rcases HNE.out with h | h; (· cases h); (· exact h)); have hf9 : w9.frozen? ⟨g, r, none⟩ = false := ownR_frozen (World.ownsRow.kept HOT.out.row HG9.out HNE.out) r; clear hown9 hgrow9 hnew9)
              have HB9 := Lib.hid (show OwnB x2.heap.size w9 (.slice ao9 (t + 1) cap9) (ys ++ [1]) from OwnB.of (n := t + 1) (by rw [List.map_append]; exact HO9.out))
              have HAN := Lib.hid (HOT.out.anew HAT2.out HG9.out HB9.out (fun k hk => by
                rcases HN9.out k hk with h | h
                · exact .inl h
                · right; rw [h]; simp))
              have HBA := Lib.hid ((HBT.out.grown HG9.out HBT.out.size (fun k hk => (HOT.out.blocks _ (List.mem_cons_of_mem _ (List.mem_map.2 ⟨_, List.mem_of_getElem? HAT2.out, rfl⟩)) k hk).1)).setCell (p := ⟨g, r, none⟩) hna.1 (.slice ao9 (t + 1) cap9))
              obtain ⟨R1, hR1⟩ : ∃ R1 : Nat, R1 = r + 1 := ⟨_, rfl⟩
              have hr1 : IntKind.i64.wrap ((r : Int) + 1) = (R1 : Int) := by rw [IntWalk.i64_in _ (by omega)]; omega
              have hr2 : (r : Int) + 1 = (R1 : Int) := by omega
              have hr3 : IntKind.i64.wrap (R1 : Int) = (R1 : Int) := IntWalk.i64_in _ (by omega)
              have HR1N := Lib.hid hR1
              have hrr : r < R1 := by omega
              clear hR1
              have HSS := Lib.hid (show (pz.set r (.slice ua t uc, ys)).set r (.slice ao9 (t + 1) cap9, ys ++ [1]) = pz.set r (.slice ao9 (t + 1) cap9, ys ++ [1]) from List.set_set ..)
              obtain ⟨W9, hW9⟩ : ∃ W9 : World, W9 = w9.setCell ⟨g, r, none⟩ (.slice ao9 (t + 1) cap9) := ⟨_, rfl⟩
              have HW9 := Lib.hid hW9
              rw [← hW9] at HAN HBA
              rw [HSS.out] at HAN
              clear hW9 hxa hna
              go_upto_region 20 with (fail)
              rw [← HW9.out]
              clear hx9 hf9
              go_wp2_with fail
              go_loopw [16] (fun k wr => ∃ j : Nat, R1 ≤ j ∧ j ≤ p ∧ k = .int .i64 (j : Int) ∧ Below W9.heap.size W9 wr) (fun k _ => p - (intOf k).toNat)
              case atStart => exact ⟨R1, Nat.le_refl _, by have := HR1N.out; omega, by congr 1, Below.refl _ _⟩
              case round =>
                obtain ⟨j, hj1, hj2, rfl, hbel⟩ := hrel
                have HBJ := Lib.hid hbel
                clear hbel
                by_cases hjp : j < p
                · have hjpi : (j : Int) < (p : Int) := by omega
                  have hj0 : (0 : Int) ≤ (j : Int) := by omega
                  have HOJ := Lib.hid (HAN.out.keptB HBJ.out)
                  have HB2J := Lib.hid (show Below X1.heap.size X1 wr from HX2.out.trans ((HBA.out.trans (HBJ.out.mono HBA.out.size)).mono HX2.out.size))
                  obtain ⟨ya, yc, y, hy, hye⟩ := row_at HOJ.out.Els (q := j) (by rw [List.length_set, HZL.out]; exact hjp)
                  obtain ⟨za, zc, z, hz, hze⟩ := row_at HE2.out (q := j) (by rw [HPL.out]; exact hjp)
                  have hyz : y = z := by
                    have h1 := xs_at hy
                    rw [List.getElem?_set, if_neg (by omega)] at hy
                    have h2 := xs_at hy
                    have h3 := HZS.out j (by omega)
                    rw [h2, xs_at hz] at h3
                    exact Option.some.inj h3
                  subst hyz
                  have h8y := HX8.out y (List.mem_of_getElem? (xs_at hz))
                  have hx1 : wr.cell? ⟨g, j, none⟩ = some (.slice ya (List.length y) yc) := by
                    have h := ((rdv_cells HOJ.out.row.rd).2 (by omega))
                    obtain ⟨b, off, hb, hc⟩ := h
                    simp only [Option.some.injEq, Addr.mk.injEq] at hb
                    obtain ⟨rfl, rfl, _⟩ := hb
                    have h1 := hc j _ hy
                    rw [Nat.zero_add] at h1
                    exact h1
                  obtain ⟨b7, o7, hao, hc7⟩ := (rdv_cells (HR2.out.kept HB2J.out)).2 (by omega)
                  subst hao
                  have hx7 : wr.cell? ⟨b7, o7 + j, none⟩ = some (.slice za (List.length y) zc) := hc7 j _ hz
                  have hzw := hze.kept HB2J.out
                  have hcv := fun nq : Nat => run_str (P := Try.prog) (wr.drewN nq) 38 9 5 Try.underlying38 Try.underlying5 Try.underlying9 (hye.kept (below_draws (Below.refl _ _) nq)) (lt256 _ h8y)
                  have hcw := fun nq : Nat => run_str (P := Try.prog) (wr.drewN nq) 38 9 5 Try.underlying38 Try.underlying5 Try.underlying9 (hzw.kept (below_draws (Below.refl _ _) nq)) (lt256 _ h8y)
                  clear hc7 hy hz hye hze hzw h8y
                  go_wp2_with fail
                  go_quiet (fail)
                  go_wp2_with fail
                  go_roundw
                  case rel => exact ⟨j + 1, by omega, by omega, by go_num, below_draws2 HBJ.out _⟩
                  case measure => simp [intOf]; omega
                · have hjp2 : j = p := by omega
                  subst hjp2
                  have hjpi : ¬ (j : Int) < (j : Int) := by omega
                  go_wp2_with fail
                  go_roundw
                  case rel =>
                    refine ⟨R1, pz.set r (.slice ao9 (t + 1) cap9, ys ++ [1]), by have := HR1N.out; omega, rfl, by rw [List.length_set, HZL.out], fun k hk => ?_, fun y hy => ?_, HAN.out.keptB HBJ.out, HBA.out.trans (HBJ.out.mono HBA.out.size)⟩
                    · rw [xs_set, List.getElem?_set, if_neg (by omega)]
                      exact HZS.out k (by omega)
                    · rw [xs_set] at hy
                      rcases List.mem_or_eq_of_mem_set hy with h | h
                      · exact HZ65.out y h
                      · rw [h, List.length_append, HYL.out, List.length_singleton]
                        have h1 := HZS.out r (Nat.le_refl _)
                        rw [xs_at HAT.out] at h1
                        have h2 := (HXI.out x (List.mem_of_getElem? h1.symm)).2
                        have h3 := HN.out
                        omega
                  case measure => simp [intOf]; have := HR1N.out; omega
        · have hpq2 : r = p := by omega
          subst hpq2
          have hpqi : ¬ (r : Int) < (r : Int) := by omega
          obtain ⟨W8, hW8⟩ : ∃ W8 : World, W8 = wr := ⟨_, rfl⟩
          rw [← hW8] at HBL ⊢
          clear hW8 hpq
          have HB8 := Lib.hid (HB2.out.trans ((HX2.out.trans (HBL.out.mono HX2.out.size)).mono HB2.out.size))
          have HRB8 := Lib.hid (HRB.out.kept HBL.out)
          have h8b := H256.out
          by_cases hq0 : 0 < r
          · have hq0i : (0 : Int) < (r : Int) := by omega
            have hq0b : decide ((r : Int) > 0) = true := decide_eq_true hq0i
            obtain ⟨y, hy⟩ : ∃ y, (xs ps)[0]? = some y := ⟨_, List.getElem?_eq_getElem (by rw [len_xs, HPL.out]; exact hq0)⟩
            have hAT := at_any (xs ps) B (.slice ao2 m cap2) 0 y W8 (by rw [len_xs, HPL.out]; exact HDC.out) hy HRB8.out H256.out (by have := HLEN.out; omega)
            rw [len_xs, HPL.out] at hAT
            have HAT := Lib.hid hAT
            have hy64 := (HXI.out y (List.mem_of_getElem? hy)).2
            clear hAT hy
            go_wp2_with fail
            refine HAT.out.mono ?_
            rintro e y2 ⟨u, rfl, hu, hb2⟩
            obtain ⟨ua, uc, rfl⟩ := hu.shape
            obtain ⟨n, hn⟩ : ∃ n, n = List.length y := ⟨_, rfl⟩
            rw [← hn] at hy64 ⊢
            have HU := Lib.hid (show OwnB W8.heap.size y2 (.slice ua n uc) y from by rw [hn]; exact hu)
            have HN := Lib.hid hn
            have HB82 := Lib.hid hb2
            clear hu hb2 hn HAT
            go_wp2_with fail
            go_loopw [110] (fun k wr => ∃ (t : Nat) (ys : By), t ≤ n ∧ k = .int .i64 (t : Int) ∧ ys.length = n ∧ OwnB W8.heap.size wr (.slice ua n uc) ys ∧ Below W8.heap.size W8 wr) (fun k _ => n - (intOf k).toNat)
            case atStart => exact ⟨0, y, Nat.zero_le _, rfl, HN.out.symm, HU.out, HB82.out⟩
            case round =>
              obtain ⟨t, ys, htn, rfl, hyl, hown, hbel⟩ := hrel
              have HYL := Lib.hid hyl
              have HBT := Lib.hid hbel
              have hub2 : wr.ownsRow W8.heap.size 5 1 (.slice ua n uc) n (ys.map u8v) := by have h := hown; unfold OwnB at h; rw [hyl] at h; exact h
              clear hyl hown hbel
              by_cases htl : t < n
              · have htni : (t : Int) < (n : Int) := by omega
                have ht0 : (0 : Int) ≤ (t : Int) := by omega
                obtain ⟨ug, rfl⟩ : ∃ ug, ua = some ⟨ug, 0, none⟩ := by
                  rcases hub2.2 with ⟨hv, h0⟩ | ⟨g, c, cur, h1, _⟩
                  · simp only [Value.slice.injEq] at hv; omega
                  · simp only [Value.slice.injEq] at h1; exact ⟨g, h1.1⟩
                have hc1 := hub2.cellAt t (by omega)
                have hfz := hub2.frozenAt t
                obtain ⟨b0, hb0⟩ : ∃ b0, ys[t]? = some b0 := ⟨_, List.getElem?_eq_getElem (by rw [HYL.out]; exact htl)⟩
                rw [List.getElem?_map, hb0] at hc1
                have hc2 : wr.cell? ⟨ug, t, none⟩ = some (.int .u8 (b0 : Int)) := hc1
                obtain ⟨D, hD⟩ : ∃ D : Nat, IntKind.u8.wrap ((b0 : Int) + 1) = (D : Int) := ⟨(IntKind.u8.wrap ((b0 : Int) + 1)).toNat, by rw [IntKind.wrap_u8]; omega⟩
                have HST := Lib.hid (hub2.stored t (.int .u8 (D : Int))).1
                have hub9 := own_base hub2 ug rfl
                have HBP := Lib.hid (HBT.out.setCell (p := ⟨ug, t, none⟩) hub9 (.int .u8 (D : Int)))
                clear hub2 hc1 hb0
                go_wp2_with fail
                go_roundw
                case rel =>
                  refine ⟨t + 1, ys.set t D, by omega, by go_num, by rw [List.length_set]; exact HYL.out, ?_, HBP.out⟩
                  refine OwnB.of (n := n) ?_
                  rw [List.map_set]
                  exact HST.out
                case measure => simp [intOf]; omega
              · have htn2 : t = n := by omega
                subst htn2
                have htni : ¬ (t : Int) < (t : Int) := by omega
                have hrb := HRB8.out.kept HBT.out
                have hcv := run_str (P := Try.prog) wr 38 9 5 Try.underlying38 Try.underlying5 Try.underlying9 hrb (lt256 _ h8b)
                have HAW := Lib.hid (awake5_any wr)
                clear hub2 hrb h8b
                go_wp2_with fail
                refine HAW.out.mono ?_
                rintro e y3 ⟨rfl, hb3⟩
                have HY3 := Lib.hid (below_then HBT.out hb3)
                clear hb3
                go_wp2_with fail
                go_ret
                exact ⟨rfl, HB8.out.trans (HY3.out.mono HB8.out.size)⟩
          · have hq0i : ¬ (0 : Int) < (r : Int) := by omega
            have hq0b : decide ((r : Int) > 0) = false := decide_eq_false hq0i
            have hrb := HRB8.out
            have hcv := run_str (P := Try.prog) W8 38 9 5 Try.underlying38 Try.underlying5 Try.underlying9 hrb (lt256 _ h8b)
            have HAW := Lib.hid (awake5_any W8)
            clear hrb h8b
            go_wp2_with fail
            refine HAW.out.mono ?_
            rintro e y3 ⟨rfl, hb3⟩
            have HY3 := Lib.hid hb3
            clear hb3
            go_wp2_with fail
            go_ret
            exact ⟨rfl, HB8.out.trans (HY3.out.mono HB8.out.size)⟩


end Go.Proofs.Yteloepccjoikdaa.Bc
