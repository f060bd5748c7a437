/-
  Layer 5: the law's Column.
-/
import Derived.Test.YteloepccjoikdaaBcr
import Derived.BigRegion
namespace Go.Proofs.Yteloepccjoikdaa.Bc
set_option linter.unusedVariables false
set_option linter.unusedSimpArgs false
open Go.RowKit

theorem lit_rd (w : World) (bs : By) (cs : Array Value) (n : Nat) (hc : cs.toList = bs.map u8v) (hn : n = bs.length) (hm : n ≤ 100) : Rd (w.alloc (.cells cs 5)) (.slice (some ⟨w.heap.size, 0, none⟩) n n) (bs.map u8v) := rd_lit w cs 5 n (bs.map u8v) hc (by rw [List.length_map]; exact hn) (by unfold maxLen; omega)
/-- What is laid anew hangs not on a row that was there. -/
theorem new_far {base n c g m : Nat} {w w2 : World} {v : Value} {ps : Row} {ys : List Value} (hrow : w.ownsRow base 38 1 v m (vs ps)) (hg : g = w.heap.size) (hr : Rd w2 (.slice (some ⟨g, 0, none⟩) n c) ys) : ∀ w'', w2.grownBy w'' v.ownBlock → Rd w'' (.slice (some ⟨g, 0, none⟩) n c) ys := fun w'' hgw => by
  refine rd_row (B := 0) hr (fun b off n c he _ e => ?_) hgw
  simp only [Value.slice.injEq, Option.some.injEq, Addr.mk.injEq] at he
  obtain ⟨⟨rfl, _⟩, _⟩ := he
  have := own_lt hrow e.symm
  omega

set_option maxRecDepth 100000 in
set_option maxHeartbeats 8000000 in
theorem column_any (pr : Row) (a0 : Option Addr) (len0 cap0 : Nat) (la : List Int) (a1 : Option Addr) (len1 cap1 : Nat) (how : Int) (w : World) (hpl : pr.length = len0) (hpr : Rd w (.slice a0 len0 cap0) (vs pr)) (hpe : Els w pr) (hp8 : ∀ y ∈ xs pr, ∀ a ∈ y, a < 256) (hla : la.length = len1) (hr : Rd w (.slice a1 len1 cap1) (la.map (.int .i64))) :
    Calls Try.prog 37 #[.slice a0 len0 cap0, .slice a1 len1 cap1, .int .i64 how] w fun e w' => ∃ v, e = .returned v ∧ ∃ ps, Far w.heap.size w' v ps ∧ ps.length ≤ 60 ∧ (∀ y ∈ xs ps, ∀ a ∈ y, a < 256) ∧ Below w.heap.size w w' := by
  have HLA := Lib.hid hla
  have HR := Lib.hid hr
  have HPL := Lib.hid hpl
  have HPR := Lib.hid hpr
  have HPE := Lib.hid hpe
  have HP8 := Lib.hid hp8
  have b255 : ∀ x, bits .and .i64 x 255 = x % 256 := fun x => and_lowI x 8 (by decide) 255 rfl
  have b3 : ∀ x, bits .and .i64 x 3 = x % 4 := fun x => and_lowI x 2 (by decide) 3 rfl
  have b1 : ∀ x, bits .and .i64 x 1 = x % 2 := fun x => and_lowI x 1 (by decide) 1 rfl
  clear hla hr hpl hpr hpe hp8
  go_enter Try.func37, Try.ntmps37
  go_wp2_with fail
  go_loopw [7, 8] (fun v k wr => ∃ (q : Nat) (ps : Row), q ≤ len1 ∧ q ≤ 60 ∧ k = .int .i64 (q : Int) ∧ ps.length = q ∧ (∀ y ∈ xs ps, ∀ a ∈ y, a < 256) ∧ Far w.heap.size wr v ps ∧ Below w.heap.size w wr) (fun _ k _ => 60 - (intOf k).toNat)
  case atStart => exact ⟨0, [], Nat.zero_le _, Nat.zero_le _, rfl, rfl, (fun y hy => by simp [xs] at hy), far_nil _ _, Below.refl _ _⟩
  case round =>
    obtain ⟨q, ps, hq, hq4, rfl, hpl, hin, hfar, hbel⟩ := hrel
    obtain ⟨ao, cap, rfl⟩ := hfar.row.shape
    rw [hpl] at hfar ⊢
    have HLEN := Lib.hid hpl
    have HIN := Lib.hid hin
    have HO := Lib.hid hfar
    have HBL := Lib.hid hbel
    clear hpl hin hfar hbel
    by_cases hlt : q < len1 ∧ q < 60
    · obtain ⟨hl1, hl2⟩ := hlt
      have hl1i : (q : Int) < (len1 : Int) := by omega
      have hl2i : (q : Int) < 60 := by omega
      have hq0 : (0 : Int) ≤ (q : Int) := by omega
      obtain ⟨b, off, rfl, hcell⟩ := (rd_i64_cells (HR.out.kept HBL.out)).2 (by omega)
      have hx := hcell q (by omega)
      obtain ⟨z, hz⟩ : ∃ z, z = la.getD q 0 := ⟨_, rfl⟩
      rw [← hz] at hx
      obtain ⟨A, hA⟩ : ∃ A : Nat, 97 + z % 4 = (A : Int) := ⟨(97 + z % 4).toNat, by omega⟩
      have hA2 : A < 256 := by omega
      have hA3 : IntKind.i64.wrap (A : Int) = (A : Int) := IntWalk.i64_in _ (by omega)
      have hA4 : IntKind.u8.wrap (A : Int) = (A : Int) := by rw [IntKind.wrap_u8]; omega
      obtain ⟨B, hB⟩ : ∃ B : Nat, 97 + z / 4 % 2 = (B : Int) := ⟨(97 + z / 4 % 2).toNat, by omega⟩
      have hB2 : B < 256 := by omega
      have hB3 : IntKind.i64.wrap (B : Int) = (B : Int) := IntWalk.i64_in _ (by omega)
      have hB4 : IntKind.u8.wrap (B : Int) = (B : Int) := by rw [IntKind.wrap_u8]; omega
      clear hcell hz
      go_wp2_with fail
      go_region
      obtain ⟨W2, hW2⟩ : ∃ W2 : World, W2 = (wr.alloc (.cells #[.int .u8 (A : Int), .int .u8 (B : Int)] 5)).drew := ⟨_, rfl⟩
      obtain ⟨g, hg⟩ : ∃ g, g = wr.heap.size := ⟨_, rfl⟩
      rw [← hW2, ← hg]
      have HBW := Lib.hid (show Below wr.heap.size wr W2 from by rw [hW2]; exact below_drw2 (below_alloc wr _))
      have hr2 : Rd W2 (.slice (some ⟨g, 0, none⟩) 2 2) (([A, B] : By).map u8v) := by
        rw [hW2, hg]
        exact (lit_rd wr [A, B] _ 2 rfl rfl (by decide)).kept (below_drw _ _)
      have HU2 := Lib.hid (new_far (w2 := W2) HO.out.row hg hr2)
      have H82 := Lib.hid (show ∀ a ∈ ([A, B] : By), a < 256 from fun a ha => by
        rcases List.mem_cons.1 ha with rfl | ha
        · exact hA2
        · rcases List.mem_cons.1 ha with rfl | ha
          · exact hB2
          · simp at ha)
      have HO2 := Lib.hid (HO.out.kept HBW.out)
      have hsz2 : w.heap.size ≤ W2.heap.size := Nat.le_trans HBL.out.size HBW.out.size
      have HX2 := Lib.hid (show W2.cell? ⟨b, off + q, none⟩ = some (.int .i64 z) from (HBW.out.cell (World.block_lt_of_cell? _ _ hx)).trans hx)
      clear hW2 hg hr2 hx hA hB
      rcases (by omega : how % 4 = 0 ∨ how % 4 = 1 ∨ how % 4 = 2 ∨ how % 4 = 3) with hm | hm | hm | hm
      · obtain ⟨D, hD⟩ : ∃ D : Nat, (q : Int) / 7 = (D : Int) := ⟨((q : Int) / 7).toNat, by omega⟩
        have hd1 : Int.tdiv (q : Int) 7 = (D : Int) := by rw [Int.tdiv_eq_ediv_of_nonneg (by omega), hD]
        have hd2 : IntKind.i64.wrap (D : Int) = (D : Int) := IntWalk.i64_in _ (by omega)
        obtain ⟨C, hC⟩ : ∃ C : Nat, 97 + (D : Int) = (C : Int) := ⟨97 + D, by omega⟩
        have hC2 : C < 256 := by omega
        have hC3 : IntKind.i64.wrap (C : Int) = (C : Int) := IntWalk.i64_in _ (by omega)
        have hC4 : IntKind.u8.wrap (C : Int) = (C : Int) := by rw [IntKind.wrap_u8]; omega
        go_upto_region 12 with (fail)
        obtain ⟨W3, hW3⟩ : ∃ W3 : World, W3 = W2.alloc (.cells #[.int .u8 (C : Int)] 5) := ⟨_, rfl⟩
        obtain ⟨g3, hg3⟩ : ∃ g3, g3 = W2.heap.size := ⟨_, rfl⟩
        rw [← hW3, ← hg3]
        have HB3 := Lib.hid (show Below wr.heap.size wr W3 from by rw [hW3]; exact below_then HBW.out (below_alloc W2 _))
        have HU3 := Lib.hid (new_far (w2 := W3) HO2.out.row hg3 (show Rd W3 (.slice (some ⟨g3, 0, none⟩) 1 1) (([C] : By).map u8v) from by rw [hW3, hg3]; exact lit_rd W2 [C] #[.int .u8 (C : Int)] 1 rfl rfl (by decide)))
        have H83 := Lib.hid (show ∀ a ∈ ([C] : By), a < 256 from fun a ha => by rw [List.mem_singleton.1 ha]; exact hC2)
        have HO3 := Lib.hid (HO.out.kept HB3.out)
        have hsz3 : w.heap.size ≤ W3.heap.size := Nat.le_trans HBL.out.size HB3.out.size
        clear hW3 hg3 hC
        have HOA := Lib.hid (show (W3.alloc (.cells #[.slice (some ⟨g3, 0, none⟩) 1 1] 38)).ownsRow w.heap.size 38 1 (.slice ao q cap) q (vs ps) from by have h := World.ownsRow.alloc HO3.out.row (.cells #[.slice (some ⟨g3, 0, none⟩) 1 1] 38); rw [HLEN.out] at h; exact h)
        have HLT := Lib.hid (rdS_lit W3 #[.slice (some ⟨g3, 0, none⟩) 1 1] 38 1 rfl)
        have hszB : w.heap.size ≤ (W3.alloc (.cells #[.slice (some ⟨g3, 0, none⟩) 1 1] 38)).heap.size := le_alloc0 hsz3 _
        have HONE := Lib.hid (ones_one (.slice (some ⟨g3, 0, none⟩) 1 1) rfl)
        go_wp2_with (at_builtin; go_must (refine wpList_append_k elmR rfl _ _ rfl w.heap.size _ _ _ rfl HOA.out _ [[.slice (some ⟨g3, 0, none⟩) 1 1]] rfl HLT.out HONE.out (by simp; omega) hszB (q + 1) rfl ?_); intro ao9 cap9 w9 hown9 hgrow9 hnew9; have HO9 := Lib.hid hown9; have HG9 := Lib.hid hgrow9; have HN9 := Lib.hid hnew9; clear hown9 hgrow9 hnew9)
        go_roundw
        case rel =>
          have hg9 : (W3).grownBy w9 (Value.slice ao q cap).ownBlock := grown_trans (grownBy_any (World.grownBy_alloc (W3) _ none)) HG9.out
          refine ⟨q + 1, ps ++ [(.slice (some ⟨g3, 0, none⟩) 1 1, [C])], by omega, by omega, by go_num, by rw [List.length_append, HLEN.out]; rfl, fun y hy => ?_, HO.out.snoc HB3.out HU3.out ?_ hg9 ?_, below_ownB (HBL.out.trans (HB3.out.mono HBL.out.size)) hsz3 hg9 (ownR_base HO.out.row)⟩
          · rw [xs_snoc] at hy
            rcases List.mem_append.1 hy with h | h
            · exact HIN.out y h
            · rw [List.mem_singleton.1 h]; exact H83.out
          · rw [HLEN.out]
            have h := HO9.out
            simpa using h
          · intro k hk
            rcases HN9.out k hk with h | h
            · exact .inl h
            · right; rw [h]; simp
        case measure => simp [intOf]; omega
      · by_cases hl0 : 0 < len0
        · have hl0i : (0 : Int) < (len0 : Int) := by omega
          have hl0b : decide ((len0 : Int) > 0) = true := decide_eq_true hl0i
          obtain ⟨M, hM⟩ : ∃ M : Nat, z % 256 = (M : Int) := ⟨(z % 256).toNat, by omega⟩
          obtain ⟨J, hJ⟩ : ∃ J : Nat, J = M % len0 := ⟨_, rfl⟩
          have hJ1 : Int.tmod (M : Int) (len0 : Int) = (J : Int) := by rw [Int.tmod_eq_emod_of_nonneg (by omega), hJ]; omega
          have hJl : J < len0 := by rw [hJ]; exact Nat.mod_lt _ hl0
          have hJi : (J : Int) < (len0 : Int) := by omega
          have hJ0 : (0 : Int) ≤ (J : Int) := by omega
          have hM0 : ¬ ((len0 : Int) = 0) := by omega
          have hM1 : ((len0 : Int) == 0) = false := beq_eq_false_iff_ne.2 hM0
          have hbw2 : Below w.heap.size w W2 := HBL.out.trans (HBW.out.mono HBL.out.size)
          obtain ⟨b3, off3, rfl, hcell3⟩ := (rdv_cells (HPR.out.kept hbw2)).2 hl0
          obtain ⟨ya, yc, y, hy, hye⟩ := row_at HPE.out (q := J) (by rw [HPL.out]; exact hJl)
          have hx3 : W2.cell? ⟨b3, off3 + J, none⟩ = some (.slice ya (List.length y) yc) := hcell3 J _ hy
          have hxz := HX2.out
          have HU3 := Lib.hid (far_old (v := .slice none 0 0) (g := 0) hbw2 hye (row := (Value.slice ao q cap).ownBlock) (fun g hg => ownR_base HO2.out.row g hg))
          have H83 := Lib.hid (HP8.out y (List.mem_of_getElem? (xs_at hy)))
          clear hcell3 hy hye hJ hbw2
          have HOA := Lib.hid (show (W2.alloc (.cells #[.slice ya (List.length y) yc] 38)).ownsRow w.heap.size 38 1 (.slice ao q cap) q (vs ps) from by have h := World.ownsRow.alloc HO2.out.row (.cells #[.slice ya (List.length y) yc] 38); rw [HLEN.out] at h; exact h)
          have HLT := Lib.hid (rdS_lit W2 #[.slice ya (List.length y) yc] 38 1 rfl)
          have hszB : w.heap.size ≤ (W2.alloc (.cells #[.slice ya (List.length y) yc] 38)).heap.size := le_alloc0 hsz2 _
          have HONE := Lib.hid (ones_one (.slice ya (List.length y) yc) rfl)
          go_wp2_with (at_builtin; go_must (refine wpList_append_k elmR rfl _ _ rfl w.heap.size _ _ _ rfl HOA.out _ [[.slice ya (List.length y) yc]] rfl HLT.out HONE.out (by simp; omega) hszB (q + 1) rfl ?_); intro ao9 cap9 w9 hown9 hgrow9 hnew9; have HO9 := Lib.hid hown9; have HG9 := Lib.hid hgrow9; have HN9 := Lib.hid hnew9; clear hown9 hgrow9 hnew9)
          go_roundw
          case rel =>
            have hg9 : (W2).grownBy w9 (Value.slice ao q cap).ownBlock := grown_trans (grownBy_any (World.grownBy_alloc (W2) _ none)) HG9.out
            refine ⟨q + 1, ps ++ [(.slice ya (List.length y) yc, y)], by omega, by omega, by go_num, by rw [List.length_append, HLEN.out]; rfl, fun y hy => ?_, HO.out.snoc HBW.out HU3.out ?_ hg9 ?_, below_ownB (HBL.out.trans (HBW.out.mono HBL.out.size)) hsz2 hg9 (ownR_base HO.out.row)⟩
            · rw [xs_snoc] at hy
              rcases List.mem_append.1 hy with h | h
              · exact HIN.out y h
              · rw [List.mem_singleton.1 h]; exact H83.out
            · rw [HLEN.out]
              have h := HO9.out
              simpa using h
            · intro k hk
              rcases HN9.out k hk with h | h
              · exact .inl h
              · right; rw [h]; simp
          case measure => simp [intOf]; omega
        · have hl0i : ¬ (0 : Int) < (len0 : Int) := by omega
          have hl0b : decide ((len0 : Int) > 0) = false := decide_eq_false hl0i
          have HOA := Lib.hid (show (W2.alloc (.cells #[.slice (some ⟨g, 0, none⟩) 2 2] 38)).ownsRow w.heap.size 38 1 (.slice ao q cap) q (vs ps) from by have h := World.ownsRow.alloc HO2.out.row (.cells #[.slice (some ⟨g, 0, none⟩) 2 2] 38); rw [HLEN.out] at h; exact h)
          have HLT := Lib.hid (rdS_lit W2 #[.slice (some ⟨g, 0, none⟩) 2 2] 38 1 rfl)
          have hszB : w.heap.size ≤ (W2.alloc (.cells #[.slice (some ⟨g, 0, none⟩) 2 2] 38)).heap.size := le_alloc0 hsz2 _
          have HONE := Lib.hid (ones_one (.slice (some ⟨g, 0, none⟩) 2 2) rfl)
          go_wp2_with (at_builtin; go_must (refine wpList_append_k elmR rfl _ _ rfl w.heap.size _ _ _ rfl HOA.out _ [[.slice (some ⟨g, 0, none⟩) 2 2]] rfl HLT.out HONE.out (by simp; omega) hszB (q + 1) rfl ?_); intro ao9 cap9 w9 hown9 hgrow9 hnew9; have HO9 := Lib.hid hown9; have HG9 := Lib.hid hgrow9; have HN9 := Lib.hid hnew9; clear hown9 hgrow9 hnew9)
          go_roundw
          case rel =>
            have hg9 : (W2).grownBy w9 (Value.slice ao q cap).ownBlock := grown_trans (grownBy_any (World.grownBy_alloc (W2) _ none)) HG9.out
            refine ⟨q + 1, ps ++ [(.slice (some ⟨g, 0, none⟩) 2 2, [A, B])], by omega, by omega, by go_num, by rw [List.length_append, HLEN.out]; rfl, fun y hy => ?_, HO.out.snoc HBW.out HU2.out ?_ hg9 ?_, below_ownB (HBL.out.trans (HBW.out.mono HBL.out.size)) hsz2 hg9 (ownR_base HO.out.row)⟩
            · rw [xs_snoc] at hy
              rcases List.mem_append.1 hy with h | h
              · exact HIN.out y h
              · rw [List.mem_singleton.1 h]; exact H82.out
            · rw [HLEN.out]
              have h := HO9.out
              simpa using h
            · intro k hk
              rcases HN9.out k hk with h | h
              · exact .inl h
              · right; rw [h]; simp
          case measure => simp [intOf]; omega
      · have HOA := Lib.hid (show (W2.alloc (.cells #[.slice (some ⟨g, 0, none⟩) 2 2] 38)).ownsRow w.heap.size 38 1 (.slice ao q cap) q (vs ps) from by have h := World.ownsRow.alloc HO2.out.row (.cells #[.slice (some ⟨g, 0, none⟩) 2 2] 38); rw [HLEN.out] at h; exact h)
        have HLT := Lib.hid (rdS_lit W2 #[.slice (some ⟨g, 0, none⟩) 2 2] 38 1 rfl)
        have hszB : w.heap.size ≤ (W2.alloc (.cells #[.slice (some ⟨g, 0, none⟩) 2 2] 38)).heap.size := le_alloc0 hsz2 _
        have HONE := Lib.hid (ones_one (.slice (some ⟨g, 0, none⟩) 2 2) rfl)
        go_wp2_with (at_builtin; go_must (refine wpList_append_k elmR rfl _ _ rfl w.heap.size _ _ _ rfl HOA.out _ [[.slice (some ⟨g, 0, none⟩) 2 2]] rfl HLT.out HONE.out (by simp; omega) hszB (q + 1) rfl ?_); intro ao9 cap9 w9 hown9 hgrow9 hnew9; have HO9 := Lib.hid hown9; have HG9 := Lib.hid hgrow9; have HN9 := Lib.hid hnew9; clear hown9 hgrow9 hnew9)
        go_roundw
        case rel =>
          have hg9 : (W2).grownBy w9 (Value.slice ao q cap).ownBlock := grown_trans (grownBy_any (World.grownBy_alloc (W2) _ none)) HG9.out
          refine ⟨q + 1, ps ++ [(.slice (some ⟨g, 0, none⟩) 2 2, [A, B])], by omega, by omega, by go_num, by rw [List.length_append, HLEN.out]; rfl, fun y hy => ?_, HO.out.snoc HBW.out HU2.out ?_ hg9 ?_, below_ownB (HBL.out.trans (HBW.out.mono HBL.out.size)) hsz2 hg9 (ownR_base HO.out.row)⟩
          · rw [xs_snoc] at hy
            rcases List.mem_append.1 hy with h | h
            · exact HIN.out y h
            · rw [List.mem_singleton.1 h]; exact H82.out
          · rw [HLEN.out]
            have h := HO9.out
            simpa using h
          · intro k hk
            rcases HN9.out k hk with h | h
            · exact .inl h
            · right; rw [h]; simp
        case measure => simp [intOf]; omega
      · have HOA := Lib.hid (show (W2.alloc (.cells #[.slice (some ⟨g, 0, none⟩) 2 2] 38)).ownsRow w.heap.size 38 1 (.slice ao q cap) q (vs ps) from by have h := World.ownsRow.alloc HO2.out.row (.cells #[.slice (some ⟨g, 0, none⟩) 2 2] 38); rw [HLEN.out] at h; exact h)
        have HLT := Lib.hid (rdS_lit W2 #[.slice (some ⟨g, 0, none⟩) 2 2] 38 1 rfl)
        have hszB : w.heap.size ≤ (W2.alloc (.cells #[.slice (some ⟨g, 0, none⟩) 2 2] 38)).heap.size := le_alloc0 hsz2 _
        have HONE := Lib.hid (ones_one (.slice (some ⟨g, 0, none⟩) 2 2) rfl)
        go_wp2_with (at_builtin; go_must (refine wpList_append_k elmR rfl _ _ rfl w.heap.size _ _ _ rfl HOA.out _ [[.slice (some ⟨g, 0, none⟩) 2 2]] rfl HLT.out HONE.out (by simp; omega) hszB (q + 1) rfl ?_); intro ao9 cap9 w9 hown9 hgrow9 hnew9; have HO9 := Lib.hid hown9; have HG9 := Lib.hid hgrow9; have HN9 := Lib.hid hnew9; clear hown9 hgrow9 hnew9)
        go_roundw
        case rel =>
          have hg9 : (W2).grownBy w9 (Value.slice ao q cap).ownBlock := grown_trans (grownBy_any (World.grownBy_alloc (W2) _ none)) HG9.out
          refine ⟨q + 1, ps ++ [(.slice (some ⟨g, 0, none⟩) 2 2, [A, B])], by omega, by omega, by go_num, by rw [List.length_append, HLEN.out]; rfl, fun y hy => ?_, HO.out.snoc HBW.out HU2.out ?_ hg9 ?_, below_ownB (HBL.out.trans (HBW.out.mono HBL.out.size)) hsz2 hg9 (ownR_base HO.out.row)⟩
          · rw [xs_snoc] at hy
            rcases List.mem_append.1 hy with h | h
            · exact HIN.out y h
            · rw [List.mem_singleton.1 h]; exact H82.out
          · rw [HLEN.out]
            have h := HO9.out
            simpa using h
          · intro k hk
            rcases HN9.out k hk with h | h
            · exact .inl h
            · right; rw [h]; simp
        case measure => simp [intOf]; omega
    · rcases (by omega : (¬ (q : Int) < (len1 : Int)) ∨ ((q : Int) < (len1 : Int) ∧ ¬ (q : Int) < 60)) with he1 | ⟨he1, he2⟩
      · go_wp2_with fail
        go_ret
        exact ⟨_, rfl, ps, HO.out, by rw [HLEN.out]; exact hq4, HIN.out, HBL.out⟩
      · go_wp2_with fail
        go_ret
        exact ⟨_, rfl, ps, HO.out, by rw [HLEN.out]; exact hq4, HIN.out, HBL.out⟩


end Go.Proofs.Yteloepccjoikdaa.Bc
