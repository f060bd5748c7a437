/-
  The walk of TxnsOwn.
-/
import Derived.Test.YtdelcaijehcaeaaTxnsTimes
namespace Go.Proofs.Ytdelcaijehcaeaa
set_option linter.unusedVariables false
open Go.RowKit

set_option maxRecDepth 100000 in
set_option maxHeartbeats 4000000 in
theorem walk_TxnsOwn (a0 : Int) (w0 : (Lit.int .i64 a0).wf = true) (w : World) :
    Calls Try.prog 8 #[.int .i64 a0] w fun e w' => e = .returned (.bool true) ∧ Below w.heap.size w w' := by
  clear w0
  obtain ⟨i1, i2⟩ := and15 a0
  obtain ⟨N, hN⟩ : ∃ N : Nat, bits .and .i64 a0 15 = (N : Int) := ⟨(bits .and .i64 a0 15).toNat, by omega⟩
  have hN15 : N ≤ 15 := by omega
  have HN := Lib.hid hN
  clear i1 i2 hN
  go_enter Try.func8, Try.ntmps8
  go_wp2_with fail
  refine (bknew_any w).mono ?_
  rintro e w1 ⟨g, rfl, hi, hb⟩
  have I1 := Lib.hid hi
  have B1 := Lib.hid hb
  clear hi hb
  go_wp2_with fail
  rw [HN.out]
  go_loopw [4] (fun i wr => ∃ k : Nat, ∃ l : List Tx, k ≤ N ∧ l.length = k ∧ (∀ t ∈ l, t.s = 1) ∧ i = .int .i64 (k : Int) ∧ IsBk w.heap.size wr g 1 l ∧ Below w.heap.size w wr) (fun i _ => N - (intOf i).toNat)
  case atStart => exact ⟨0, [], Nat.zero_le _, rfl, (by simp), rfl, I1.out, B1.out⟩
  case round =>
    obtain ⟨k, l, hk, hll, hst, rfl, hi, hbel⟩ := hrel
    have HI := Lib.hid hi
    have HB := Lib.hid hbel
    have HLL := Lib.hid hll
    have HST := Lib.hid hst
    clear hi hbel hll hst I1 B1
    by_cases hlt : k < N
    · go_wp2_with fail
      refine (bkbegin_any _ g 1 l wr HI.out (by rw [HLL.out]; omega)).mono ?_
      rintro e w2 ⟨rfl, hi, hb⟩
      have I2 := Lib.hid hi
      have B2 := Lib.hid (HB.out.trans hb)
      clear hi hb HI HB
      go_wp2_with fail
      go_roundw
      case rel =>
        refine ⟨k + 1, _, by omega, by simp [HLL.out], ?_, by go_num, I2.out, B2.out⟩
        intro t ht
        rw [List.mem_append] at ht
        rcases ht with ht | ht
        · exact HST.out t ht
        · simp at ht; subst ht; rfl
      case measure => simp [intOf]; omega
    · have hkN : k = N := by omega
      subst hkN
      obtain ⟨wo, rfl⟩ : ∃ wo : World, wo = wr := ⟨_, rfl⟩
      go_wp2_with fail
      refine (all_any _ g 1 l wo HI.out (by rw [HLL.out]; omega)).mono ?_
      rintro e w3 ⟨ao, cap, rfl, hown, hb⟩
      rw [HLL.out] at hown ⊢
      have HO3 := Lib.hid hown
      have HB3 := Lib.hid hb
      clear hown hb
      go_wp2_with fail
      go_loopw [25] (fun i wx => ∃ j : Nat, ∃ l2 : List Tx, j ≤ k ∧ l2.length = k ∧ i = .int .i64 (j : Int) ∧ wx.ownsRow wo.heap.size 47 4 (.slice ao k cap) k (flat l2) ∧ Below wo.heap.size wo wx) (fun i _ => k - (intOf i).toNat)
      case atStart => exact ⟨0, l, Nat.zero_le _, HLL.out, rfl, HO3.out, HB3.out⟩
      case round =>
        obtain ⟨wx, rfl⟩ : ∃ wx : World, wx = wr := ⟨_, rfl⟩
        obtain ⟨j, l2, hj, hl2, rfl, ho, hbx⟩ := hrel
        have HL2 := Lib.hid hl2
        have HO := Lib.hid ho
        have HBX := Lib.hid hbx
        clear hl2 ho hbx HO3 HB3
        by_cases hjl : j < k
        · obtain ⟨t, ht⟩ : ∃ t, l2[j]? = some t := ⟨_, List.getElem?_eq_getElem (by rw [HL2.out]; exact hjl)⟩
          have ho2 := HO.out
          rw [← HL2.out] at ho2
          obtain ⟨gg, cap', hvv, hc⟩ := tx_cells (B := wo.heap.size) (g := g) (now := 1) ho2 ht
          simp only [Value.slice.injEq] at hvv
          have hao := hvv.1
          clear hvv ho2
          subst hao
          have d1 : wx.cell? ⟨gg, j * 4 + 1, none⟩ = some (.int .i64 (t.s : Int)) := (hc 1 (by decide)).1
          have e1 := (hc 1 (by decide)).2
          have HT := Lib.hid ht
          have HBG := Lib.hid (own_base HO.out gg rfl)
          clear hc ht
          go_wp2_with fail
          go_roundw
          case rel =>
            have hs := (HO.out.stored (j * 4 + 1) (.int .i64 (4 : Int))).1
            rw [flat_set l2 j t ⟨t.i, 4, t.b, t.e⟩ HT.out 1 (by decide) (.int .i64 (4 : Int)) rfl] at hs
            exact ⟨j + 1, _, by omega, by rw [List.length_set]; exact HL2.out, by go_num, hs, HBX.out.setCell HBG.out _⟩
          case measure => simp [intOf]; omega
        · obtain ⟨i0, hi0, hz0, hz1, hz2⟩ := info_parts infoTx
          have HOA := Lib.hid (fun o => HO.out.alloc o)
          have HSZ := Lib.hid (show wo.heap.size ≤ (wx.alloc (.cells #[.int .i64 99, .int .i64 0, .int .i64 0, .int .i64 0] 47)).heap.size by simp; have := HBX.out.size; omega)
          have H2 := Lib.hid (show ∀ q u, [Value.int .i64 99, .int .i64 0, .int .i64 0, .int .i64 0][q]? = some u → (wx.alloc (.cells #[.int .i64 99, .int .i64 0, .int .i64 0, .int .i64 0] 47)).cell? ((⟨wx.heap.size, 0, none⟩ : Addr).add q) = some u from World.news_of_block (cs := #[.int .i64 99, .int .i64 0, .int .i64 0, .int .i64 0]) (t := 47) (fr := (0, 0)) (heap_alloc_new wx _))
          have H3 := Lib.hid (show ∀ u ∈ [Value.int .i64 99, .int .i64 0, .int .i64 0, .int .i64 0], u.oneCell' = true by simp [Value.oneCell'])
          go_wp2_with (at_builtin; go_must (refine wpList_append_own _ rfl _ _ 44 rfl wo.heap.size 47 i0 _ 4 32 Try.underlying44 hi0 hz0 hz1 hz2 rfl (by decide) (.slice ao k cap) k (flat l2) rfl (HOA.out _) ⟨wx.heap.size, 0, none⟩ 1 1 [.int .i64 99, .int .i64 0, .int .i64 0, .int .i64 0] rfl rfl H2.out H3.out (by unfold maxLen; omega) (by omega) HSZ.out ?_); intro v' w5 hown' hgrow _; obtain ⟨ao5, cap5, hv5⟩ := own_shape hown'; subst hv5; have HB5 := Lib.hid ((HBX.out.alloc HBX.out.size _).grown hgrow HSZ.out (own_base HO.out)); have I5 := Lib.hid (HI.out.kept HB5.out); clear hgrow hown')
          refine (all_any _ g 1 l w5 I5.out (by rw [HLL.out]; omega)).mono ?_
          rintro e w6 ⟨ao6, cap6, rfl, hown, hb⟩
          have HO6 := Lib.hid hown
          have HB6 := Lib.hid (below_then (HB.out) (below_then HB5.out hb))
          have I6 := Lib.hid (I5.out.kept hb)
          rw [HLL.out]
          clear hown hb
          go_wp2_with fail
          go_loopw [40] (fun i wy => ∃ j : Nat, j ≤ k ∧ i = .int .i64 (j : Int) ∧ Below w6.heap.size w6 wy) (fun i _ => k - (intOf i).toNat)
          case atStart => exact ⟨0, Nat.zero_le _, rfl, Below.refl _ _⟩
          case round =>
            obtain ⟨wy, rfl⟩ : ∃ wy : World, wy = wr := ⟨_, rfl⟩
            obtain ⟨q, hq, rfl, hby⟩ := hrel
            have HBY := Lib.hid hby
            clear hby
            by_cases hql : q < k
            · obtain ⟨t, ht⟩ : ∃ t, l[q]? = some t := ⟨_, List.getElem?_eq_getElem (by rw [HLL.out]; exact hql)⟩
              obtain ⟨gg, cap', hvv, hc⟩ := tx_cells (B := w5.heap.size) (g := g) (now := 1) HO6.out ht
              simp only [Value.slice.injEq] at hvv
              have hao := hvv.1
              clear hvv
              subst hao
              have hs1 := HST.out t (List.mem_of_getElem? ht)
              have hcell : ∀ z, z < 4 → wy.cell? ⟨gg, q * 4 + z, none⟩ = t.cells[z]? := by
                intro z hz
                have h1 := (hc z hz).1
                obtain ⟨u, hu⟩ : ∃ u, t.cells[z]? = some u := ⟨_, List.getElem?_eq_getElem (by simp [Tx.cells]; omega)⟩
                rw [hu] at h1 ⊢
                exact (HBY.out.cell (p := ⟨gg, q * 4 + z, none⟩) (World.block_lt_of_cell? _ _ h1)).trans h1
              have k0 : wy.cell? ⟨gg, q * 4, none⟩ = some (.int .i64 (t.i : Int)) := hcell 0 (by decide)
              have k1 : wy.cell? ⟨gg, q * 4 + 1, none⟩ = some (.int .i64 1) := by have := hcell 1 (by decide); rw [this]; show some (Value.int .i64 (t.s : Int)) = _; rw [hs1]; rfl
              have k2 : wy.cell? ⟨gg, q * 4 + 2, none⟩ = some (.int .i64 (t.b : Int)) := hcell 2 (by decide)
              have k3 : wy.cell? ⟨gg, q * 4 + 3, none⟩ = some (.int .i64 (t.e : Int)) := hcell 3 (by decide)
              clear hc hcell ht hs1
              go_wp2_with fail
              go_roundw
              case rel => exact ⟨q + 1, by omega, by go_num, below_lay HBY.out _⟩
              case measure => simp [intOf]; omega
            · have I7 := Lib.hid (I6.out.kept HBY.out)
              have B7 := Lib.hid (below_then HB6.out HBY.out)
              have hkk : ((k : Int) == (k : Int)) = true := by rw [beq_iff_eq]
              go_wp2_with fail
              refine (all_any _ g 1 l wy I7.out (by rw [HLL.out]; omega)).mono ?_
              rintro e w8 ⟨ao8, cap8, rfl, hown, hb⟩
              have B8 := Lib.hid (below_then B7.out hb)
              rw [HLL.out]
              clear hown hb
              go_wp2_with fail
              refine (awake18_any _).mono ?_
              rintro e w9 ⟨rfl, hb⟩
              have B9 := Lib.hid (below_then B8.out hb)
              clear hb
              go_wp2_with fail
              go_ret
              exact ⟨rfl, B9.out⟩

end Go.Proofs.Ytdelcaijehcaeaa
