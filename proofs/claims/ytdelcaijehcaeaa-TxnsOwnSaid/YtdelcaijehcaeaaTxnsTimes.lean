/-
  The walk of TxnsTimes.
-/
import Derived.Test.YtdelcaijehcaeaaTxaw
import Derived.Test.YtdelcaijehcaeaaIsRow
namespace Go.Proofs.Ytdelcaijehcaeaa
set_option linter.unusedVariables false
open Go.RowKit

theorem and15 (a : Int) : 0 ≤ bits .and .i64 a 15 ∧ bits .and .i64 a 15 ≤ 15 := by
  have h : bits .and .i64 a 15 = IntKind.i64.wrap ((BitVec.ofInt 64 a &&& BitVec.ofInt 64 15).toNat : Int) := rfl
  have h1 : (BitVec.ofInt 64 a &&& BitVec.ofInt 64 15).toNat ≤ 15 := by
    rw [BitVec.toNat_and]
    exact Nat.le_trans Nat.and_le_right (by decide)
  rw [h, IntWalk.i64_in _ (by omega)]
  omega

theorem rdi_cells {w : World} {ao : Option Addr} {len cap : Nat} {xs : List Int} (h : Rd w (.slice ao len cap) (xs.map (Value.int .i64))) :
    len = xs.length ∧ (0 < len → ∃ b off, ao = some ⟨b, off, none⟩ ∧ ∀ i, i < len → w.cell? ⟨b, off + i, none⟩ = some (.int .i64 (xs.getD i 0))) := by
  obtain ⟨ao', cap', hv, _, hc⟩ := h
  simp only [List.length_map, Value.slice.injEq] at hv hc
  obtain ⟨rfl, hl, rfl⟩ := hv
  refine ⟨hl, fun hp => ?_⟩
  obtain ⟨b, off, ha, hcell⟩ := hc (by omega)
  refine ⟨b, off, ha, fun i hi => ?_⟩
  have := hcell i (by omega)
  rw [this, List.getD_eq_getElem?_getD, List.getElem?_map, List.getD_eq_getElem?_getD, List.getElem?_eq_getElem (show i < xs.length by omega)]
  rfl

theorem updT_len (l : List Tx) (id : Int) (f : Tx → Tx) : (updT l id f).length = l.length := by
  unfold updT
  split
  · rw [List.length_set]
  · rfl

set_option maxRecDepth 100000 in
set_option maxHeartbeats 4000000 in
theorem walk_TxnsTimes (a0 : Option Addr) (len0 cap0 : Nat) (z0 : List Int) (w : World) (w0 : IsRow .i64 w a0 len0 cap0 z0) :
    Calls Try.prog 7 #[.slice a0 len0 cap0] w fun e w' => e = .returned (.bool true) ∧ Below w.heap.size w w' := by
  obtain ⟨xs, hl, hr, _⟩ := isRow_rd w0
  clear w0
  have HC := Lib.hid (rdi_cells hr).2
  clear hr hl
  go_enter Try.func7, Try.ntmps7
  go_wp2_with fail
  refine (bknew_any w).mono ?_
  rintro e w1 ⟨g, rfl, hi, hb⟩
  have I1 := Lib.hid hi
  have B1 := Lib.hid hb
  clear hi hb
  go_wp2_with fail
  go_loopw [4, 6] (fun la i wr => ∃ k now : Nat, ∃ l : List Tx, k ≤ 100 ∧ now ≤ k + 1 ∧ l.length ≤ k ∧ la = .int .i64 (now : Int) ∧ i = .int .i64 (k : Int) ∧ IsBk w.heap.size wr g now l ∧ Below w.heap.size w wr) (fun _ i _ => 100 - (intOf i).toNat)
  case atStart => exact ⟨0, 1, [], by omega, by omega, Nat.le_refl _, rfl, rfl, I1.out, B1.out⟩
  case round =>
    obtain ⟨k, now, l, hk, hnow, hll, rfl, rfl, hi, hbel⟩ := hrel
    have HI := Lib.hid hi
    have HB := Lib.hid hbel
    clear hi hbel I1 B1
    by_cases hlt : k < len0 ∧ k < 100
    · obtain ⟨hlt1, hlt2⟩ := hlt
      obtain ⟨b, off, rfl, hcell⟩ := HC.out (by omega)
      have hx0 := hcell k hlt1
      obtain ⟨x, hxe⟩ : ∃ x, x = xs.getD k 0 := ⟨_, rfl⟩
      rw [← hxe] at hx0
      have hx := (HB.out.cell (p := ⟨b, off + k, none⟩) (World.block_lt_of_cell? _ _ hx0)).trans hx0
      clear hcell hxe hx0
      by_cases hbr : bits .and .i64 x 3 < 2
      · have hd : decide (bits .and .i64 x 3 < 2) = true := by simpa using hbr
        clear hbr
        go_wp2_with fail
        refine (bkbegin_any _ g now l wr HI.out (by omega)).mono ?_
        rintro e w2 ⟨rfl, hi, hb⟩
        have I2 := Lib.hid hi
        have B2 := Lib.hid (HB.out.trans hb)
        clear hi hb HI HB hx
        obtain ⟨l2, hl2⟩ : ∃ l2, l2 = l ++ [(⟨l.length + 1, 1, now, 0⟩ : Tx)] := ⟨_, rfl⟩
        rw [← hl2] at I2
        have hl2n : l2.length = l.length + 1 := by rw [hl2]; simp
        obtain ⟨L, hL⟩ : ∃ L, L = l.length := ⟨_, rfl⟩
        rw [← hL] at hl2n hll ⊢
        have hat : l2[L]? = some ⟨L + 1, 1, now, 0⟩ := by rw [hl2, hL]; simp
        have HL2 := Lib.hid hl2n
        have HAT := Lib.hid hat
        clear hl2 hL hl2n hat
        go_wp2_with fail
        refine (all_any _ g now l2 w2 I2.out (by rw [HL2.out]; omega)).mono ?_
        rintro e w3 ⟨ao, cap, rfl, hown, hb⟩
        obtain ⟨gg, cap', hvv, hc⟩ := tx_cells (B := w2.heap.size) (g := g) (now := now) hown HAT.out
        simp only [Value.slice.injEq] at hvv
        have hao := hvv.1
        clear hvv
        subst hao
        rw [HL2.out]
        have k1 : w3.cell? ⟨gg, L * 4 + 1, none⟩ = some (.int .i64 1) := (hc 1 (by decide)).1
        have k2 : w3.cell? ⟨gg, L * 4 + 2, none⟩ = some (.int .i64 (now : Int)) := (hc 2 (by decide)).1
        have k3 : w3.cell? ⟨gg, L * 4 + 3, none⟩ = some (.int .i64 0) := (hc 3 (by decide)).1
        have I3 := Lib.hid (I2.out.kept hb)
        have B3 := Lib.hid (below_then B2.out hb)
        have HLL := Lib.hid (show l2.length ≤ k + 1 by rw [HL2.out]; omega)
        have hne1 : ((now : Int) != (now : Int)) = false := by simp
        clear hc hown hb I2 B2
        go_wp2_with fail
        go_roundw
        case rel => exact ⟨k + 1, now, l2, by omega, by omega, HLL.out, rfl, by go_num, I3.out, B3.out⟩
        case measure => simp [intOf]; omega
      · have hd : decide (bits .and .i64 x 3 < 2) = false := by simpa using hbr
        clear hbr
        obtain ⟨i1, i2⟩ := and15 (x / 4)
        obtain ⟨id, hid⟩ : ∃ id, id = bits .and .i64 (x / 4) 15 := ⟨_, rfl⟩
        rw [← hid] at i1 i2
        have HID := Lib.hid hid
        clear hid
        cases hT : isT l id 1
        · have HT := Lib.hid hT
          clear hT
          go_wp2_with fail
          rw [← HID.out]
          refine (prep_no _ g now l wr id HI.out (by omega) (by omega) (by omega) HT.out).mono ?_
          rintro e w2 ⟨rfl, rfl⟩
          go_wp2_with fail
          go_roundw
          case rel => exact ⟨k + 1, now, l, by omega, by omega, by omega, rfl, by go_num, HI.out, HB.out⟩
          case measure => simp [intOf]; omega
        · have HT := Lib.hid hT
          clear hT
          go_wp2_with fail
          rw [← HID.out]
          refine (prep_yes _ g now l wr id HI.out (by omega) (by omega) (by omega) (by omega) HT.out).mono ?_
          rintro e w2 ⟨rfl, hi, hb⟩
          have I2 := Lib.hid hi
          have B2 := Lib.hid (HB.out.trans hb)
          have HLU := Lib.hid (updT_len l id fun t => ⟨t.i, 2, t.b, now + 1⟩)
          clear hi hb HI HB hx
          go_wp2_with fail
          refine (bknow_any _ g (now + 1) _ w2 I2.out).mono ?_
          rintro e w3 ⟨rfl, rfl⟩
          go_wp2_with fail
          go_roundw
          case rel => exact ⟨k + 1, now + 1, _, by omega, by omega, by rw [HLU.out]; omega, by go_num, by go_num, I2.out, B2.out⟩
          case measure => simp [intOf]; omega
    · go_wp2_with fail
      all_goals
        refine (bknow_any _ g now l wr HI.out).mono ?_
        rintro e w3 ⟨rfl, rfl⟩
        go_wp2_with fail
        refine (awake18_any _).mono ?_
        rintro e w4 ⟨rfl, hb⟩
        have B4 := Lib.hid (below_then HB.out hb)
        clear hb
        go_wp2_with fail
        go_ret
        exact ⟨rfl, B4.out⟩

end Go.Proofs.Ytdelcaijehcaeaa
