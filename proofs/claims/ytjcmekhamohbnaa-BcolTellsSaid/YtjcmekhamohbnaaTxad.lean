/-
  Contracts of the reference: Zig, texts, number64, Bytes, told.
  Contracts of the reference: number64, Bytes, told.
  Contracts of the reference: unlike.
  Contracts of the reference: tell: one behind the other; runs.
-/
import Derived.Test.YtjcmekhamohbnaaTxmm
import Derived.Test.YtjcmekhamohbnaaRefeh
import Derived.Test.YtjcmekhamohbnaaBcolr
import Derived.Deep.RegionHeld3
namespace Go.Proofs.Ytjcmekhamohbnaa.Bc
set_option linter.unusedVariables false
set_option linter.unusedSimpArgs false
open Go.RowKit

set_option maxRecDepth 100000 in
set_option maxHeartbeats 8000000 in
theorem refzig_any (n : Int) (w : World) (h : I64 n) : Calls Try.prog 48 #[.int .i64 n] w fun e w' => e = .returned (.int .u64 (zigN n : Nat)) ∧ w = w' := by
  unfold I64 at h
  by_cases h0 : 0 ≤ n
  · have hz : ¬ n < 0 := by omega
    obtain ⟨Z, hZ⟩ : ∃ Z : Nat, Z = zigN n := ⟨_, rfl⟩
    have hzn : (Z : Int) = 2 * n := by rw [hZ]; unfold zigN; rw [if_pos h0]; omega
    have hw : IntKind.u64.wrap n = n := IntWalk.u64_in _ (by omega)
    have hw2 : IntKind.u64.wrap (2 * n) = (Z : Int) := by rw [hzn]; exact IntWalk.u64_in _ (by omega)
    rw [← hZ]
    clear hZ hzn
    go_enter Try.func48, Try.ntmps48
    go_wp2
    go_ret
    exact ⟨rfl, rfl⟩
  · have hz : n < 0 := by omega
    obtain ⟨Z, hZ⟩ : ∃ Z : Nat, Z = zigN n := ⟨_, rfl⟩
    obtain ⟨m, hm⟩ : ∃ m : Int, m = -(n + 1) := ⟨_, rfl⟩
    have hzn : (Z : Int) = 2 * m + 1 := by rw [hZ, hm]; unfold zigN; rw [if_neg h0]; omega
    have hw0 : IntKind.i64.wrap (n + 1) = n + 1 := IntWalk.i64_in _ (by omega)
    have hw1 : IntKind.i64.wrap (-(n + 1)) = m := by rw [← hm]; exact IntWalk.i64_in _ (by omega)
    have hw2 : IntKind.u64.wrap m = m := IntWalk.u64_in _ (by omega)
    have hw3 : IntKind.u64.wrap (2 * m) = 2 * m := IntWalk.u64_in _ (by omega)
    have hw4 : IntKind.u64.wrap (2 * m + 1) = (Z : Int) := by rw [hzn]; exact IntWalk.u64_in _ (by omega)
    rw [← hZ]
    clear hZ hzn hm
    go_enter Try.func48, Try.ntmps48
    go_wp2
    go_ret
    exact ⟨rfl, rfl⟩

theorem xor_high (r : Nat) (h : r < 9223372036854775808) : r ^^^ 9223372036854775808 = 9223372036854775808 + r := by
  have e63 : (9223372036854775808 : Nat) = 2 ^ 63 := by decide
  apply Nat.eq_of_testBit_eq
  intro i
  rw [Nat.testBit_xor, e63, Nat.testBit_two_pow]
  rcases Nat.lt_trichotomy i 63 with hi | hi | hi
  · rw [Nat.testBit_two_pow_add_gt hi]
    have : ¬ 63 = i := by omega
    simp [this]
  · subst hi
    have h2 : r.testBit 63 = false := Nat.testBit_lt_two_pow (by rw [← e63]; exact h)
    rw [Nat.testBit_two_pow_add_eq, h2]
    simp
  · have hp : (2 : Nat) ^ 64 ≤ 2 ^ i := Nat.pow_le_pow_right (by decide) hi
    have e64 : (2 : Nat) ^ 64 = 18446744073709551616 := by decide
    have h1 : r.testBit i = false := Nat.testBit_lt_two_pow (by omega)
    have h2 : (2 ^ 63 + r).testBit i = false := Nat.testBit_lt_two_pow (by rw [← e63]; omega)
    have h3 : ¬ 63 = i := by omega
    rw [h1, h2]
    simp [h3]
theorem xor_back_nat (r : Nat) (h : r < 9223372036854775808) : (9223372036854775808 + r) ^^^ 9223372036854775808 = r := by
  rw [← xor_high r h, Nat.xor_assoc, Nat.xor_self, Nat.xor_zero]
theorem xor_top (n : Int) (h : I64 n) : bits .xor .u64 (IntKind.u64.wrap n) 9223372036854775808 = (offN n : Nat) := by
  unfold I64 at h
  have e : (9223372036854775808 : Int) = ((9223372036854775808 : Nat) : Int) := rfl
  by_cases h0 : 0 ≤ n
  · have e1 : IntKind.u64.wrap n = ((n.toNat : Nat) : Int) := by rw [IntWalk.u64_in _ (by omega)]; omega
    rw [e1, e, bits_xor_u64_nat _ _ (by omega) (by decide), xor_high _ (by omega)]
    unfold offN
    omega
  · have e1 : IntKind.u64.wrap n = ((9223372036854775808 + (n + 9223372036854775808).toNat : Nat) : Int) := by rw [IntKind.wrap_u64]; omega
    rw [e1, e, bits_xor_u64_nat _ _ (by omega) (by decide), xor_back_nat _ (by omega)]
    rfl
theorem xor_back (n : Int) (h : I64 n) : IntKind.i64.wrap (bits .xor .u64 ((offN n : Nat) : Int) 9223372036854775808) = n := by
  unfold I64 at h
  have e : (9223372036854775808 : Int) = ((9223372036854775808 : Nat) : Int) := rfl
  by_cases h0 : 0 ≤ n
  · have e1 : offN n = 9223372036854775808 + n.toNat := by unfold offN; omega
    rw [e1, e, bits_xor_u64_nat _ _ (by omega) (by decide), xor_back_nat _ (by omega)]
    rw [IntWalk.i64_in _ (by omega)]
    omega
  · rw [e, bits_xor_u64_nat _ _ (by unfold offN; omega) (by decide), xor_high _ (by unfold offN; omega), IntKind.wrap_i64]
    unfold offN
    omega
theorem far_own {base m : Nat} {w w2 : World} {v u : Value} {ps : Row} {x : By} (hrow : w.ownsRow base 24 1 v m (vs ps)) (hu : OwnB w.heap.size w2 u x) : ∀ w'', w2.grownBy w'' v.ownBlock → Rd w'' u (x.map u8v) := fun w'' hgw =>
  OwnB.rd (World.ownsRow.kept hu hgw (by
    cases e : u.ownBlock with
    | none => exact .inl rfl
    | some g =>
      right
      intro e2
      have h1 := own_lt hrow e2.symm
      have h2 := ownB_base hu g e
      omega))

theorem OwnE.toFar {base : Nat} {w : World} {v : Value} {ps : Row} (h : OwnE base w v ps) : Far base w v ps :=
  ⟨h.row, fun w' hg p hp => Rd.of_owns (World.ownsRow.kept (h.els p hp) hg (by
    obtain ⟨i, hi⟩ := List.getElem?_of_mem hp
    cases e : p.1.ownBlock with
    | none => exact .inl rfl
    | some g =>
      right
      intro e2
      have hj : (v :: vs ps)[i + 1]? = some p.1 := by
        rw [List.getElem?_cons_succ]
        unfold vs
        rw [List.getElem?_map, hi]
        rfl
      have := h.apart 0 (i + 1) v p.1 g rfl hj e2.symm e
      omega))⟩

set_option maxRecDepth 100000 in
set_option maxHeartbeats 8000000 in
theorem textsE_any (l : List Int) (lv : Value) (w : World) (hI : ∀ n ∈ l, I64 n) (hl : l.length ≤ 100000) (hr : Rd w lv (l.map (.int .i64))) :
    Calls Try.prog 62 #[lv] w fun e w' => ∃ v, e = .returned v ∧ ∃ ps, OwnE w.heap.size w' v ps ∧ xs ps = TX l ∧ Below w.heap.size w w' := by
  obtain ⟨ao0, cap0, rfl⟩ := rd_shape1 hr
  obtain ⟨m, hm⟩ : ∃ m, m = l.length := ⟨_, rfl⟩
  rw [List.length_map, ← hm] at hr ⊢
  rw [← hm] at hl
  have HR := Lib.hid hr
  have HM := Lib.hid hm
  have HI := Lib.hid hI
  clear hr hm hI
  go_enter Try.func62, Try.ntmps62
  go_wp2_with fail
  go_loopw [3, 4] (fun v k wr => ∃ (q : Nat) (ps : Row), q ≤ m ∧ k = .int .i64 (q : Int) ∧ ps.length = q ∧ xs ps = TX (l.take q) ∧ OwnE w.heap.size wr v ps ∧ Below w.heap.size w wr) (fun _ k _ => m - (intOf k).toNat)
  case atStart => exact ⟨0, [], Nat.zero_le _, rfl, rfl, rfl, ownE_nil _ _, Below.refl _ _⟩
  case round =>
    obtain ⟨q, ps, hq, rfl, hpl, hxs, hfar, hbel⟩ := hrel
    obtain ⟨ao, cap, rfl⟩ := hfar.row.shape
    rw [hpl] at hfar ⊢
    have HLEN := Lib.hid hpl
    have HXS := Lib.hid hxs
    have HO := Lib.hid hfar
    have HBL := Lib.hid hbel
    clear hpl hxs hfar hbel
    by_cases hlt : q < m
    · have hl1i : (q : Int) < (m : Int) := by omega
      have hq0 : (0 : Int) ≤ (q : Int) := by omega
      obtain ⟨b, off, rfl, hcell⟩ := (rd_i64_cells (HR.out.kept HBL.out)).2 (by omega)
      have hx := hcell q (by omega)
      have hat := getD_at (l := l) (q := q) (by rw [← HM.out]; exact hlt)
      obtain ⟨z, hz⟩ : ∃ z, z = l.getD q 0 := ⟨_, rfl⟩
      rw [← hz] at hx hat
      have hIz := HI.out z (List.mem_of_getElem? hat)
      have hxor := xor_top z hIz
      have hU0 := offN_lt hIz
      obtain ⟨U, hUe⟩ : ∃ U, U = offN z := ⟨_, rfl⟩
      rw [← hUe] at hxor hU0
      have hU := Lib.hid hU0
      clear hU0
      have HUE := Lib.hid hUe
      have HAT := Lib.hid hat
      clear hcell hz hat hUe
      go_wp2_with fail
      obtain ⟨W2, hW2⟩ : ∃ W2 : World, W2 = wr := ⟨_, rfl⟩
      rw [← hW2] at HO HBL hx ⊢
      clear hW2 hx
      go_loopw [6, 7] (fun v k wr => ∃ j : Nat, j ≤ 8 ∧ k = .int .i64 (7 - (j : Int)) ∧ OwnB W2.heap.size wr v ((dig 8 U).take j) ∧ Below W2.heap.size W2 wr) (fun _ k _ => (intOf k + 1).toNat)
      case atStart => exact ⟨0, Nat.zero_le _, rfl, ownB_nil _ _, Below.refl _ _⟩
      case round =>
        obtain ⟨j, hj8, rfl, hown, hbel⟩ := hrel
        obtain ⟨ab, cb, rfl⟩ := hown.shape
        have hjl : ((dig 8 U).take j).length = j := by rw [List.length_take, dig_len]; omega
        rw [hjl] at hown ⊢
        have HOB := Lib.hid hown
        have HBJ := Lib.hid hbel
        clear hown hbel hjl
        rcases (by omega : j = 0 ∨ j = 1 ∨ j = 2 ∨ j = 3 ∨ j = 4 ∨ j = 5 ∨ j = 6 ∨ j = 7 ∨ j = 8) with rfl | rfl | rfl | rfl | rfl | rfl | rfl | rfl | rfl
        · obtain ⟨D, hD⟩ : ∃ D : Nat, (U : Int) / 72057594037927936 % 256 = (D : Int) := ⟨((U : Int) / 72057594037927936 % 256).toNat, by omega⟩
          have hdig : (dig 8 U)[0]? = some D := by
            have e : D = U / 256 ^ (7 - 0) % 256 := by
              rw [show (256 : Nat) ^ (7 - 0) = 72057594037927936 by decide]
              omega
            rw [e]
            rfl
          have HDG := Lib.hid (show (dig 8 U).take (0 + 1) = (dig 8 U).take 0 ++ [D] from by rw [List.take_add_one, hdig]; rfl)
          have HOA := Lib.hid (show (wr.alloc (.cells #[.int .u8 (D : Int)] 5)).ownsRow W2.heap.size 5 1 (.slice ab 0 cb) 0 (((dig 8 U).take 0).map u8v) from World.ownsRow.alloc (show wr.ownsRow W2.heap.size 5 1 (.slice ab 0 cb) 0 (((dig 8 U).take 0).map u8v) from HOB.out) _)
          have HLT := Lib.hid (rdS_lit wr #[.int .u8 (D : Int)] 5 1 rfl)
          have hszB : W2.heap.size ≤ (wr.alloc (.cells #[.int .u8 (D : Int)] 5)).heap.size := le_alloc0 HBJ.out.size _
          have HONE := Lib.hid (ones_one (.int .u8 (D : Int)) rfl)
          clear hdig
          go_wp2_with (at_builtin; go_must (refine wpList_append_k elmU8 rfl _ _ rfl W2.heap.size _ _ _ rfl HOA.out _ [[.int .u8 (D : Int)]] rfl HLT.out HONE.out (by simp) hszB (0 + 1) rfl ?_); intro ao9 cap9 w9 hown9 hgrow9 hnew9; have HO9 := Lib.hid hown9; have HG9 := Lib.hid hgrow9; clear hown9 hgrow9 hnew9)
          go_roundw
          case rel =>
            refine ⟨0 + 1, by omega, by go_num, ?_, below_ownB (HBJ.out.trans ((below_alloc wr _).mono HBJ.out.size)) hszB HG9.out (own_base HOA.out)⟩
            rw [HDG.out]
            have h := HO9.out
            exact OwnB.of (n := 0 + 1) (by rw [List.map_append]; exact h)
          case measure => simp [intOf]
        · obtain ⟨D, hD⟩ : ∃ D : Nat, (U : Int) / 281474976710656 % 256 = (D : Int) := ⟨((U : Int) / 281474976710656 % 256).toNat, by omega⟩
          have hdig : (dig 8 U)[1]? = some D := by
            have e : D = U / 256 ^ (7 - 1) % 256 := by
              rw [show (256 : Nat) ^ (7 - 1) = 281474976710656 by decide]
              omega
            rw [e]
            rfl
          have HDG := Lib.hid (show (dig 8 U).take (1 + 1) = (dig 8 U).take 1 ++ [D] from by rw [List.take_add_one, hdig]; rfl)
          have HOA := Lib.hid (show (wr.alloc (.cells #[.int .u8 (D : Int)] 5)).ownsRow W2.heap.size 5 1 (.slice ab 1 cb) 1 (((dig 8 U).take 1).map u8v) from World.ownsRow.alloc (show wr.ownsRow W2.heap.size 5 1 (.slice ab 1 cb) 1 (((dig 8 U).take 1).map u8v) from HOB.out) _)
          have HLT := Lib.hid (rdS_lit wr #[.int .u8 (D : Int)] 5 1 rfl)
          have hszB : W2.heap.size ≤ (wr.alloc (.cells #[.int .u8 (D : Int)] 5)).heap.size := le_alloc0 HBJ.out.size _
          have HONE := Lib.hid (ones_one (.int .u8 (D : Int)) rfl)
          clear hdig
          go_wp2_with (at_builtin; go_must (refine wpList_append_k elmU8 rfl _ _ rfl W2.heap.size _ _ _ rfl HOA.out _ [[.int .u8 (D : Int)]] rfl HLT.out HONE.out (by simp) hszB (1 + 1) rfl ?_); intro ao9 cap9 w9 hown9 hgrow9 hnew9; have HO9 := Lib.hid hown9; have HG9 := Lib.hid hgrow9; clear hown9 hgrow9 hnew9)
          go_roundw
          case rel =>
            refine ⟨1 + 1, by omega, by go_num, ?_, below_ownB (HBJ.out.trans ((below_alloc wr _).mono HBJ.out.size)) hszB HG9.out (own_base HOA.out)⟩
            rw [HDG.out]
            have h := HO9.out
            exact OwnB.of (n := 1 + 1) (by rw [List.map_append]; exact h)
          case measure => simp [intOf]
        · obtain ⟨D, hD⟩ : ∃ D : Nat, (U : Int) / 1099511627776 % 256 = (D : Int) := ⟨((U : Int) / 1099511627776 % 256).toNat, by omega⟩
          have hdig : (dig 8 U)[2]? = some D := by
            have e : D = U / 256 ^ (7 - 2) % 256 := by
              rw [show (256 : Nat) ^ (7 - 2) = 1099511627776 by decide]
              omega
            rw [e]
            rfl
          have HDG := Lib.hid (show (dig 8 U).take (2 + 1) = (dig 8 U).take 2 ++ [D] from by rw [List.take_add_one, hdig]; rfl)
          have HOA := Lib.hid (show (wr.alloc (.cells #[.int .u8 (D : Int)] 5)).ownsRow W2.heap.size 5 1 (.slice ab 2 cb) 2 (((dig 8 U).take 2).map u8v) from World.ownsRow.alloc (show wr.ownsRow W2.heap.size 5 1 (.slice ab 2 cb) 2 (((dig 8 U).take 2).map u8v) from HOB.out) _)
          have HLT := Lib.hid (rdS_lit wr #[.int .u8 (D : Int)] 5 1 rfl)
          have hszB : W2.heap.size ≤ (wr.alloc (.cells #[.int .u8 (D : Int)] 5)).heap.size := le_alloc0 HBJ.out.size _
          have HONE := Lib.hid (ones_one (.int .u8 (D : Int)) rfl)
          clear hdig
          go_wp2_with (at_builtin; go_must (refine wpList_append_k elmU8 rfl _ _ rfl W2.heap.size _ _ _ rfl HOA.out _ [[.int .u8 (D : Int)]] rfl HLT.out HONE.out (by simp) hszB (2 + 1) rfl ?_); intro ao9 cap9 w9 hown9 hgrow9 hnew9; have HO9 := Lib.hid hown9; have HG9 := Lib.hid hgrow9; clear hown9 hgrow9 hnew9)
          go_roundw
          case rel =>
            refine ⟨2 + 1, by omega, by go_num, ?_, below_ownB (HBJ.out.trans ((below_alloc wr _).mono HBJ.out.size)) hszB HG9.out (own_base HOA.out)⟩
            rw [HDG.out]
            have h := HO9.out
            exact OwnB.of (n := 2 + 1) (by rw [List.map_append]; exact h)
          case measure => simp [intOf]
        · obtain ⟨D, hD⟩ : ∃ D : Nat, (U : Int) / 4294967296 % 256 = (D : Int) := ⟨((U : Int) / 4294967296 % 256).toNat, by omega⟩
          have hdig : (dig 8 U)[3]? = some D := by
            have e : D = U / 256 ^ (7 - 3) % 256 := by
              rw [show (256 : Nat) ^ (7 - 3) = 4294967296 by decide]
              omega
            rw [e]
            rfl
          have HDG := Lib.hid (show (dig 8 U).take (3 + 1) = (dig 8 U).take 3 ++ [D] from by rw [List.take_add_one, hdig]; rfl)
          have HOA := Lib.hid (show (wr.alloc (.cells #[.int .u8 (D : Int)] 5)).ownsRow W2.heap.size 5 1 (.slice ab 3 cb) 3 (((dig 8 U).take 3).map u8v) from World.ownsRow.alloc (show wr.ownsRow W2.heap.size 5 1 (.slice ab 3 cb) 3 (((dig 8 U).take 3).map u8v) from HOB.out) _)
          have HLT := Lib.hid (rdS_lit wr #[.int .u8 (D : Int)] 5 1 rfl)
          have hszB : W2.heap.size ≤ (wr.alloc (.cells #[.int .u8 (D : Int)] 5)).heap.size := le_alloc0 HBJ.out.size _
          have HONE := Lib.hid (ones_one (.int .u8 (D : Int)) rfl)
          clear hdig
          go_wp2_with (at_builtin; go_must (refine wpList_append_k elmU8 rfl _ _ rfl W2.heap.size _ _ _ rfl HOA.out _ [[.int .u8 (D : Int)]] rfl HLT.out HONE.out (by simp) hszB (3 + 1) rfl ?_); intro ao9 cap9 w9 hown9 hgrow9 hnew9; have HO9 := Lib.hid hown9; have HG9 := Lib.hid hgrow9; clear hown9 hgrow9 hnew9)
          go_roundw
          case rel =>
            refine ⟨3 + 1, by omega, by go_num, ?_, below_ownB (HBJ.out.trans ((below_alloc wr _).mono HBJ.out.size)) hszB HG9.out (own_base HOA.out)⟩
            rw [HDG.out]
            have h := HO9.out
            exact OwnB.of (n := 3 + 1) (by rw [List.map_append]; exact h)
          case measure => simp [intOf]
        · obtain ⟨D, hD⟩ : ∃ D : Nat, (U : Int) / 16777216 % 256 = (D : Int) := ⟨((U : Int) / 16777216 % 256).toNat, by omega⟩
          have hdig : (dig 8 U)[4]? = some D := by
            have e : D = U / 256 ^ (7 - 4) % 256 := by
              rw [show (256 : Nat) ^ (7 - 4) = 16777216 by decide]
              omega
            rw [e]
            rfl
          have HDG := Lib.hid (show (dig 8 U).take (4 + 1) = (dig 8 U).take 4 ++ [D] from by rw [List.take_add_one, hdig]; rfl)
          have HOA := Lib.hid (show (wr.alloc (.cells #[.int .u8 (D : Int)] 5)).ownsRow W2.heap.size 5 1 (.slice ab 4 cb) 4 (((dig 8 U).take 4).map u8v) from World.ownsRow.alloc (show wr.ownsRow W2.heap.size 5 1 (.slice ab 4 cb) 4 (((dig 8 U).take 4).map u8v) from HOB.out) _)
          have HLT := Lib.hid (rdS_lit wr #[.int .u8 (D : Int)] 5 1 rfl)
          have hszB : W2.heap.size ≤ (wr.alloc (.cells #[.int .u8 (D : Int)] 5)).heap.size := le_alloc0 HBJ.out.size _
          have HONE := Lib.hid (ones_one (.int .u8 (D : Int)) rfl)
          clear hdig
          go_wp2_with (at_builtin; go_must (refine wpList_append_k elmU8 rfl _ _ rfl W2.heap.size _ _ _ rfl HOA.out _ [[.int .u8 (D : Int)]] rfl HLT.out HONE.out (by simp) hszB (4 + 1) rfl ?_); intro ao9 cap9 w9 hown9 hgrow9 hnew9; have HO9 := Lib.hid hown9; have HG9 := Lib.hid hgrow9; clear hown9 hgrow9 hnew9)
          go_roundw
          case rel =>
            refine ⟨4 + 1, by omega, by go_num, ?_, below_ownB (HBJ.out.trans ((below_alloc wr _).mono HBJ.out.size)) hszB HG9.out (own_base HOA.out)⟩
            rw [HDG.out]
            have h := HO9.out
            exact OwnB.of (n := 4 + 1) (by rw [List.map_append]; exact h)
          case measure => simp [intOf]
        · obtain ⟨D, hD⟩ : ∃ D : Nat, (U : Int) / 65536 % 256 = (D : Int) := ⟨((U : Int) / 65536 % 256).toNat, by omega⟩
          have hdig : (dig 8 U)[5]? = some D := by
            have e : D = U / 256 ^ (7 - 5) % 256 := by
              rw [show (256 : Nat) ^ (7 - 5) = 65536 by decide]
              omega
            rw [e]
            rfl
          have HDG := Lib.hid (show (dig 8 U).take (5 + 1) = (dig 8 U).take 5 ++ [D] from by rw [List.take_add_one, hdig]; rfl)
          have HOA := Lib.hid (show (wr.alloc (.cells #[.int .u8 (D : Int)] 5)).ownsRow W2.heap.size 5 1 (.slice ab 5 cb) 5 (((dig 8 U).take 5).map u8v) from World.ownsRow.alloc (show wr.ownsRow W2.heap.size 5 1 (.slice ab 5 cb) 5 (((dig 8 U).take 5).map u8v) from HOB.out) _)
          have HLT := Lib.hid (rdS_lit wr #[.int .u8 (D : Int)] 5 1 rfl)
          have hszB : W2.heap.size ≤ (wr.alloc (.cells #[.int .u8 (D : Int)] 5)).heap.size := le_alloc0 HBJ.out.size _
          have HONE := Lib.hid (ones_one (.int .u8 (D : Int)) rfl)
          clear hdig
          go_wp2_with (at_builtin; go_must (refine wpList_append_k elmU8 rfl _ _ rfl W2.heap.size _ _ _ rfl HOA.out _ [[.int .u8 (D : Int)]] rfl HLT.out HONE.out (by simp) hszB (5 + 1) rfl ?_); intro ao9 cap9 w9 hown9 hgrow9 hnew9; have HO9 := Lib.hid hown9; have HG9 := Lib.hid hgrow9; clear hown9 hgrow9 hnew9)
          go_roundw
          case rel =>
            refine ⟨5 + 1, by omega, by go_num, ?_, below_ownB (HBJ.out.trans ((below_alloc wr _).mono HBJ.out.size)) hszB HG9.out (own_base HOA.out)⟩
            rw [HDG.out]
            have h := HO9.out
            exact OwnB.of (n := 5 + 1) (by rw [List.map_append]; exact h)
          case measure => simp [intOf]
        · obtain ⟨D, hD⟩ : ∃ D : Nat, (U : Int) / 256 % 256 = (D : Int) := ⟨((U : Int) / 256 % 256).toNat, by omega⟩
          have hdig : (dig 8 U)[6]? = some D := by
            have e : D = U / 256 ^ (7 - 6) % 256 := by
              rw [show (256 : Nat) ^ (7 - 6) = 256 by decide]
              omega
            rw [e]
            rfl
          have HDG := Lib.hid (show (dig 8 U).take (6 + 1) = (dig 8 U).take 6 ++ [D] from by rw [List.take_add_one, hdig]; rfl)
          have HOA := Lib.hid (show (wr.alloc (.cells #[.int .u8 (D : Int)] 5)).ownsRow W2.heap.size 5 1 (.slice ab 6 cb) 6 (((dig 8 U).take 6).map u8v) from World.ownsRow.alloc (show wr.ownsRow W2.heap.size 5 1 (.slice ab 6 cb) 6 (((dig 8 U).take 6).map u8v) from HOB.out) _)
          have HLT := Lib.hid (rdS_lit wr #[.int .u8 (D : Int)] 5 1 rfl)
          have hszB : W2.heap.size ≤ (wr.alloc (.cells #[.int .u8 (D : Int)] 5)).heap.size := le_alloc0 HBJ.out.size _
          have HONE := Lib.hid (ones_one (.int .u8 (D : Int)) rfl)
          clear hdig
          go_wp2_with (at_builtin; go_must (refine wpList_append_k elmU8 rfl _ _ rfl W2.heap.size _ _ _ rfl HOA.out _ [[.int .u8 (D : Int)]] rfl HLT.out HONE.out (by simp) hszB (6 + 1) rfl ?_); intro ao9 cap9 w9 hown9 hgrow9 hnew9; have HO9 := Lib.hid hown9; have HG9 := Lib.hid hgrow9; clear hown9 hgrow9 hnew9)
          go_roundw
          case rel =>
            refine ⟨6 + 1, by omega, by go_num, ?_, below_ownB (HBJ.out.trans ((below_alloc wr _).mono HBJ.out.size)) hszB HG9.out (own_base HOA.out)⟩
            rw [HDG.out]
            have h := HO9.out
            exact OwnB.of (n := 6 + 1) (by rw [List.map_append]; exact h)
          case measure => simp [intOf]
        · obtain ⟨D, hD⟩ : ∃ D : Nat, (U : Int) % 256 = (D : Int) := ⟨((U : Int) % 256).toNat, by omega⟩
          have hdig : (dig 8 U)[7]? = some D := by
            have e : D = U / 256 ^ (7 - 7) % 256 := by
              rw [show (256 : Nat) ^ (7 - 7) = 1 by decide]
              omega
            rw [e]
            rfl
          have HDG := Lib.hid (show (dig 8 U).take (7 + 1) = (dig 8 U).take 7 ++ [D] from by rw [List.take_add_one, hdig]; rfl)
          have HOA := Lib.hid (show (wr.alloc (.cells #[.int .u8 (D : Int)] 5)).ownsRow W2.heap.size 5 1 (.slice ab 7 cb) 7 (((dig 8 U).take 7).map u8v) from World.ownsRow.alloc (show wr.ownsRow W2.heap.size 5 1 (.slice ab 7 cb) 7 (((dig 8 U).take 7).map u8v) from HOB.out) _)
          have HLT := Lib.hid (rdS_lit wr #[.int .u8 (D : Int)] 5 1 rfl)
          have hszB : W2.heap.size ≤ (wr.alloc (.cells #[.int .u8 (D : Int)] 5)).heap.size := le_alloc0 HBJ.out.size _
          have HONE := Lib.hid (ones_one (.int .u8 (D : Int)) rfl)
          clear hdig
          go_wp2_with (at_builtin; go_must (refine wpList_append_k elmU8 rfl _ _ rfl W2.heap.size _ _ _ rfl HOA.out _ [[.int .u8 (D : Int)]] rfl HLT.out HONE.out (by simp) hszB (7 + 1) rfl ?_); intro ao9 cap9 w9 hown9 hgrow9 hnew9; have HO9 := Lib.hid hown9; have HG9 := Lib.hid hgrow9; clear hown9 hgrow9 hnew9)
          go_roundw
          case rel =>
            refine ⟨7 + 1, by omega, by go_num, ?_, below_ownB (HBJ.out.trans ((below_alloc wr _).mono HBJ.out.size)) hszB HG9.out (own_base HOA.out)⟩
            rw [HDG.out]
            have h := HO9.out
            exact OwnB.of (n := 7 + 1) (by rw [List.map_append]; exact h)
          case measure => simp [intOf]
        · have HXT := Lib.hid (show (dig 8 U).take 8 = textT z from by rw [List.take_of_length_le (by rw [dig_len]; exact Nat.le_refl _), HUE.out]; rfl)
          rw [HXT.out] at HOB
          have HO3 := Lib.hid (HO.out.keptB HBJ.out)
          have hsz3 : w.heap.size ≤ wr.heap.size := Nat.le_trans HBL.out.size HBJ.out.size
          have HOA := Lib.hid (show (wr.alloc (.cells #[.slice ab 8 cb] 24)).ownsRow w.heap.size 24 1 (.slice ao q cap) q (vs ps) from by have h := World.ownsRow.alloc HO3.out.row (.cells #[.slice ab 8 cb] 24); rw [HLEN.out] at h; exact h)
          have HLT := Lib.hid (rdS_lit wr #[.slice ab 8 cb] 24 1 rfl)
          have hszB : w.heap.size ≤ (wr.alloc (.cells #[.slice ab 8 cb] 24)).heap.size := le_alloc0 hsz3 _
          have HONE := Lib.hid (ones_one (.slice ab 8 cb) rfl)
          go_wp2_with (at_builtin; go_must (refine wpList_append_k elmR rfl _ _ rfl w.heap.size _ _ _ rfl HOA.out _ [[.slice ab 8 cb]] rfl HLT.out HONE.out (by simp; omega) hszB (q + 1) rfl ?_); intro ao9 cap9 w9 hown9 hgrow9 hnew9; have HO9 := Lib.hid hown9; have HG9 := Lib.hid hgrow9; have HN9 := Lib.hid hnew9; clear hown9 hgrow9 hnew9)
          go_roundw
          case rel =>
            have hg9 : wr.grownBy w9 (Value.slice ao q cap).ownBlock := grown_trans (grownBy_any (World.grownBy_alloc wr _ none)) HG9.out
            refine ⟨q + 1, ps ++ [(.slice ab 8 cb, textT z)], by omega, by go_num, by rw [List.length_append, HLEN.out]; rfl, ?_, OwnE.snoc (HO.out.keptB HBJ.out) HOB.out HBL.out.size (fun a ha g hg => (HO.out.blocks a ha g hg).2) ?_ hg9 ?_, below_ownB (HBL.out.trans (HBJ.out.mono HBL.out.size)) hsz3 hg9 (ownR_base HO.out.row)⟩
            · rw [xs_snoc, HXS.out, List.take_add_one, HAT.out]
              unfold TX
              rw [List.map_append]
              rfl
            · rw [HLEN.out]
              have h := HO9.out
              simpa using h
            · intro k hk
              rcases HN9.out k hk with h | h
              · exact .inl h
              · right; rw [h]; simp
          case measure => simp [intOf]; omega
    · have hqm : q = m := by omega
      subst hqm
      have hl1i : ¬ (q : Int) < (q : Int) := by omega
      go_wp2_with fail
      go_ret
      exact ⟨_, rfl, ps, HO.out, by rw [HXS.out, HM.out, List.take_length], HBL.out⟩

end Go.Proofs.Ytjcmekhamohbnaa.Bc

namespace Go.Proofs.Ytjcmekhamohbnaa.Bc
set_option linter.unusedVariables false
set_option linter.unusedSimpArgs false
open Go.RowKit

theorem dig_at (U : Nat) : ∀ k i, i < k → (dig k U)[i]? = some (U / 256 ^ (k - 1 - i) % 256)
  | k + 1, 0, _ => by rw [dig]; rfl
  | k + 1, i + 1, h => by
    rw [dig, List.getElem?_cons_succ, dig_at U k i (by omega), show k + 1 - 1 - (i + 1) = k - 1 - i by omega]

set_option maxRecDepth 100000 in
set_option maxHeartbeats 8000000 in
theorem number64_any (z : Int) (v : Value) (w : World) (hz : I64 z) (hr : Rd w v ((textT z).map u8v)) :
    Calls Try.prog 46 #[v] w fun e w' => e = .returned (.int .i64 z) ∧ w = w' := by
  obtain ⟨ao, cap, rfl⟩ := rd_shape1 hr
  rw [List.length_map, textT_len] at hr ⊢
  have HR := Lib.hid hr
  have hU := offN_lt hz
  have hxb := xor_back z hz
  obtain ⟨U, hUe⟩ : ∃ U, U = offN z := ⟨_, rfl⟩
  rw [← hUe] at hU hxb
  have HU := Lib.hid hU
  have HUE := Lib.hid hUe
  clear hr hz hU hUe
  go_enter Try.func46, Try.ntmps46
  go_wp2_with fail
  go_loopw [3, 4] (fun u k wr => ∃ i : Nat, i ≤ 8 ∧ k = .int .i64 (i : Int) ∧ u = .int .u64 ((U / 256 ^ (8 - i) : Nat) : Int) ∧ wr = w) (fun _ k _ => 8 - (intOf k).toNat)
  case atStart => exact ⟨0, Nat.zero_le _, rfl, by rw [Nat.div_eq_of_lt HU.out]; rfl, rfl⟩
  case round =>
    obtain ⟨i, hi, rfl, rfl, hwr⟩ := hrel
    subst hwr
    obtain ⟨V, hV⟩ : ∃ V, V = U / 256 ^ (8 - i) := ⟨_, rfl⟩
    rw [← hV]
    by_cases hi8 : i < 8
    · have hi8i : (i : Int) < 8 := by omega
      have hi0 : (0 : Int) ≤ (i : Int) := by omega
      obtain ⟨b, off, rfl, hcell⟩ := (rd_cells HR.out).2 (by decide)
      have hx := hcell i hi8
      have hdg := dig_at U 8 i hi8
      obtain ⟨D, hD⟩ : ∃ D, D = U / 256 ^ (8 - 1 - i) % 256 := ⟨_, rfl⟩
      rw [← hD] at hdg
      have hgd : (textT z).getD i 0 = D := by
        unfold textT
        rw [← HUE.out, List.getD_eq_getElem?_getD, hdg]
        rfl
      rw [hgd] at hx
      have hD2 : D < 256 := by rw [hD]; exact Nat.mod_lt _ (by decide)
      obtain ⟨V2, hV2⟩ : ∃ V2, V2 = U / 256 ^ (8 - (i + 1)) := ⟨_, rfl⟩
      have hst : V2 = V * 256 + D := by
        have e1 : 256 ^ (8 - i) = 256 ^ (8 - (i + 1)) * 256 := by rw [← Nat.pow_succ]; congr 1; omega
        rw [hV, e1, ← Nat.div_div_eq_div_mul, hD, show 8 - 1 - i = 8 - (i + 1) by omega, ← hV2]
        omega
      have hV56 : V < 72057594037927936 := by
        have h1 : V2 ≤ U := by rw [hV2]; exact Nat.div_le_self _ _
        have h2 : U < 18446744073709551616 := HU.out
        omega
      obtain ⟨S, hS⟩ : ∃ S, S = V * 256 := ⟨_, rfl⟩
      have hS1 : IntKind.u64.wrap ((V : Int) * 256) = (S : Int) := by rw [IntWalk.u64_in _ (by omega)]; omega
      have hS2 : (V : Int) * 256 = (S : Int) := by omega
      have hS4 : (V : Int) * 256 % 18446744073709551616 = (S : Int) := by omega
      have hS3 : IntKind.u64.wrap (S : Int) = (S : Int) := IntWalk.u64_in _ (by omega)
      have hD3 : IntKind.u64.wrap (D : Int) = (D : Int) := IntWalk.u64_in _ (by omega)
      have hor : bits .or .u64 (S : Int) (D : Int) = (V2 : Int) := by
        rw [u64_or_nat _ _ (by omega) (by omega), nat_join 8 S D (by rw [hS]; exact Nat.mul_mod_left _ _) (by omega), hst, hS]
      have HV2 := Lib.hid hV2
      clear hcell hdg hD hgd hst hS hV hV2
      go_wp2_with fail
      go_roundw
      case rel => exact ⟨i + 1, by omega, by go_num, by rw [← HV2.out], by first | trivial | rfl⟩
      case measure => simp [intOf]; omega
    · have hi9 : i = 8 := by omega
      subst hi9
      have hVU : V = U := by rw [hV, Nat.sub_self, Nat.pow_zero, Nat.div_one]
      subst hVU
      have hi8i : ¬ ((8 : Nat) : Int) < 8 := by omega
      clear hV
      go_wp2_with fail
      go_ret
      exact ⟨by first | rfl | rw [hxb], by first | trivial | rfl⟩

set_option maxRecDepth 100000 in
set_option maxHeartbeats 8000000 in
theorem refbytes_any (v y : Value) (bs x : List Nat) (w : World) (hr : Rd w v (bs.map u8v)) (hy : Rd w y (x.map u8v)) (hbig : bs.length ≤ 8000000) (hx : x.length ≤ 1000000) :
    Calls Try.prog 73 #[v, y] w fun e w' => ∃ v', e = .returned v' ∧ OwnB w.heap.size w' v' (bs ++ putT x) ∧ Below w.heap.size w w' := by
  obtain ⟨ay, cy, e1⟩ := els_shape (p := (y, x)) hy
  change y = .slice ay (List.length x) cy at e1
  subst e1
  obtain ⟨n, hn⟩ : ∃ n, n = List.length x := ⟨_, rfl⟩
  have HNU := Lib.hid (refNum_any v bs n w hr (by omega) (by omega))
  rw [← hn] at hy ⊢
  have HY := Lib.hid hy
  have HN := Lib.hid hn
  have hwn : IntKind.u64.wrap (n : Int) = (n : Int) := IntWalk.u64_in _ (by omega)
  have hnl := (numF_len 9 n).1
  have hnl2 : (numC n).length ≤ 10 := hnl
  rw [← hn] at hx
  clear hr hy hn hnl
  go_enter Try.func73, Try.ntmps73
  go_wp2_with fail
  refine HNU.out.mono ?_
  rintro e w2 ⟨ao2, cap2, rfl, hown2, hb2⟩
  rw [List.length_map] at hown2 ⊢
  obtain ⟨m, hm⟩ : ∃ m, m = (bs ++ numC n).length := ⟨_, rfl⟩
  have hml : m ≤ 8000010 := by rw [hm, List.length_append]; omega
  rw [← hm] at hown2 ⊢
  have HO2 := Lib.hid hown2
  have HB2 := Lib.hid hb2
  have HRY := Lib.hid (rdS_flat (HY.out.kept hb2))
  have HON := Lib.hid (ones_flat (ones_u8 x))
  have hxl : x.length = n := HN.out.symm
  have HXL := Lib.hid hxl
  clear hown2 hb2 hm hxl
  go_wp2_with (at_builtin; go_must (refine wpList_append_k elmU8 rfl _ _ rfl w.heap.size _ _ _ rfl HO2.out _ ((x.map u8v).map fun u => [u]) rfl HRY.out HON.out (by simp; have := HXL.out; omega) HB2.out.size (m + n) (by have := HXL.out; simp; omega) ?_); intro ao4 cap4 w4 hown4 hgrow4 hnew4; have HO4 := Lib.hid hown4; have HG4 := Lib.hid hgrow4; clear hown4 hgrow4 hnew4)
  go_ret
  refine ⟨_, rfl, ?_, below_ownB HB2.out HB2.out.size HG4.out (own_base HO2.out)⟩
  have h := HO4.out
  rw [flat_ones, ← List.map_append] at h
  have h2 := OwnB.of h
  unfold putT bytesC
  rw [← HN.out, ← List.append_assoc]
  exact h2

def OkT (nums : Bool) (x : By) : Prop := (∀ a ∈ x, a < 256) ∧ x.length ≤ 64 ∧ (nums = true → ∃ z, I64 z ∧ x = textT z)

set_option maxRecDepth 100000 in
set_option maxHeartbeats 8000000 in
theorem told_any (nums : Bool) (v y : Value) (bs x : List Nat) (w : World) (hr : Rd w v (bs.map u8v)) (hy : Rd w y (x.map u8v)) (hbig : bs.length ≤ 7000000) (hx : OkT nums x) :
    Calls Try.prog 44 #[v, y, .bool nums] w fun e w' => ∃ v', e = .returned v' ∧ OwnB w.heap.size w' v' (bs ++ tolT nums x) ∧ Below w.heap.size w w' := by
  cases nums
  · have HC := Lib.hid (refbytes_any v y bs x w hr hy (by omega) (by have := hx.2.1; omega))
    have HT := Lib.hid (show tolT false x = putT x from rfl)
    clear hr hy hx
    go_enter Try.func44, Try.ntmps44
    go_wp2_with fail
    refine HC.out.mono ?_
    rintro e w2 ⟨v2, rfl, hown2, hb2⟩
    have HO2 := Lib.hid hown2
    have HB2 := Lib.hid hb2
    clear hown2 hb2 HC
    go_wp2_with fail
    go_ret
    exact ⟨_, rfl, by rw [HT.out]; exact HO2.out, HB2.out⟩
  · obtain ⟨z, hz, hxz⟩ := hx.2.2 rfl
    rw [hxz] at hy
    have HN := Lib.hid (number64_any z y w hz hy)
    have HZ := Lib.hid (refzig_any z w hz)
    have HU := Lib.hid (refNum_any v bs (zigN z) w hr (by omega) (zigN_lt hz))
    have HT := Lib.hid (show tolT true x = Go.Proofs.Ytjcmekhamohbnaa.putT z from by rw [hxz]; exact tol_text hz)
    clear hr hy hx hxz
    go_enter Try.func44, Try.ntmps44
    go_wp2_with fail
    refine HN.out.mono ?_
    rintro e w2 ⟨rfl, rfl⟩
    go_wp2_with fail
    refine HZ.out.mono ?_
    rintro e w2 ⟨rfl, rfl⟩
    go_wp2_with fail
    refine HU.out.mono ?_
    rintro e w3 ⟨ao3, cap3, rfl, hown3, hb3⟩
    rw [List.length_map] at hown3 ⊢
    obtain ⟨m, hm⟩ : ∃ m, m = (bs ++ numC (zigN z)).length := ⟨_, rfl⟩
    rw [← hm] at hown3 ⊢
    have HO3 := Lib.hid hown3
    have HB3 := Lib.hid hb3
    clear hown3 hb3 hm
    go_wp2_with fail
    go_ret
    exact ⟨_, rfl, by rw [HT.out]; exact OwnB.of (n := m) HO3.out, HB3.out⟩


end Go.Proofs.Ytjcmekhamohbnaa.Bc

namespace Go.Proofs.Ytjcmekhamohbnaa.Bc
set_option linter.unusedVariables false
set_option linter.unusedSimpArgs false
open Go.RowKit

theorem bytesLess_cmp : ∀ (a b : List Nat), (∀ x ∈ a, x < 256) → (∀ x ∈ b, x < 256) → Op.bytesLess (a.map UInt8.ofNat) (b.map UInt8.ofNat) = decide (cmpB a b < 0)
  | [], [], _, _ => by simp [Op.bytesLess, cmpB, lexL]
  | [], y :: b, _, _ => by simp [Op.bytesLess, cmpB, lexL]
  | x :: a, [], _, _ => by simp [Op.bytesLess, cmpB, lexL]
  | x :: a, y :: b, ha, hb => by
    have ih := bytesLess_cmp a b (fun v hv => ha v (List.mem_cons_of_mem _ hv)) (fun v hv => hb v (List.mem_cons_of_mem _ hv))
    have h1 := ha x List.mem_cons_self
    have h2 := hb y List.mem_cons_self
    rw [List.map_cons, List.map_cons, Op.bytesLess, ih]
    have e1 : (UInt8.ofNat x < UInt8.ofNat y) ↔ x < y := by rw [UInt8.lt_iff_toNat_lt, UInt8.toNat_ofNat', UInt8.toNat_ofNat', Nat.mod_eq_of_lt h1, Nat.mod_eq_of_lt h2]
    have e2 : (UInt8.ofNat x == UInt8.ofNat y) = decide (x = y) := by
      rw [Bool.eq_iff_iff, beq_iff_eq, decide_eq_true_eq, ← UInt8.toNat_inj, UInt8.toNat_ofNat', UInt8.toNat_ofNat', Nat.mod_eq_of_lt h1, Nat.mod_eq_of_lt h2]
    rw [e2]
    unfold cmpB
    rw [lexL]
    unfold cmpN cmpZ
    rcases Nat.lt_trichotomy x y with h | h | h
    · have h3 : (x : Int) < (y : Int) := by omega
      simp [e1, h, h3]
    · subst h
      simp [e1]
    · have h3 : ¬ (x : Int) < (y : Int) := by omega
      have h4 : (y : Int) < (x : Int) := by omega
      have h5 : ¬ x < y := by omega
      have h6 : ¬ x = y := by omega
      simp [e1, h3, h4, h5, h6]

theorem less_str {a b : By} (ha : ∀ x ∈ a, x < 256) (hb : ∀ x ∈ b, x < 256) : Op.bytesLess (strOf a).toList (strOf b).toList = decide (ltB a b) := by
  rw [strOf_toList, strOf_toList, bytesLess_cmp a b ha hb]
  rfl
def SubR (pw ps : Row) : Prop := ∀ p ∈ pw, p ∈ ps
theorem own_E1 (w : World) (L : Obj) (B : Nat) (hB : B ≤ w.heap.size) : ((w.alloc L).alloc (.cells #[] 24)).ownsRow B 24 1 (.slice (some ⟨w.heap.size + 1, 0, none⟩) 0 0) 0 [] := by
  have h := World.ownsRow_lit (base := B) (size := 1) (e := 24) (w.alloc L) #[] 0 (le_alloc0 hB L) (by decide) rfl
  rw [show (w.alloc L).heap.size = w.heap.size + 1 by simp] at h
  exact h
theorem own_E2 (w : World) (L : Obj) (B : Nat) (hB : B ≤ w.heap.size) : ((w.alloc (.cells #[] 24)).alloc L).ownsRow B 24 1 (.slice (some ⟨w.heap.size, 0, none⟩) 0 0) 0 [] :=
  World.ownsRow.alloc (World.ownsRow_lit w #[] 0 hB (by decide) rfl) L
theorem own_E3 (w : World) (B : Nat) (hB : B ≤ w.heap.size) : (w.alloc (.cells #[] 24)).ownsRow B 24 1 (.slice (some ⟨w.heap.size, 0, none⟩) 0 0) 0 [] := World.ownsRow_lit w #[] 0 hB (by decide) rfl
theorem one_at (w : World) (g : Nat) (u : Value) (h : w.heap[g]? = some (.cells #[u] 24 (0, 0))) : RdS w 1 (.slice (some ⟨g, 0, none⟩) 1 1) [[u]] := by
  refine ⟨some ⟨g, 0, none⟩, 1, rfl, ⟨(fun h => by cases h), Nat.le_refl _⟩, fun k t ht => ⟨g, 0, rfl, fun j v hv => ?_⟩⟩
  have hk : k = 0 := by have := (List.getElem?_eq_some_iff.1 ht).1; simp at this; omega
  subst hk
  simp only [List.getElem?_cons_zero, Option.some.injEq] at ht
  subst ht
  rw [cell_of_row _ g _ _ _ _ h]
  simpa using hv
theorem ins_up {l : List By} {x : By} {k : Nat} (h : l.Pairwise ltB) (h1 : ∀ y ∈ l.take k, ltB y x) (h2 : ∀ y ∈ l.drop k, ltB x y) : (l.take k ++ x :: l.drop k).Pairwise ltB := by
  rw [List.pairwise_append]
  refine ⟨h.sublist (List.take_sublist _ _), List.pairwise_cons.2 ⟨h2, h.sublist (List.drop_sublist _ _)⟩, fun a ha b hb => ?_⟩
  rcases List.mem_cons.1 hb with rfl | hb
  · exact h1 a ha
  · exact ltB_trans (h1 a ha) (h2 b hb)
theorem drop_up {l : List By} {x y : By} {k : Nat} (h : l.Pairwise ltB) (hy : l[k]? = some y) (hxy : ltB x y) : ∀ z ∈ l.drop k, ltB x z := fun z hz => by
  obtain ⟨i, hi⟩ := List.getElem?_of_mem hz
  rw [List.getElem?_drop] at hi
  rcases Nat.eq_zero_or_pos i with h0 | h0
  · subst h0
    rw [Nat.add_zero, hy] at hi
    rw [← Option.some.inj hi]
    exact hxy
  · exact ltB_trans hxy (up_at h (show k < k + i by omega) hy hi)

set_option maxRecDepth 100000 in
set_option maxHeartbeats 8000000 in
theorem unlike_any (ps : Row) (lv : Value) (w : World) (hl : ps.length ≤ 100000) (h8 : ∀ y ∈ xs ps, ∀ a ∈ y, a < 256) (hr : Rd w lv (vs ps)) (he : Els w ps) :
    Calls Try.prog 50 #[lv] w fun e w' => ∃ v, e = .returned v ∧ ∃ pw, OwnR w.heap.size w' v pw ∧ SubR pw ps ∧ xs pw = wordsT (xs ps) ∧ Below w.heap.size w w' := by
  obtain ⟨ao0, cap0, rfl⟩ := rd_shape1 hr
  obtain ⟨m, hm⟩ : ∃ m, m = ps.length := ⟨_, rfl⟩
  rw [len_vs, ← hm] at hr ⊢
  rw [← hm] at hl
  have HR := Lib.hid hr
  have HE := Lib.hid he
  have H8 := Lib.hid h8
  have HM := Lib.hid hm
  clear hr hm he h8
  go_enter Try.func50, Try.ntmps50
  go_wp2_with fail
  go_loopw [3, 4] (fun v i wr => ∃ (q : Nat) (po : Row), q ≤ m ∧ i = .int .i64 (q : Int) ∧ po.length ≤ q ∧ OwnR w.heap.size wr v po ∧ SubR po ps ∧ (xs po).Pairwise ltB ∧ (∀ z, z ∈ xs po ↔ z ∈ (xs ps).take q) ∧ Below w.heap.size w wr) (fun _ i _ => m - (intOf i).toNat)
  case atStart => exact ⟨0, [], Nat.zero_le _, rfl, Nat.le_refl _, ownR_nil _ _, (fun p hp => by simp at hp), List.Pairwise.nil, (fun z => by simp [xs]), Below.refl _ _⟩
  case round =>
    obtain ⟨q, po, hq, rfl, hpl, hown, hsub, hup, hmem, hbel⟩ := hrel
    obtain ⟨ao, cap, rfl⟩ := hown.shape
    obtain ⟨n, hn⟩ : ∃ n, n = po.length := ⟨_, rfl⟩
    rw [← hn] at hpl hown ⊢
    have HN := Lib.hid hn
    have HO := Lib.hid hown
    have HSUB := Lib.hid hsub
    have HUP := Lib.hid hup
    have HMEM := Lib.hid hmem
    have HBL := Lib.hid hbel
    have HEP := Lib.hid (show Els w po from fun p hp => HE.out p (hsub p hp))
    have H8P := Lib.hid (show ∀ y ∈ xs po, ∀ a ∈ y, a < 256 from fun y hy => by
      obtain ⟨p, hp, rfl⟩ := List.mem_map.1 hy
      exact H8.out p.2 (List.mem_map.2 ⟨p, hsub p hp, rfl⟩))
    clear hn hown hsub hup hmem hbel
    by_cases hlt : q < m
    · have hl1i : (q : Int) < (m : Int) := by omega
      have hq0 : (0 : Int) ≤ (q : Int) := by omega
      obtain ⟨b0, off0, rfl, hcell0⟩ := (rdv_cells HR.out).2 (by omega)
      obtain ⟨xa, xc, x, hx, hxe⟩ := row_at HE.out (q := q) (by rw [← HM.out]; exact hlt)
      have HXC := Lib.hid (show ∀ w', Below w.heap.size w w' → w'.cell? ⟨b0, off0 + q, none⟩ = some (.slice xa (List.length x) xc) from fun w' h => ((h.cell (World.block_lt_of_cell? _ _ (hcell0 q _ hx))).trans (hcell0 q _ hx)))
      have HX := Lib.hid hx
      have HXE := Lib.hid hxe
      have H8X := Lib.hid (H8.out x (List.mem_of_getElem? (xs_at hx)))
      clear hcell0 hx hxe
      go_wp2_with fail
      obtain ⟨W2, hW2⟩ : ∃ W2 : World, W2 = wr := ⟨_, rfl⟩
      rw [← hW2] at HO HBL ⊢
      clear hW2
      go_loopw [5] (fun k wr => ∃ j : Nat, j ≤ n ∧ k = .int .i64 (j : Int) ∧ (∀ y ∈ (xs po).take j, ltB y x) ∧ Below W2.heap.size W2 wr) (fun k _ => n - (intOf k).toNat)
      case atStart => exact ⟨0, Nat.zero_le _, rfl, (fun y hy => by simp at hy), Below.refl _ _⟩
      case round =>
        obtain ⟨j, hj, rfl, hlow, hbel⟩ := hrel
        have HLOW := Lib.hid hlow
        have HBJ := Lib.hid hbel
        have HBW := Lib.hid (show Below w.heap.size w wr from HBL.out.trans (hbel.mono HBL.out.size))
        have HOJ := Lib.hid (own_keptR HO.out hbel)
        have hcx := HXC.out wr HBW.out
        have hxw := HXE.out.kept HBW.out
        have h8x := H8X.out
        clear hlow hbel
        by_cases hjn : j < n
        · have hjni : (j : Int) < (n : Int) := by omega
          have hj0 : (0 : Int) ≤ (j : Int) := by omega
          obtain ⟨ya, yc, y, hy, hye⟩ := row_at HEP.out (q := j) (by rw [← HN.out]; exact hjn)
          obtain ⟨g, rfl⟩ : ∃ g, ao = some ⟨g, 0, none⟩ := by
            rcases HOJ.out.2 with ⟨hv, h0⟩ | ⟨g, c, cur, h1, _⟩
            · have := HN.out; omega
            · simp only [Value.slice.injEq] at h1; exact ⟨g, h1.1⟩
          obtain ⟨b1, off1, hb1, hc1⟩ := (rdv_cells (show Rd wr (.slice (some ⟨g, 0, none⟩) n cap) (vs po) from HOJ.out.rd)).2 (by omega)
          simp only [Option.some.injEq, Addr.mk.injEq] at hb1
          obtain ⟨rfl, rfl, _⟩ := hb1
          have hcy : wr.cell? ⟨g, j, none⟩ = some (.slice ya (List.length y) yc) := by
            have h := hc1 j _ hy
            rw [Nat.zero_add] at h
            exact h
          have h8y := H8P.out y (List.mem_of_getElem? (xs_at hy))
          have hyw := hye.kept HBW.out
          have hcv := fun nq : Nat => run_str (P := Try.prog) (wr.drewN nq) 24 9 5 Try.underlying24 Try.underlying5 Try.underlying9 (hyw.kept (below_draws (Below.refl _ _) nq)) (lt256 _ h8y)
          have hcw := fun nq : Nat => run_str (P := Try.prog) (wr.drewN nq) 24 9 5 Try.underlying24 Try.underlying5 Try.underlying9 (hxw.kept (below_draws (Below.refl _ _) nq)) (lt256 _ h8x)
          have hls := less_str h8y h8x
          have HTK := Lib.hid (take_xs hy)
          have HAT := Lib.hid (xs_at hy)
          by_cases hltb : ltB y x
          · rw [decide_eq_true hltb] at hls
            have HLT := Lib.hid hltb
            clear hc1 hy hye h8y hyw hxw h8x hltb
            go_wp2_with fail
            go_quiet (fail)
            go_wp2_with fail
            go_roundw
            case rel =>
              refine ⟨j + 1, by omega, by go_num, fun z hz => ?_, below_draws2 HBJ.out _⟩
              rw [HTK.out] at hz
              rcases List.mem_append.1 hz with h | h
              · exact HLOW.out z h
              · have h2 : z = y := List.mem_singleton.1 h
                rw [h2]; exact HLT.out
            case measure => simp [intOf]; omega
          · rw [decide_eq_false hltb] at hls
            by_cases hyx : y = x
            · have HYX := Lib.hid hyx
              have hcm : ((strOf y).toList == (strOf x).toList) = true := by rw [hyx]; exact beq_self_eq_true _
              have hcm1 : ((strOf y).toList != (strOf x).toList) = false := by unfold bne; rw [hcm]; rfl
              have hjne : ¬ ((j : Int) = (n : Int)) := by omega
              have hjneb : ((j : Int) == (n : Int)) = false := beq_eq_false_iff_ne.2 hjne
              clear hc1 hy hye h8y hyw hxw h8x hltb hyx
              go_upto_region 8 with (first | go_quiet (fail) | fail)
              go_quiet (fail)
              go_wp2_with fail
              go_roundw
              case rel =>
                refine ⟨q + 1, po, by omega, by go_num, by rw [← HN.out]; omega, own_keptR (OwnR.of HO.out) (below_draws2 HBJ.out _), HSUB.out, HUP.out, fun z => ?_, below_draws2 HBW.out _⟩
                rw [List.take_add_one, xs_at HX.out]
                show _ ↔ z ∈ (xs ps).take q ++ [x]
                rw [List.mem_append, List.mem_singleton, ← HMEM.out]
                refine ⟨.inl, fun h => h.elim id fun h2 => ?_⟩
                rw [h2, ← HYX.out]
                exact List.mem_of_getElem? HAT.out
              case measure => simp [intOf]; omega
            · have hcm := strOf_inj h8y h8x hyx
              have hcm2 : (!((strOf y).toList == (strOf x).toList)) = true := by rw [hcm]; rfl
              have hcm3 : ((strOf y).toList != (strOf x).toList) = true := hcm2
              have hjne : ¬ ((j : Int) = (n : Int)) := by omega
              have hjneb : ((j : Int) == (n : Int)) = false := beq_eq_false_iff_ne.2 hjne
              have HUPX := Lib.hid (drop_up HUP.out HAT.out ((ltB_or hyx).resolve_left hltb))
              clear hc1 hy hye h8y hyw hxw h8x hltb hyx
              go_upto_region 8 with (first | go_quiet (fail) | fail)
              go_cut [47] (fun s wx => s = .bool true ∧ Below W2.heap.size W2 wx)
              case first =>
                go_quiet (fail)
                go_wp2_with fail
                go_meet
                exact ⟨rfl, below_draws2 HBJ.out _⟩
              case rest =>
                obtain ⟨rfl, hbc⟩ := hcut
                obtain ⟨W3, hW3⟩ : ∃ W3 : World, W3 = wc := ⟨_, rfl⟩
                rw [← hW3] at hbc ⊢
                have HB3 := Lib.hid (show Below w.heap.size w W3 from HBL.out.trans (hbc.mono HBL.out.size))
                have HO3 := Lib.hid (own_keptR HO.out hbc)
                clear hW3 hbc hcx hjne hjneb
                have hsz3 := HB3.out.size
                have HEP3 := Lib.hid (HEP.out.kept HB3.out)
                obtain ⟨X, hX⟩ : ∃ X, X = List.length x := ⟨_, rfl⟩
                have HNXT := Lib.hid (show ∀ (v9 : Value) (w9 : World), w9.ownsRow W3.heap.size 24 1 v9 (n + 1) (vs (po.take j) ++ [(Value.slice xa X xc)] ++ vs (po.drop j)) → Below W3.heap.size W3 w9 → (n + 1 ≤ q + 1 ∧ OwnR w.heap.size w9 v9 (po.take j ++ ((Value.slice xa X xc), x) :: po.drop j) ∧ (po.take j ++ ((Value.slice xa X xc), x) :: po.drop j).length = n + 1 ∧ SubR (po.take j ++ ((Value.slice xa X xc), x) :: po.drop j) ps ∧ (xs (po.take j ++ ((Value.slice xa X xc), x) :: po.drop j)).Pairwise ltB ∧ (∀ z, z ∈ xs (po.take j ++ ((Value.slice xa X xc), x) :: po.drop j) ↔ z ∈ (xs ps).take (q + 1)) ∧ Below w.heap.size w w9) from fun v9 w9 h9 hb9 => by
                  have hx1 : xs (po.take j ++ ((Value.slice xa X xc), x) :: po.drop j) = (xs po).take j ++ x :: (xs po).drop j := by unfold xs; rw [List.map_append, List.map_cons, List.map_take, List.map_drop]
                  have hv1 : vs (po.take j ++ ((Value.slice xa X xc), x) :: po.drop j) = vs (po.take j) ++ [(Value.slice xa X xc)] ++ vs (po.drop j) := by unfold vs; rw [List.map_append, List.map_cons, List.append_assoc]; rfl
                  refine ⟨by omega, OwnR.of (n := n + 1) (by rw [hv1]; exact own_mono h9 hsz3), ?_, fun p hp => ?_, by rw [hx1]; exact ins_up HUP.out HLOW.out HUPX.out, fun z => ?_, HB3.out.trans (hb9.mono hsz3)⟩
                  · rw [List.length_append, List.length_cons, List.length_take, List.length_drop, ← HN.out]; omega
                  · rcases List.mem_append.1 hp with h | h
                    · exact HSUB.out p (List.mem_of_mem_take h)
                    · rcases List.mem_cons.1 h with rfl | h
                      · rw [hX]; exact List.mem_of_getElem? HX.out
                      · exact HSUB.out p (List.mem_of_mem_drop h)
                  · rw [hx1, List.mem_append, List.mem_cons, List.take_add_one, xs_at HX.out]
                    show _ ↔ z ∈ (xs ps).take q ++ [x]
                    rw [List.mem_append, List.mem_singleton, ← HMEM.out]
                    have e : z ∈ xs po ↔ z ∈ (xs po).take j ∨ z ∈ (xs po).drop j := by rw [← List.mem_append, List.take_append_drop]
                    rw [e]
                    constructor
                    · rintro (h | h | h) <;> simp [h]
                    · rintro ((h | h) | h) <;> simp [h])
                have hnc := rd_cap HO3.out.rd
                have hj0 : (0 : Int) ≤ (j : Int) := by omega
                have hjN : (j : Int) ≤ (n : Int) := by omega
                have hjc : (j : Int) ≤ (cap : Int) := by omega
                have hjc2 : j ≤ cap := by omega
                have hjn3 : j ≤ n := by omega
                have HP := Lib.hid (show ∀ w', Below W3.heap.size W3 w' → RdS w' 1 (.slice (some ⟨g, 0, none⟩) j cap) ((vs (po.take j)).map fun u => [u]) from fun w' h => rdS_flat (by rw [vs_take]; exact rd_take (HO3.out.rd.kept h) hjn3))
                have HOP := Lib.hid (ones_flat (xs := vs (po.take j)) (fun a ha => HEP3.out.ones a (by unfold vs at ha ⊢; rw [List.map_take] at ha; exact List.mem_of_mem_take ha)))
                have HOS := Lib.hid (ones_flat (xs := vs (po.drop j)) (fun a ha => HEP3.out.ones a (by unfold vs at ha ⊢; rw [List.map_drop] at ha; exact List.mem_of_mem_drop ha)))
                have hcx3 := HXC.out W3 HB3.out
                rw [← hX] at hcx3
                have hHX := Lib.hid hX
                clear hX
                have HKP := Lib.hid fun w' (h : Below W3.heap.size W3 w') => (show w'.cell? ⟨b0, off0 + q, none⟩ = some (Value.slice xa X xc) ∧ Below W3.heap.size W3 w' from ⟨(h.cell (World.block_lt_of_cell? _ _ hcx3)).trans hcx3, h⟩)
                have hS := Below.refl W3.heap.size W3
                have HL1 := Lib.hid (show ((vs (po.take j)).map fun u => [u]).length = j by rw [List.length_map, len_vs, List.length_take, ← HN.out]; omega)
                have HL2 := Lib.hid (show ((vs (po.drop j)).map fun u => [u]).length = n - j by rw [List.length_map, len_vs, List.length_drop, ← HN.out])
                have HO1 := Lib.hid (ones_one (.slice xa X xc) rfl)
                have HBO1 := Lib.hid (show Below W3.heap.size W3 ((W3.drew.alloc (.cells #[(Value.slice xa X xc)] 24)).alloc (.cells #[] 24)) from below_lay (below_lay (Below.trans hS (below_drw _ _)) _) _)
                have HBO2 := Lib.hid (show Below W3.heap.size W3 ((W3.drew.alloc (.cells #[] 24)).alloc (.cells #[(Value.slice xa X xc)] 24)) from below_lay (below_lay (Below.trans hS (below_drw _ _)) _) _)
                have HBO3 := Lib.hid (show Below W3.heap.size W3 (W3.drew.alloc (.cells #[] 24)) from below_lay (Below.trans hS (below_drw _ _)) _)
                have HLO1 := Lib.hid (show ((W3.drew.alloc (.cells #[(Value.slice xa X xc)] 24)).alloc (.cells #[] 24)).heap[W3.heap.size]? = some (.cells #[(Value.slice xa X xc)] 24 (0, 0)) from (heap_alloc_old (W3.drew.alloc (.cells #[(Value.slice xa X xc)] 24)) (.cells #[] 24) (r := W3.heap.size) (by simp)).trans (heap_alloc_new W3.drew _))
                have HLO2 := Lib.hid (show ((W3.drew.alloc (.cells #[] 24)).alloc (.cells #[(Value.slice xa X xc)] 24)).heap[W3.heap.size + 1]? = some (.cells #[(Value.slice xa X xc)] 24 (0, 0)) from heap2 W3.drew _ _)
                have hN7 : n ≤ 100000 := by omega
                by_cases hck : cap = j
                · have HSF := Lib.hid (show ∀ w', Below W3.heap.size W3 w' → RdS w' 1 (.slice (some ⟨g, 0, none⟩) 0 0) ((vs (po.drop j)).map fun u => [u]) from fun w' h => by
                    have h0 : po.drop j = [] := List.drop_eq_nil_of_le (by rw [← HN.out]; omega)
                    rw [h0]
                    exact rdS_flat (rd_empty w' _ 0))
                  have hN8 : n - j = 0 := by omega
                  subst hck
                  go_upto_region 9 with (fail)
                  set_option maxRecDepth 1000000 in
                  go_region_held3 (fun w' => w'.cell? ⟨b0, off0 + q, none⟩ = some (Value.slice xa X xc) ∧ Below W3.heap.size W3 w') (first | assumption | exact HKP.out _ (by first | assumption | exact Below.trans (by assumption) (below_drw _ _) | exact below_lay (by assumption) _ | exact below_lay (Below.trans (by assumption) (below_drw _ _)) _ | exact below_lay (below_lay (by assumption) _) _ | exact below_lay (below_lay (Below.trans (by assumption) (below_drw _ _)) _) _))
                    (first
                      | (have hh := hSb; refine step_append_k elmR (by first | rfl | simp) _ _ (by rfl) W3.heap.size _ (cap + 1) (vs (po.take cap) ++ [(Value.slice xa X xc)]) (by rfl) hownb (.slice (some ⟨g, 0, none⟩) 0 0) _ (by rfl) (HSF.out _ hSb) HOS.out (by rw [HL2.out] <;> omega) hSb.size (n + 1) (by rw [HL2.out] <;> omega) ?_; intro ao9 cap9 w9 hown9 hgrow9 hnew9; have hS9 : Below W3.heap.size W3 w9 := hSb.grown hgrow9 hSb.size (own_base hownb); clear hgrow9 hnew9)
                      | (have hh := hSp; refine step_append_k elmR (by first | rfl | simp) _ _ (by rfl) W3.heap.size _ cap (vs (po.take cap)) (by rfl) hownp (.slice (some ⟨W3.heap.size, 0, none⟩) 1 1) [[(Value.slice xa X xc)]] (by rfl) hlitp HO1.out (by simp <;> omega) hSp.size (cap + 1) (by simp) ?_; intro ao5 cap5 w5 hown5 hgrow5 hnew5; have hownb : w5.ownsRow W3.heap.size 24 1 (.slice ao5 (cap + 1) cap5) (cap + 1) (vs (po.take cap) ++ [(Value.slice xa X xc)]) := hown5; have hSb : Below W3.heap.size W3 w5 := hSp.grown hgrow5 hSp.size (own_base hownp); clear hgrow5 hnew5)
                      | (have hh := hSq; refine step_append_k elmR (by first | rfl | simp) _ _ (by rfl) W3.heap.size _ cap (vs (po.take cap)) (by rfl) hownq (.slice (some ⟨W3.heap.size + 1, 0, none⟩) 1 1) [[(Value.slice xa X xc)]] (by rfl) hlitq HO1.out (by simp <;> omega) hSq.size (cap + 1) (by simp) ?_; intro ao5 cap5 w5 hown5 hgrow5 hnew5; have hownb : w5.ownsRow W3.heap.size 24 1 (.slice ao5 (cap + 1) cap5) (cap + 1) (vs (po.take cap) ++ [(Value.slice xa X xc)]) := hown5; have hSb : Below W3.heap.size W3 w5 := hSq.grown hgrow5 hSq.size (own_base hownq); clear hgrow5 hnew5)
                      | (have hh := hSr; refine step_append_k elmR (by first | rfl | simp) _ _ (by rfl) W3.heap.size _ cap (vs (po.take cap)) (by rfl) (World.ownsRow.alloc hownr _) (.slice (some ⟨w4.heap.size, 0, none⟩) 1 1) [[(Value.slice xa X xc)]] (by rfl) (rdS_lit w4 #[(Value.slice xa X xc)] 24 1 rfl) HO1.out (by simp <;> omega) (below_lay hSr (.cells #[(Value.slice xa X xc)] 24)).size (cap + 1) (by simp) ?_; intro ao5 cap5 w5 hown5 hgrow5 hnew5; have hownb : w5.ownsRow W3.heap.size 24 1 (.slice ao5 (cap + 1) cap5) (cap + 1) (vs (po.take cap) ++ [(Value.slice xa X xc)]) := hown5; have hSb : Below W3.heap.size W3 w5 := (below_lay hSr (.cells #[(Value.slice xa X xc)] 24)).grown hgrow5 (below_lay hSr (.cells #[(Value.slice xa X xc)] 24)).size (own_base (World.ownsRow.alloc hownr (.cells #[(Value.slice xa X xc)] 24))); clear hgrow5 hnew5)
                      | (refine step_append_k (w := (W3.drew.alloc (.cells #[(Value.slice xa X xc)] 24)).alloc (.cells #[] 24)) elmR (by first | rfl | simp) _ _ (by rfl) W3.heap.size (.slice (some ⟨W3.heap.size + 1, 0, none⟩) 0 0) 0 [] (by rfl) (own_E1 W3.drew (.cells #[(Value.slice xa X xc)] 24) W3.heap.size (Nat.le_refl _)) (.slice (some ⟨g, 0, none⟩) cap cap) _ (by rfl) (HP.out _ HBO1.out) HOP.out (by rw [HL1.out] <;> omega) HBO1.out.size cap (by rw [HL1.out] <;> omega) ?_; intro ao4 cap4 w4 hown4 hgrow4 hnew4; have hownp : w4.ownsRow W3.heap.size 24 1 (.slice ao4 cap cap4) cap (vs (po.take cap)) := (by have h := hown4; rw [flat_ones, List.nil_append] at h; exact h); have hSp : Below W3.heap.size W3 w4 := HBO1.out.grown hgrow4 HBO1.out.size (own_base (own_E1 W3.drew (.cells #[(Value.slice xa X xc)] 24) W3.heap.size (Nat.le_refl _))); have hlitp := one_at w4 W3.heap.size (Value.slice xa X xc) ((hgrow4.block W3.heap.size (by simp <;> omega) (by simp [Value.ownBlock])).trans HLO1.out); clear hgrow4 hnew4 hown4)
                      | (refine step_append_k (w := (W3.drew.alloc (.cells #[] 24)).alloc (.cells #[(Value.slice xa X xc)] 24)) elmR (by first | rfl | simp) _ _ (by rfl) W3.heap.size (.slice (some ⟨W3.heap.size, 0, none⟩) 0 0) 0 [] (by rfl) (own_E2 W3.drew (.cells #[(Value.slice xa X xc)] 24) W3.heap.size (Nat.le_refl _)) (.slice (some ⟨g, 0, none⟩) cap cap) _ (by rfl) (HP.out _ HBO2.out) HOP.out (by rw [HL1.out] <;> omega) HBO2.out.size cap (by rw [HL1.out] <;> omega) ?_; intro ao4 cap4 w4 hown4 hgrow4 hnew4; have hownq : w4.ownsRow W3.heap.size 24 1 (.slice ao4 cap cap4) cap (vs (po.take cap)) := (by have h := hown4; rw [flat_ones, List.nil_append] at h; exact h); have hSq : Below W3.heap.size W3 w4 := HBO2.out.grown hgrow4 HBO2.out.size (own_base (own_E2 W3.drew (.cells #[(Value.slice xa X xc)] 24) W3.heap.size (Nat.le_refl _))); have hlitq := one_at w4 (W3.heap.size + 1) (Value.slice xa X xc) ((hgrow4.block (W3.heap.size + 1) (by simp <;> omega) (by simp [Value.ownBlock])).trans HLO2.out); clear hgrow4 hnew4 hown4)
                      | (refine step_append_k (w := W3.drew.alloc (.cells #[] 24)) elmR (by first | rfl | simp) _ _ (by rfl) W3.heap.size (.slice (some ⟨W3.heap.size, 0, none⟩) 0 0) 0 [] (by rfl) (own_E3 W3.drew W3.heap.size (Nat.le_refl _)) (.slice (some ⟨g, 0, none⟩) cap cap) _ (by rfl) (HP.out _ HBO3.out) HOP.out (by rw [HL1.out] <;> omega) HBO3.out.size cap (by rw [HL1.out] <;> omega) ?_; intro ao4 cap4 w4 hown4 hgrow4 hnew4; have hownr : w4.ownsRow W3.heap.size 24 1 (.slice ao4 cap cap4) cap (vs (po.take cap)) := (by have h := hown4; rw [flat_ones, List.nil_append] at h; exact h); have hSr : Below W3.heap.size W3 w4 := HBO3.out.grown hgrow4 HBO3.out.size (own_base (own_E3 W3.drew W3.heap.size (Nat.le_refl _))); clear hgrow4 hnew4 hown4))
                  all_goals
                    go_wp2_with fail
                    go_roundw
                    case rel =>
                      obtain ⟨r1, r2, r3, r4, r5, r6, r7⟩ := HNXT.out _ w9 (by have h := hown9; rw [flat_ones] at h; exact h) hS9
                      exact ⟨q + 1, _, by omega, by go_num, by rw [r3]; omega, r2, r4, r5, r6, r7⟩
                    case measure => simp [intOf]; omega
                · have hck2 : (cap == j) = false := by rw [beq_eq_false_iff_ne]; exact hck
                  have HSF := Lib.hid (show ∀ w', Below W3.heap.size W3 w' → RdS w' 1 (.slice (some ⟨g, j, none⟩) (n - j) (cap - j)) ((vs (po.drop j)).map fun u => [u]) from fun w' h => rdS_flat (by
                    rw [vs_drop]
                    have h2 := rd_drop (HO3.out.rd.kept h) hjn3
                    rw [Nat.zero_add] at h2
                    exact h2))
                  go_upto_region 9 with (fail)
                  set_option maxRecDepth 1000000 in
                  go_region_held3 (fun w' => w'.cell? ⟨b0, off0 + q, none⟩ = some (Value.slice xa X xc) ∧ Below W3.heap.size W3 w') (first | assumption | exact HKP.out _ (by first | assumption | exact Below.trans (by assumption) (below_drw _ _) | exact below_lay (by assumption) _ | exact below_lay (Below.trans (by assumption) (below_drw _ _)) _ | exact below_lay (below_lay (by assumption) _) _ | exact below_lay (below_lay (Below.trans (by assumption) (below_drw _ _)) _) _))
                    (first
                      | (have hh := hSb; refine step_append_k elmR (by first | rfl | simp) _ _ (by rfl) W3.heap.size _ (j + 1) (vs (po.take j) ++ [(Value.slice xa X xc)]) (by rfl) hownb (.slice (some ⟨g, j, none⟩) (n - j) (cap - j)) _ (by rfl) (HSF.out _ hSb) HOS.out (by rw [HL2.out] <;> omega) hSb.size (n + 1) (by rw [HL2.out] <;> omega) ?_; intro ao9 cap9 w9 hown9 hgrow9 hnew9; have hS9 : Below W3.heap.size W3 w9 := hSb.grown hgrow9 hSb.size (own_base hownb); clear hgrow9 hnew9)
                      | (have hh := hSp; refine step_append_k elmR (by first | rfl | simp) _ _ (by rfl) W3.heap.size _ j (vs (po.take j)) (by rfl) hownp (.slice (some ⟨W3.heap.size, 0, none⟩) 1 1) [[(Value.slice xa X xc)]] (by rfl) hlitp HO1.out (by simp <;> omega) hSp.size (j + 1) (by simp) ?_; intro ao5 cap5 w5 hown5 hgrow5 hnew5; have hownb : w5.ownsRow W3.heap.size 24 1 (.slice ao5 (j + 1) cap5) (j + 1) (vs (po.take j) ++ [(Value.slice xa X xc)]) := hown5; have hSb : Below W3.heap.size W3 w5 := hSp.grown hgrow5 hSp.size (own_base hownp); clear hgrow5 hnew5)
                      | (have hh := hSq; refine step_append_k elmR (by first | rfl | simp) _ _ (by rfl) W3.heap.size _ j (vs (po.take j)) (by rfl) hownq (.slice (some ⟨W3.heap.size + 1, 0, none⟩) 1 1) [[(Value.slice xa X xc)]] (by rfl) hlitq HO1.out (by simp <;> omega) hSq.size (j + 1) (by simp) ?_; intro ao5 cap5 w5 hown5 hgrow5 hnew5; have hownb : w5.ownsRow W3.heap.size 24 1 (.slice ao5 (j + 1) cap5) (j + 1) (vs (po.take j) ++ [(Value.slice xa X xc)]) := hown5; have hSb : Below W3.heap.size W3 w5 := hSq.grown hgrow5 hSq.size (own_base hownq); clear hgrow5 hnew5)
                      | (have hh := hSr; refine step_append_k elmR (by first | rfl | simp) _ _ (by rfl) W3.heap.size _ j (vs (po.take j)) (by rfl) (World.ownsRow.alloc hownr _) (.slice (some ⟨w4.heap.size, 0, none⟩) 1 1) [[(Value.slice xa X xc)]] (by rfl) (rdS_lit w4 #[(Value.slice xa X xc)] 24 1 rfl) HO1.out (by simp <;> omega) (below_lay hSr (.cells #[(Value.slice xa X xc)] 24)).size (j + 1) (by simp) ?_; intro ao5 cap5 w5 hown5 hgrow5 hnew5; have hownb : w5.ownsRow W3.heap.size 24 1 (.slice ao5 (j + 1) cap5) (j + 1) (vs (po.take j) ++ [(Value.slice xa X xc)]) := hown5; have hSb : Below W3.heap.size W3 w5 := (below_lay hSr (.cells #[(Value.slice xa X xc)] 24)).grown hgrow5 (below_lay hSr (.cells #[(Value.slice xa X xc)] 24)).size (own_base (World.ownsRow.alloc hownr (.cells #[(Value.slice xa X xc)] 24))); clear hgrow5 hnew5)
                      | (refine step_append_k (w := (W3.drew.alloc (.cells #[(Value.slice xa X xc)] 24)).alloc (.cells #[] 24)) elmR (by first | rfl | simp) _ _ (by rfl) W3.heap.size (.slice (some ⟨W3.heap.size + 1, 0, none⟩) 0 0) 0 [] (by rfl) (own_E1 W3.drew (.cells #[(Value.slice xa X xc)] 24) W3.heap.size (Nat.le_refl _)) (.slice (some ⟨g, 0, none⟩) j cap) _ (by rfl) (HP.out _ HBO1.out) HOP.out (by rw [HL1.out] <;> omega) HBO1.out.size j (by rw [HL1.out] <;> omega) ?_; intro ao4 cap4 w4 hown4 hgrow4 hnew4; have hownp : w4.ownsRow W3.heap.size 24 1 (.slice ao4 j cap4) j (vs (po.take j)) := (by have h := hown4; rw [flat_ones, List.nil_append] at h; exact h); have hSp : Below W3.heap.size W3 w4 := HBO1.out.grown hgrow4 HBO1.out.size (own_base (own_E1 W3.drew (.cells #[(Value.slice xa X xc)] 24) W3.heap.size (Nat.le_refl _))); have hlitp := one_at w4 W3.heap.size (Value.slice xa X xc) ((hgrow4.block W3.heap.size (by simp <;> omega) (by simp [Value.ownBlock])).trans HLO1.out); clear hgrow4 hnew4 hown4)
                      | (refine step_append_k (w := (W3.drew.alloc (.cells #[] 24)).alloc (.cells #[(Value.slice xa X xc)] 24)) elmR (by first | rfl | simp) _ _ (by rfl) W3.heap.size (.slice (some ⟨W3.heap.size, 0, none⟩) 0 0) 0 [] (by rfl) (own_E2 W3.drew (.cells #[(Value.slice xa X xc)] 24) W3.heap.size (Nat.le_refl _)) (.slice (some ⟨g, 0, none⟩) j cap) _ (by rfl) (HP.out _ HBO2.out) HOP.out (by rw [HL1.out] <;> omega) HBO2.out.size j (by rw [HL1.out] <;> omega) ?_; intro ao4 cap4 w4 hown4 hgrow4 hnew4; have hownq : w4.ownsRow W3.heap.size 24 1 (.slice ao4 j cap4) j (vs (po.take j)) := (by have h := hown4; rw [flat_ones, List.nil_append] at h; exact h); have hSq : Below W3.heap.size W3 w4 := HBO2.out.grown hgrow4 HBO2.out.size (own_base (own_E2 W3.drew (.cells #[(Value.slice xa X xc)] 24) W3.heap.size (Nat.le_refl _))); have hlitq := one_at w4 (W3.heap.size + 1) (Value.slice xa X xc) ((hgrow4.block (W3.heap.size + 1) (by simp <;> omega) (by simp [Value.ownBlock])).trans HLO2.out); clear hgrow4 hnew4 hown4)
                      | (refine step_append_k (w := W3.drew.alloc (.cells #[] 24)) elmR (by first | rfl | simp) _ _ (by rfl) W3.heap.size (.slice (some ⟨W3.heap.size, 0, none⟩) 0 0) 0 [] (by rfl) (own_E3 W3.drew W3.heap.size (Nat.le_refl _)) (.slice (some ⟨g, 0, none⟩) j cap) _ (by rfl) (HP.out _ HBO3.out) HOP.out (by rw [HL1.out] <;> omega) HBO3.out.size j (by rw [HL1.out] <;> omega) ?_; intro ao4 cap4 w4 hown4 hgrow4 hnew4; have hownr : w4.ownsRow W3.heap.size 24 1 (.slice ao4 j cap4) j (vs (po.take j)) := (by have h := hown4; rw [flat_ones, List.nil_append] at h; exact h); have hSr : Below W3.heap.size W3 w4 := HBO3.out.grown hgrow4 HBO3.out.size (own_base (own_E3 W3.drew W3.heap.size (Nat.le_refl _))); clear hgrow4 hnew4 hown4))
                  all_goals
                    go_wp2_with fail
                    go_roundw
                    case rel =>
                      obtain ⟨r1, r2, r3, r4, r5, r6, r7⟩ := HNXT.out _ w9 (by have h := hown9; rw [flat_ones] at h; exact h) hS9
                      exact ⟨q + 1, _, by omega, by go_num, by rw [r3]; omega, r2, r4, r5, r6, r7⟩
                    case measure => simp [intOf]; omega
        · have hjn2 : j = n := by omega
          subst hjn2
          have hjni : ¬ (j : Int) < (j : Int) := by omega
          have hjne : True := trivial
          have hjneb : True := trivial
          have HUPX := Lib.hid (show ∀ z ∈ (xs po).drop j, ltB x z from fun z hz => by
            rw [List.drop_eq_nil_of_le (by rw [len_xs, ← HN.out]; omega)] at hz
            simp at hz)
          clear hxw h8x
          go_upto_region 8 with (first | go_quiet (fail) | fail)
          go_cut [47] (fun s wx => s = .bool true ∧ Below W2.heap.size W2 wx)
          case first =>
            go_quiet (fail)
            go_wp2_with fail
            go_meet
            exact ⟨rfl, below_draws2 HBJ.out _⟩
          case rest =>
            obtain ⟨rfl, hbc⟩ := hcut
            obtain ⟨W3, hW3⟩ : ∃ W3 : World, W3 = wc := ⟨_, rfl⟩
            rw [← hW3] at hbc ⊢
            have HB3 := Lib.hid (show Below w.heap.size w W3 from HBL.out.trans (hbc.mono HBL.out.size))
            have HO3 := Lib.hid (own_keptR HO.out hbc)
            clear hW3 hbc hcx hjne hjneb
            have hsz3 := HB3.out.size
            have HEP3 := Lib.hid (HEP.out.kept HB3.out)
            obtain ⟨X, hX⟩ : ∃ X, X = List.length x := ⟨_, rfl⟩
            have HNXT := Lib.hid (show ∀ (v9 : Value) (w9 : World), w9.ownsRow W3.heap.size 24 1 v9 (j + 1) (vs (po.take j) ++ [(Value.slice xa X xc)] ++ vs (po.drop j)) → Below W3.heap.size W3 w9 → (j + 1 ≤ q + 1 ∧ OwnR w.heap.size w9 v9 (po.take j ++ ((Value.slice xa X xc), x) :: po.drop j) ∧ (po.take j ++ ((Value.slice xa X xc), x) :: po.drop j).length = j + 1 ∧ SubR (po.take j ++ ((Value.slice xa X xc), x) :: po.drop j) ps ∧ (xs (po.take j ++ ((Value.slice xa X xc), x) :: po.drop j)).Pairwise ltB ∧ (∀ z, z ∈ xs (po.take j ++ ((Value.slice xa X xc), x) :: po.drop j) ↔ z ∈ (xs ps).take (q + 1)) ∧ Below w.heap.size w w9) from fun v9 w9 h9 hb9 => by
              have hx1 : xs (po.take j ++ ((Value.slice xa X xc), x) :: po.drop j) = (xs po).take j ++ x :: (xs po).drop j := by unfold xs; rw [List.map_append, List.map_cons, List.map_take, List.map_drop]
              have hv1 : vs (po.take j ++ ((Value.slice xa X xc), x) :: po.drop j) = vs (po.take j) ++ [(Value.slice xa X xc)] ++ vs (po.drop j) := by unfold vs; rw [List.map_append, List.map_cons, List.append_assoc]; rfl
              refine ⟨by omega, OwnR.of (n := j + 1) (by rw [hv1]; exact own_mono h9 hsz3), ?_, fun p hp => ?_, by rw [hx1]; exact ins_up HUP.out HLOW.out HUPX.out, fun z => ?_, HB3.out.trans (hb9.mono hsz3)⟩
              · rw [List.length_append, List.length_cons, List.length_take, List.length_drop, ← HN.out]; omega
              · rcases List.mem_append.1 hp with h | h
                · exact HSUB.out p (List.mem_of_mem_take h)
                · rcases List.mem_cons.1 h with rfl | h
                  · rw [hX]; exact List.mem_of_getElem? HX.out
                  · exact HSUB.out p (List.mem_of_mem_drop h)
              · rw [hx1, List.mem_append, List.mem_cons, List.take_add_one, xs_at HX.out]
                show _ ↔ z ∈ (xs ps).take q ++ [x]
                rw [List.mem_append, List.mem_singleton, ← HMEM.out]
                have e : z ∈ xs po ↔ z ∈ (xs po).take j ∨ z ∈ (xs po).drop j := by rw [← List.mem_append, List.take_append_drop]
                rw [e]
                constructor
                · rintro (h | h | h) <;> simp [h]
                · rintro ((h | h) | h) <;> simp [h])
            rcases HO3.out.2 with ⟨hv, h0⟩ | ⟨g, c, cur, h1, _⟩
            · have h3 : ao = none ∧ j = 0 ∧ cap = 0 := by simp only [Value.slice.injEq] at hv; exact ⟨hv.1, by omega, hv.2.2⟩
              obtain ⟨rfl, rfl, rfl⟩ := h3
              clear hv h0
              have HP := Lib.hid (show ∀ w', Below W3.heap.size W3 w' → RdS w' 1 (.slice none 0 0) ((vs (po.take 0)).map fun u => [u]) from fun w' h => rdS_flat (Rd.nil w'))
              have HOP := Lib.hid (ones_flat (xs := vs (po.take 0)) (fun a ha => HEP3.out.ones a (by unfold vs at ha ⊢; rw [List.map_take] at ha; exact List.mem_of_mem_take ha)))
              have HOS := Lib.hid (ones_flat (xs := vs (po.drop 0)) (fun a ha => HEP3.out.ones a (by unfold vs at ha ⊢; rw [List.map_drop] at ha; exact List.mem_of_mem_drop ha)))
              have hcx3 := HXC.out W3 HB3.out
              rw [← hX] at hcx3
              have hHX := Lib.hid hX
              clear hX
              have HKP := Lib.hid fun w' (h : Below W3.heap.size W3 w') => (show w'.cell? ⟨b0, off0 + q, none⟩ = some (Value.slice xa X xc) ∧ Below W3.heap.size W3 w' from ⟨(h.cell (World.block_lt_of_cell? _ _ hcx3)).trans hcx3, h⟩)
              have hS := Below.refl W3.heap.size W3
              have HL1 := Lib.hid (show ((vs (po.take 0)).map fun u => [u]).length = 0 by rw [List.length_map, len_vs, List.length_take, ← HN.out]; omega)
              have HL2 := Lib.hid (show ((vs (po.drop 0)).map fun u => [u]).length = 0 - 0 by rw [List.length_map, len_vs, List.length_drop, ← HN.out])
              have HO1 := Lib.hid (ones_one (.slice xa X xc) rfl)
              have HBO1 := Lib.hid (show Below W3.heap.size W3 ((W3.drew.alloc (.cells #[(Value.slice xa X xc)] 24)).alloc (.cells #[] 24)) from below_lay (below_lay (Below.trans hS (below_drw _ _)) _) _)
              have HBO2 := Lib.hid (show Below W3.heap.size W3 ((W3.drew.alloc (.cells #[] 24)).alloc (.cells #[(Value.slice xa X xc)] 24)) from below_lay (below_lay (Below.trans hS (below_drw _ _)) _) _)
              have HBO3 := Lib.hid (show Below W3.heap.size W3 (W3.drew.alloc (.cells #[] 24)) from below_lay (Below.trans hS (below_drw _ _)) _)
              have HLO1 := Lib.hid (show ((W3.drew.alloc (.cells #[(Value.slice xa X xc)] 24)).alloc (.cells #[] 24)).heap[W3.heap.size]? = some (.cells #[(Value.slice xa X xc)] 24 (0, 0)) from (heap_alloc_old (W3.drew.alloc (.cells #[(Value.slice xa X xc)] 24)) (.cells #[] 24) (r := W3.heap.size) (by simp)).trans (heap_alloc_new W3.drew _))
              have HLO2 := Lib.hid (show ((W3.drew.alloc (.cells #[] 24)).alloc (.cells #[(Value.slice xa X xc)] 24)).heap[W3.heap.size + 1]? = some (.cells #[(Value.slice xa X xc)] 24 (0, 0)) from heap2 W3.drew _ _)
              have hN7 : 0 ≤ 100000 := by omega
              have HSF := Lib.hid (show ∀ w', Below W3.heap.size W3 w' → RdS w' 1 (.slice none 0 0) ((vs (po.drop 0)).map fun u => [u]) from fun w' h => by
                have h0 : po.drop 0 = [] := List.drop_eq_nil_of_le (by rw [← HN.out]; omega)
                rw [h0]
                exact rdS_flat (Rd.nil w'))
              go_upto_region 9 with (fail)
              set_option maxRecDepth 1000000 in
              go_region_held3 (fun w' => w'.cell? ⟨b0, off0 + q, none⟩ = some (Value.slice xa X xc) ∧ Below W3.heap.size W3 w') (first | assumption | exact HKP.out _ (by first | assumption | exact Below.trans (by assumption) (below_drw _ _) | exact below_lay (by assumption) _ | exact below_lay (Below.trans (by assumption) (below_drw _ _)) _ | exact below_lay (below_lay (by assumption) _) _ | exact below_lay (below_lay (Below.trans (by assumption) (below_drw _ _)) _) _))
                (first
                  | (have hh := hSb; refine step_append_k elmR (by first | rfl | simp) _ _ (by rfl) W3.heap.size _ (0 + 1) (vs (po.take 0) ++ [(Value.slice xa X xc)]) (by rfl) hownb (.slice none 0 0) _ (by rfl) (HSF.out _ hSb) HOS.out (by rw [HL2.out] <;> omega) hSb.size (0 + 1) (by rw [HL2.out] <;> omega) ?_; intro ao9 cap9 w9 hown9 hgrow9 hnew9; have hS9 : Below W3.heap.size W3 w9 := hSb.grown hgrow9 hSb.size (own_base hownb); clear hgrow9 hnew9)
                  | (have hh := hSp; refine step_append_k elmR (by first | rfl | simp) _ _ (by rfl) W3.heap.size _ 0 (vs (po.take 0)) (by rfl) hownp (.slice (some ⟨W3.heap.size, 0, none⟩) 1 1) [[(Value.slice xa X xc)]] (by rfl) hlitp HO1.out (by simp <;> omega) hSp.size (0 + 1) (by simp) ?_; intro ao5 cap5 w5 hown5 hgrow5 hnew5; have hownb : w5.ownsRow W3.heap.size 24 1 (.slice ao5 (0 + 1) cap5) (0 + 1) (vs (po.take 0) ++ [(Value.slice xa X xc)]) := hown5; have hSb : Below W3.heap.size W3 w5 := hSp.grown hgrow5 hSp.size (own_base hownp); clear hgrow5 hnew5)
                  | (have hh := hSq; refine step_append_k elmR (by first | rfl | simp) _ _ (by rfl) W3.heap.size _ 0 (vs (po.take 0)) (by rfl) hownq (.slice (some ⟨W3.heap.size + 1, 0, none⟩) 1 1) [[(Value.slice xa X xc)]] (by rfl) hlitq HO1.out (by simp <;> omega) hSq.size (0 + 1) (by simp) ?_; intro ao5 cap5 w5 hown5 hgrow5 hnew5; have hownb : w5.ownsRow W3.heap.size 24 1 (.slice ao5 (0 + 1) cap5) (0 + 1) (vs (po.take 0) ++ [(Value.slice xa X xc)]) := hown5; have hSb : Below W3.heap.size W3 w5 := hSq.grown hgrow5 hSq.size (own_base hownq); clear hgrow5 hnew5)
                  | (have hh := hSr; refine step_append_k elmR (by first | rfl | simp) _ _ (by rfl) W3.heap.size _ 0 (vs (po.take 0)) (by rfl) (World.ownsRow.alloc hownr _) (.slice (some ⟨w4.heap.size, 0, none⟩) 1 1) [[(Value.slice xa X xc)]] (by rfl) (rdS_lit w4 #[(Value.slice xa X xc)] 24 1 rfl) HO1.out (by simp <;> omega) (below_lay hSr (.cells #[(Value.slice xa X xc)] 24)).size (0 + 1) (by simp) ?_; intro ao5 cap5 w5 hown5 hgrow5 hnew5; have hownb : w5.ownsRow W3.heap.size 24 1 (.slice ao5 (0 + 1) cap5) (0 + 1) (vs (po.take 0) ++ [(Value.slice xa X xc)]) := hown5; have hSb : Below W3.heap.size W3 w5 := (below_lay hSr (.cells #[(Value.slice xa X xc)] 24)).grown hgrow5 (below_lay hSr (.cells #[(Value.slice xa X xc)] 24)).size (own_base (World.ownsRow.alloc hownr (.cells #[(Value.slice xa X xc)] 24))); clear hgrow5 hnew5)
                  | (refine step_append_k (w := (W3.drew.alloc (.cells #[(Value.slice xa X xc)] 24)).alloc (.cells #[] 24)) elmR (by first | rfl | simp) _ _ (by rfl) W3.heap.size (.slice (some ⟨W3.heap.size + 1, 0, none⟩) 0 0) 0 [] (by rfl) (own_E1 W3.drew (.cells #[(Value.slice xa X xc)] 24) W3.heap.size (Nat.le_refl _)) (.slice none 0 0) _ (by rfl) (HP.out _ HBO1.out) HOP.out (by rw [HL1.out] <;> omega) HBO1.out.size 0 (by rw [HL1.out] <;> omega) ?_; intro ao4 cap4 w4 hown4 hgrow4 hnew4; have hownp : w4.ownsRow W3.heap.size 24 1 (.slice ao4 0 cap4) 0 (vs (po.take 0)) := (by have h := hown4; rw [flat_ones, List.nil_append] at h; exact h); have hSp : Below W3.heap.size W3 w4 := HBO1.out.grown hgrow4 HBO1.out.size (own_base (own_E1 W3.drew (.cells #[(Value.slice xa X xc)] 24) W3.heap.size (Nat.le_refl _))); have hlitp := one_at w4 W3.heap.size (Value.slice xa X xc) ((hgrow4.block W3.heap.size (by simp <;> omega) (by simp [Value.ownBlock])).trans HLO1.out); clear hgrow4 hnew4 hown4)
                  | (refine step_append_k (w := (W3.drew.alloc (.cells #[] 24)).alloc (.cells #[(Value.slice xa X xc)] 24)) elmR (by first | rfl | simp) _ _ (by rfl) W3.heap.size (.slice (some ⟨W3.heap.size, 0, none⟩) 0 0) 0 [] (by rfl) (own_E2 W3.drew (.cells #[(Value.slice xa X xc)] 24) W3.heap.size (Nat.le_refl _)) (.slice none 0 0) _ (by rfl) (HP.out _ HBO2.out) HOP.out (by rw [HL1.out] <;> omega) HBO2.out.size 0 (by rw [HL1.out] <;> omega) ?_; intro ao4 cap4 w4 hown4 hgrow4 hnew4; have hownq : w4.ownsRow W3.heap.size 24 1 (.slice ao4 0 cap4) 0 (vs (po.take 0)) := (by have h := hown4; rw [flat_ones, List.nil_append] at h; exact h); have hSq : Below W3.heap.size W3 w4 := HBO2.out.grown hgrow4 HBO2.out.size (own_base (own_E2 W3.drew (.cells #[(Value.slice xa X xc)] 24) W3.heap.size (Nat.le_refl _))); have hlitq := one_at w4 (W3.heap.size + 1) (Value.slice xa X xc) ((hgrow4.block (W3.heap.size + 1) (by simp <;> omega) (by simp [Value.ownBlock])).trans HLO2.out); clear hgrow4 hnew4 hown4)
                  | (refine step_append_k (w := W3.drew.alloc (.cells #[] 24)) elmR (by first | rfl | simp) _ _ (by rfl) W3.heap.size (.slice (some ⟨W3.heap.size, 0, none⟩) 0 0) 0 [] (by rfl) (own_E3 W3.drew W3.heap.size (Nat.le_refl _)) (.slice none 0 0) _ (by rfl) (HP.out _ HBO3.out) HOP.out (by rw [HL1.out] <;> omega) HBO3.out.size 0 (by rw [HL1.out] <;> omega) ?_; intro ao4 cap4 w4 hown4 hgrow4 hnew4; have hownr : w4.ownsRow W3.heap.size 24 1 (.slice ao4 0 cap4) 0 (vs (po.take 0)) := (by have h := hown4; rw [flat_ones, List.nil_append] at h; exact h); have hSr : Below W3.heap.size W3 w4 := HBO3.out.grown hgrow4 HBO3.out.size (own_base (own_E3 W3.drew W3.heap.size (Nat.le_refl _))); clear hgrow4 hnew4 hown4))
              all_goals
                go_wp2_with fail
                go_roundw
                case rel =>
                  obtain ⟨r1, r2, r3, r4, r5, r6, r7⟩ := HNXT.out _ w9 (by have h := hown9; rw [flat_ones] at h; exact h) hS9
                  exact ⟨q + 1, _, by omega, by go_num, by rw [r3]; omega, r2, r4, r5, r6, r7⟩
                case measure => simp [intOf]; omega
            · have h2 : ao = some ⟨g, 0, none⟩ := by simp only [Value.slice.injEq] at h1; exact h1.1
              subst h2
              clear h1
              have hnc := rd_cap HO3.out.rd
              have hj0 : (0 : Int) ≤ (j : Int) := by omega
              have hjN : (j : Int) ≤ (j : Int) := by omega
              have hjc : (j : Int) ≤ (cap : Int) := by omega
              have hjc2 : j ≤ cap := by omega
              have hjn3 : j ≤ j := by omega
              have HP := Lib.hid (show ∀ w', Below W3.heap.size W3 w' → RdS w' 1 (.slice (some ⟨g, 0, none⟩) j cap) ((vs (po.take j)).map fun u => [u]) from fun w' h => rdS_flat (by rw [vs_take]; exact rd_take (HO3.out.rd.kept h) hjn3))
              have HOP := Lib.hid (ones_flat (xs := vs (po.take j)) (fun a ha => HEP3.out.ones a (by unfold vs at ha ⊢; rw [List.map_take] at ha; exact List.mem_of_mem_take ha)))
              have HOS := Lib.hid (ones_flat (xs := vs (po.drop j)) (fun a ha => HEP3.out.ones a (by unfold vs at ha ⊢; rw [List.map_drop] at ha; exact List.mem_of_mem_drop ha)))
              have hcx3 := HXC.out W3 HB3.out
              rw [← hX] at hcx3
              have hHX := Lib.hid hX
              clear hX
              have HKP := Lib.hid fun w' (h : Below W3.heap.size W3 w') => (show w'.cell? ⟨b0, off0 + q, none⟩ = some (Value.slice xa X xc) ∧ Below W3.heap.size W3 w' from ⟨(h.cell (World.block_lt_of_cell? _ _ hcx3)).trans hcx3, h⟩)
              have hS := Below.refl W3.heap.size W3
              have HL1 := Lib.hid (show ((vs (po.take j)).map fun u => [u]).length = j by rw [List.length_map, len_vs, List.length_take, ← HN.out]; omega)
              have HL2 := Lib.hid (show ((vs (po.drop j)).map fun u => [u]).length = j - j by rw [List.length_map, len_vs, List.length_drop, ← HN.out])
              have HO1 := Lib.hid (ones_one (.slice xa X xc) rfl)
              have HBO1 := Lib.hid (show Below W3.heap.size W3 ((W3.drew.alloc (.cells #[(Value.slice xa X xc)] 24)).alloc (.cells #[] 24)) from below_lay (below_lay (Below.trans hS (below_drw _ _)) _) _)
              have HBO2 := Lib.hid (show Below W3.heap.size W3 ((W3.drew.alloc (.cells #[] 24)).alloc (.cells #[(Value.slice xa X xc)] 24)) from below_lay (below_lay (Below.trans hS (below_drw _ _)) _) _)
              have HBO3 := Lib.hid (show Below W3.heap.size W3 (W3.drew.alloc (.cells #[] 24)) from below_lay (Below.trans hS (below_drw _ _)) _)
              have HLO1 := Lib.hid (show ((W3.drew.alloc (.cells #[(Value.slice xa X xc)] 24)).alloc (.cells #[] 24)).heap[W3.heap.size]? = some (.cells #[(Value.slice xa X xc)] 24 (0, 0)) from (heap_alloc_old (W3.drew.alloc (.cells #[(Value.slice xa X xc)] 24)) (.cells #[] 24) (r := W3.heap.size) (by simp)).trans (heap_alloc_new W3.drew _))
              have HLO2 := Lib.hid (show ((W3.drew.alloc (.cells #[] 24)).alloc (.cells #[(Value.slice xa X xc)] 24)).heap[W3.heap.size + 1]? = some (.cells #[(Value.slice xa X xc)] 24 (0, 0)) from heap2 W3.drew _ _)
              have hN7 : j ≤ 100000 := by omega
              by_cases hck : cap = j
              · have HSF := Lib.hid (show ∀ w', Below W3.heap.size W3 w' → RdS w' 1 (.slice (some ⟨g, 0, none⟩) 0 0) ((vs (po.drop j)).map fun u => [u]) from fun w' h => by
                  have h0 : po.drop j = [] := List.drop_eq_nil_of_le (by rw [← HN.out]; omega)
                  rw [h0]
                  exact rdS_flat (rd_empty w' _ 0))
                have hN8 : j - j = 0 := by omega
                subst hck
                go_upto_region 9 with (fail)
                set_option maxRecDepth 1000000 in
                go_region_held3 (fun w' => w'.cell? ⟨b0, off0 + q, none⟩ = some (Value.slice xa X xc) ∧ Below W3.heap.size W3 w') (first | assumption | exact HKP.out _ (by first | assumption | exact Below.trans (by assumption) (below_drw _ _) | exact below_lay (by assumption) _ | exact below_lay (Below.trans (by assumption) (below_drw _ _)) _ | exact below_lay (below_lay (by assumption) _) _ | exact below_lay (below_lay (Below.trans (by assumption) (below_drw _ _)) _) _))
                  (first
                    | (have hh := hSb; refine step_append_k elmR (by first | rfl | simp) _ _ (by rfl) W3.heap.size _ (cap + 1) (vs (po.take cap) ++ [(Value.slice xa X xc)]) (by rfl) hownb (.slice (some ⟨g, 0, none⟩) 0 0) _ (by rfl) (HSF.out _ hSb) HOS.out (by rw [HL2.out] <;> omega) hSb.size (cap + 1) (by rw [HL2.out] <;> omega) ?_; intro ao9 cap9 w9 hown9 hgrow9 hnew9; have hS9 : Below W3.heap.size W3 w9 := hSb.grown hgrow9 hSb.size (own_base hownb); clear hgrow9 hnew9)
                    | (have hh := hSp; refine step_append_k elmR (by first | rfl | simp) _ _ (by rfl) W3.heap.size _ cap (vs (po.take cap)) (by rfl) hownp (.slice (some ⟨W3.heap.size, 0, none⟩) 1 1) [[(Value.slice xa X xc)]] (by rfl) hlitp HO1.out (by simp <;> omega) hSp.size (cap + 1) (by simp) ?_; intro ao5 cap5 w5 hown5 hgrow5 hnew5; have hownb : w5.ownsRow W3.heap.size 24 1 (.slice ao5 (cap + 1) cap5) (cap + 1) (vs (po.take cap) ++ [(Value.slice xa X xc)]) := hown5; have hSb : Below W3.heap.size W3 w5 := hSp.grown hgrow5 hSp.size (own_base hownp); clear hgrow5 hnew5)
                    | (have hh := hSq; refine step_append_k elmR (by first | rfl | simp) _ _ (by rfl) W3.heap.size _ cap (vs (po.take cap)) (by rfl) hownq (.slice (some ⟨W3.heap.size + 1, 0, none⟩) 1 1) [[(Value.slice xa X xc)]] (by rfl) hlitq HO1.out (by simp <;> omega) hSq.size (cap + 1) (by simp) ?_; intro ao5 cap5 w5 hown5 hgrow5 hnew5; have hownb : w5.ownsRow W3.heap.size 24 1 (.slice ao5 (cap + 1) cap5) (cap + 1) (vs (po.take cap) ++ [(Value.slice xa X xc)]) := hown5; have hSb : Below W3.heap.size W3 w5 := hSq.grown hgrow5 hSq.size (own_base hownq); clear hgrow5 hnew5)
                    | (have hh := hSr; refine step_append_k elmR (by first | rfl | simp) _ _ (by rfl) W3.heap.size _ cap (vs (po.take cap)) (by rfl) (World.ownsRow.alloc hownr _) (.slice (some ⟨w4.heap.size, 0, none⟩) 1 1) [[(Value.slice xa X xc)]] (by rfl) (rdS_lit w4 #[(Value.slice xa X xc)] 24 1 rfl) HO1.out (by simp <;> omega) (below_lay hSr (.cells #[(Value.slice xa X xc)] 24)).size (cap + 1) (by simp) ?_; intro ao5 cap5 w5 hown5 hgrow5 hnew5; have hownb : w5.ownsRow W3.heap.size 24 1 (.slice ao5 (cap + 1) cap5) (cap + 1) (vs (po.take cap) ++ [(Value.slice xa X xc)]) := hown5; have hSb : Below W3.heap.size W3 w5 := (below_lay hSr (.cells #[(Value.slice xa X xc)] 24)).grown hgrow5 (below_lay hSr (.cells #[(Value.slice xa X xc)] 24)).size (own_base (World.ownsRow.alloc hownr (.cells #[(Value.slice xa X xc)] 24))); clear hgrow5 hnew5)
                    | (refine step_append_k (w := (W3.drew.alloc (.cells #[(Value.slice xa X xc)] 24)).alloc (.cells #[] 24)) elmR (by first | rfl | simp) _ _ (by rfl) W3.heap.size (.slice (some ⟨W3.heap.size + 1, 0, none⟩) 0 0) 0 [] (by rfl) (own_E1 W3.drew (.cells #[(Value.slice xa X xc)] 24) W3.heap.size (Nat.le_refl _)) (.slice (some ⟨g, 0, none⟩) cap cap) _ (by rfl) (HP.out _ HBO1.out) HOP.out (by rw [HL1.out] <;> omega) HBO1.out.size cap (by rw [HL1.out] <;> omega) ?_; intro ao4 cap4 w4 hown4 hgrow4 hnew4; have hownp : w4.ownsRow W3.heap.size 24 1 (.slice ao4 cap cap4) cap (vs (po.take cap)) := (by have h := hown4; rw [flat_ones, List.nil_append] at h; exact h); have hSp : Below W3.heap.size W3 w4 := HBO1.out.grown hgrow4 HBO1.out.size (own_base (own_E1 W3.drew (.cells #[(Value.slice xa X xc)] 24) W3.heap.size (Nat.le_refl _))); have hlitp := one_at w4 W3.heap.size (Value.slice xa X xc) ((hgrow4.block W3.heap.size (by simp <;> omega) (by simp [Value.ownBlock])).trans HLO1.out); clear hgrow4 hnew4 hown4)
                    | (refine step_append_k (w := (W3.drew.alloc (.cells #[] 24)).alloc (.cells #[(Value.slice xa X xc)] 24)) elmR (by first | rfl | simp) _ _ (by rfl) W3.heap.size (.slice (some ⟨W3.heap.size, 0, none⟩) 0 0) 0 [] (by rfl) (own_E2 W3.drew (.cells #[(Value.slice xa X xc)] 24) W3.heap.size (Nat.le_refl _)) (.slice (some ⟨g, 0, none⟩) cap cap) _ (by rfl) (HP.out _ HBO2.out) HOP.out (by rw [HL1.out] <;> omega) HBO2.out.size cap (by rw [HL1.out] <;> omega) ?_; intro ao4 cap4 w4 hown4 hgrow4 hnew4; have hownq : w4.ownsRow W3.heap.size 24 1 (.slice ao4 cap cap4) cap (vs (po.take cap)) := (by have h := hown4; rw [flat_ones, List.nil_append] at h; exact h); have hSq : Below W3.heap.size W3 w4 := HBO2.out.grown hgrow4 HBO2.out.size (own_base (own_E2 W3.drew (.cells #[(Value.slice xa X xc)] 24) W3.heap.size (Nat.le_refl _))); have hlitq := one_at w4 (W3.heap.size + 1) (Value.slice xa X xc) ((hgrow4.block (W3.heap.size + 1) (by simp <;> omega) (by simp [Value.ownBlock])).trans HLO2.out); clear hgrow4 hnew4 hown4)
                    | (refine step_append_k (w := W3.drew.alloc (.cells #[] 24)) elmR (by first | rfl | simp) _ _ (by rfl) W3.heap.size (.slice (some ⟨W3.heap.size, 0, none⟩) 0 0) 0 [] (by rfl) (own_E3 W3.drew W3.heap.size (Nat.le_refl _)) (.slice (some ⟨g, 0, none⟩) cap cap) _ (by rfl) (HP.out _ HBO3.out) HOP.out (by rw [HL1.out] <;> omega) HBO3.out.size cap (by rw [HL1.out] <;> omega) ?_; intro ao4 cap4 w4 hown4 hgrow4 hnew4; have hownr : w4.ownsRow W3.heap.size 24 1 (.slice ao4 cap cap4) cap (vs (po.take cap)) := (by have h := hown4; rw [flat_ones, List.nil_append] at h; exact h); have hSr : Below W3.heap.size W3 w4 := HBO3.out.grown hgrow4 HBO3.out.size (own_base (own_E3 W3.drew W3.heap.size (Nat.le_refl _))); clear hgrow4 hnew4 hown4))
                all_goals
                  go_wp2_with fail
                  go_roundw
                  case rel =>
                    obtain ⟨r1, r2, r3, r4, r5, r6, r7⟩ := HNXT.out _ w9 (by have h := hown9; rw [flat_ones] at h; exact h) hS9
                    exact ⟨q + 1, _, by omega, by go_num, by rw [r3]; omega, r2, r4, r5, r6, r7⟩
                  case measure => simp [intOf]; omega
              · have hck2 : (cap == j) = false := by rw [beq_eq_false_iff_ne]; exact hck
                have HSF := Lib.hid (show ∀ w', Below W3.heap.size W3 w' → RdS w' 1 (.slice (some ⟨g, j, none⟩) 0 (cap - j)) ((vs (po.drop j)).map fun u => [u]) from fun w' h => rdS_flat (by
                  rw [vs_drop]
                  have h2 := rd_drop (HO3.out.rd.kept h) hjn3
                  rw [Nat.zero_add, Nat.sub_self] at h2
                  exact h2))
                go_upto_region 9 with (fail)
                set_option maxRecDepth 1000000 in
                go_region_held3 (fun w' => w'.cell? ⟨b0, off0 + q, none⟩ = some (Value.slice xa X xc) ∧ Below W3.heap.size W3 w') (first | assumption | exact HKP.out _ (by first | assumption | exact Below.trans (by assumption) (below_drw _ _) | exact below_lay (by assumption) _ | exact below_lay (Below.trans (by assumption) (below_drw _ _)) _ | exact below_lay (below_lay (by assumption) _) _ | exact below_lay (below_lay (Below.trans (by assumption) (below_drw _ _)) _) _))
                  (first
                    | (have hh := hSb; refine step_append_k elmR (by first | rfl | simp) _ _ (by rfl) W3.heap.size _ (j + 1) (vs (po.take j) ++ [(Value.slice xa X xc)]) (by rfl) hownb (.slice (some ⟨g, j, none⟩) 0 (cap - j)) _ (by rfl) (HSF.out _ hSb) HOS.out (by rw [HL2.out] <;> omega) hSb.size (j + 1) (by rw [HL2.out] <;> omega) ?_; intro ao9 cap9 w9 hown9 hgrow9 hnew9; have hS9 : Below W3.heap.size W3 w9 := hSb.grown hgrow9 hSb.size (own_base hownb); clear hgrow9 hnew9)
                    | (have hh := hSp; refine step_append_k elmR (by first | rfl | simp) _ _ (by rfl) W3.heap.size _ j (vs (po.take j)) (by rfl) hownp (.slice (some ⟨W3.heap.size, 0, none⟩) 1 1) [[(Value.slice xa X xc)]] (by rfl) hlitp HO1.out (by simp <;> omega) hSp.size (j + 1) (by simp) ?_; intro ao5 cap5 w5 hown5 hgrow5 hnew5; have hownb : w5.ownsRow W3.heap.size 24 1 (.slice ao5 (j + 1) cap5) (j + 1) (vs (po.take j) ++ [(Value.slice xa X xc)]) := hown5; have hSb : Below W3.heap.size W3 w5 := hSp.grown hgrow5 hSp.size (own_base hownp); clear hgrow5 hnew5)
                    | (have hh := hSq; refine step_append_k elmR (by first | rfl | simp) _ _ (by rfl) W3.heap.size _ j (vs (po.take j)) (by rfl) hownq (.slice (some ⟨W3.heap.size + 1, 0, none⟩) 1 1) [[(Value.slice xa X xc)]] (by rfl) hlitq HO1.out (by simp <;> omega) hSq.size (j + 1) (by simp) ?_; intro ao5 cap5 w5 hown5 hgrow5 hnew5; have hownb : w5.ownsRow W3.heap.size 24 1 (.slice ao5 (j + 1) cap5) (j + 1) (vs (po.take j) ++ [(Value.slice xa X xc)]) := hown5; have hSb : Below W3.heap.size W3 w5 := hSq.grown hgrow5 hSq.size (own_base hownq); clear hgrow5 hnew5)
                    | (have hh := hSr; refine step_append_k elmR (by first | rfl | simp) _ _ (by rfl) W3.heap.size _ j (vs (po.take j)) (by rfl) (World.ownsRow.alloc hownr _) (.slice (some ⟨w4.heap.size, 0, none⟩) 1 1) [[(Value.slice xa X xc)]] (by rfl) (rdS_lit w4 #[(Value.slice xa X xc)] 24 1 rfl) HO1.out (by simp <;> omega) (below_lay hSr (.cells #[(Value.slice xa X xc)] 24)).size (j + 1) (by simp) ?_; intro ao5 cap5 w5 hown5 hgrow5 hnew5; have hownb : w5.ownsRow W3.heap.size 24 1 (.slice ao5 (j + 1) cap5) (j + 1) (vs (po.take j) ++ [(Value.slice xa X xc)]) := hown5; have hSb : Below W3.heap.size W3 w5 := (below_lay hSr (.cells #[(Value.slice xa X xc)] 24)).grown hgrow5 (below_lay hSr (.cells #[(Value.slice xa X xc)] 24)).size (own_base (World.ownsRow.alloc hownr (.cells #[(Value.slice xa X xc)] 24))); clear hgrow5 hnew5)
                    | (refine step_append_k (w := (W3.drew.alloc (.cells #[(Value.slice xa X xc)] 24)).alloc (.cells #[] 24)) elmR (by first | rfl | simp) _ _ (by rfl) W3.heap.size (.slice (some ⟨W3.heap.size + 1, 0, none⟩) 0 0) 0 [] (by rfl) (own_E1 W3.drew (.cells #[(Value.slice xa X xc)] 24) W3.heap.size (Nat.le_refl _)) (.slice (some ⟨g, 0, none⟩) j cap) _ (by rfl) (HP.out _ HBO1.out) HOP.out (by rw [HL1.out] <;> omega) HBO1.out.size j (by rw [HL1.out] <;> omega) ?_; intro ao4 cap4 w4 hown4 hgrow4 hnew4; have hownp : w4.ownsRow W3.heap.size 24 1 (.slice ao4 j cap4) j (vs (po.take j)) := (by have h := hown4; rw [flat_ones, List.nil_append] at h; exact h); have hSp : Below W3.heap.size W3 w4 := HBO1.out.grown hgrow4 HBO1.out.size (own_base (own_E1 W3.drew (.cells #[(Value.slice xa X xc)] 24) W3.heap.size (Nat.le_refl _))); have hlitp := one_at w4 W3.heap.size (Value.slice xa X xc) ((hgrow4.block W3.heap.size (by simp <;> omega) (by simp [Value.ownBlock])).trans HLO1.out); clear hgrow4 hnew4 hown4)
                    | (refine step_append_k (w := (W3.drew.alloc (.cells #[] 24)).alloc (.cells #[(Value.slice xa X xc)] 24)) elmR (by first | rfl | simp) _ _ (by rfl) W3.heap.size (.slice (some ⟨W3.heap.size, 0, none⟩) 0 0) 0 [] (by rfl) (own_E2 W3.drew (.cells #[(Value.slice xa X xc)] 24) W3.heap.size (Nat.le_refl _)) (.slice (some ⟨g, 0, none⟩) j cap) _ (by rfl) (HP.out _ HBO2.out) HOP.out (by rw [HL1.out] <;> omega) HBO2.out.size j (by rw [HL1.out] <;> omega) ?_; intro ao4 cap4 w4 hown4 hgrow4 hnew4; have hownq : w4.ownsRow W3.heap.size 24 1 (.slice ao4 j cap4) j (vs (po.take j)) := (by have h := hown4; rw [flat_ones, List.nil_append] at h; exact h); have hSq : Below W3.heap.size W3 w4 := HBO2.out.grown hgrow4 HBO2.out.size (own_base (own_E2 W3.drew (.cells #[(Value.slice xa X xc)] 24) W3.heap.size (Nat.le_refl _))); have hlitq := one_at w4 (W3.heap.size + 1) (Value.slice xa X xc) ((hgrow4.block (W3.heap.size + 1) (by simp <;> omega) (by simp [Value.ownBlock])).trans HLO2.out); clear hgrow4 hnew4 hown4)
                    | (refine step_append_k (w := W3.drew.alloc (.cells #[] 24)) elmR (by first | rfl | simp) _ _ (by rfl) W3.heap.size (.slice (some ⟨W3.heap.size, 0, none⟩) 0 0) 0 [] (by rfl) (own_E3 W3.drew W3.heap.size (Nat.le_refl _)) (.slice (some ⟨g, 0, none⟩) j cap) _ (by rfl) (HP.out _ HBO3.out) HOP.out (by rw [HL1.out] <;> omega) HBO3.out.size j (by rw [HL1.out] <;> omega) ?_; intro ao4 cap4 w4 hown4 hgrow4 hnew4; have hownr : w4.ownsRow W3.heap.size 24 1 (.slice ao4 j cap4) j (vs (po.take j)) := (by have h := hown4; rw [flat_ones, List.nil_append] at h; exact h); have hSr : Below W3.heap.size W3 w4 := HBO3.out.grown hgrow4 HBO3.out.size (own_base (own_E3 W3.drew W3.heap.size (Nat.le_refl _))); clear hgrow4 hnew4 hown4))
                all_goals
                  go_wp2_with fail
                  go_roundw
                  case rel =>
                    obtain ⟨r1, r2, r3, r4, r5, r6, r7⟩ := HNXT.out _ w9 (by have h := hown9; rw [flat_ones] at h; exact h) hS9
                    exact ⟨q + 1, _, by omega, by go_num, by rw [r3]; omega, r2, r4, r5, r6, r7⟩
                  case measure => simp [intOf]; omega
    · have hqm : q = m := by omega
      subst hqm
      have hl1i : ¬ (q : Int) < (q : Int) := by omega
      go_wp2_with fail
      go_ret
      refine ⟨_, rfl, po, OwnR.of HO.out, HSUB.out, up_ext HUP.out (wordsT_up _) fun z => ?_, HBL.out⟩
      rw [HMEM.out, List.take_of_length_le (by rw [len_xs, ← HM.out]; exact Nat.le_refl _), wordsT_mem]


end Go.Proofs.Ytjcmekhamohbnaa.Bc

namespace Go.Proofs.Ytjcmekhamohbnaa.Bc
set_option linter.unusedVariables false
set_option linter.unusedSimpArgs false
open Go.RowKit

theorem tol_len {nums : Bool} {x : By} (h : OkT nums x) : (tolT nums x).length ≤ 74 := by
  unfold tolT
  split
  · exact Nat.le_trans (Go.Proofs.Ytjcmekhamohbnaa.putT_len _).1 (by decide)
  · exact (putT_len x ⟨h.1, h.2.1⟩).1
theorem gPlain_len {nums : Bool} : ∀ {l : List By}, (∀ x ∈ l, OkT nums x) → (gPlain nums l).length ≤ 74 * l.length
  | [], _ => by simp [gPlain]
  | x :: r, h => by
    have ih := gPlain_len (l := r) fun y hy => h y (List.mem_cons_of_mem _ hy)
    have h1 := tol_len (h x List.mem_cons_self)
    unfold gPlain at ih ⊢
    rw [List.map_cons, List.flatten_cons, List.length_append, List.length_cons]
    omega
theorem gPlain_snoc (nums : Bool) (l : List By) (x : By) : gPlain nums (l ++ [x]) = gPlain nums l ++ tolT nums x := by simp [gPlain]
theorem gRuns_lead (nums : Bool) {l : List By} {n : Nat} (h : Lead l n) : ∃ a, l[0]? = some a ∧ gRuns nums l = numC n ++ tolT nums a ++ gRuns nums (l.drop n) := by
  cases l with
  | nil => have := h.1; have := h.2.1; simp at this; omega
  | cons a r =>
    obtain ⟨m, h1, h2, h3, h4, h5⟩ := grp_step a r
    have hm : Lead (a :: r) m := ⟨h1, by simpa using h2, fun j hj => by rw [h4 j hj]; rfl, by rw [show (a :: r)[0]? = some a from rfl]; exact h5⟩
    obtain rfl := lead_one hm h
    refine ⟨a, rfl, ?_⟩
    unfold gRuns
    rw [h3]
    simp

set_option maxRecDepth 100000 in
set_option maxHeartbeats 8000000 in
theorem rtell_1 (nums : Bool) (ps : Row) (lv : Value) (w : World) (hok : ∀ x ∈ xs ps, OkT nums x) (hl : ps.length ≤ 65535) (hr : Rd w lv (vs ps)) (he : Els w ps) :
    Calls Try.prog 24 #[.int .i64 1, lv, .bool nums] w fun e w' => RetTell w.heap.size (gTell nums 1 (xs ps)) e w' ∧ Below w.heap.size w w' := by
  obtain ⟨ao, cap, rfl⟩ := rd_shape1 hr
  obtain ⟨n, hn⟩ : ∃ n, n = ps.length := ⟨_, rfl⟩
  rw [len_vs, ← hn] at hr ⊢
  rw [← hn] at hl
  have HR := Lib.hid hr
  have HE := Lib.hid he
  have HN := Lib.hid hn
  have HOK := Lib.hid hok
  have HT := Lib.hid (show gTell nums 1 (xs ps) = some (1 :: gKind nums 1 (xs ps)) from by
    unfold gTell
    rw [if_neg (by rw [len_xs, ← hn]; simp; omega)]
    rfl)
  have h1 : decide ((n : Int) > 65535) = false := decide_eq_false (by omega)
  have h2 : ¬ ((n : Int) > 65535) := by omega
  obtain ⟨W1, hW1⟩ : ∃ W1 : World, W1 = w.alloc (.cells #[.int .u8 1] 5) := ⟨_, rfl⟩
  have HB1 := Lib.hid (show Below w.heap.size w W1 from by rw [hW1]; exact below_alloc w _)
  have HO1 := Lib.hid (show OwnB w.heap.size W1 (.slice (some ⟨w.heap.size, 0, none⟩) 1 1) [1] from by rw [hW1]; exact World.ownsRow_lit w #[.int .u8 1] 1 (Nat.le_refl _) (by unfold maxLen; omega) rfl)
  have HR1 := Lib.hid (hr.kept HB1.out)
  have HE1 := Lib.hid (he.kept HB1.out)
  have HW1 := Lib.hid hW1
  clear hr he hn hok hW1
  go_enter Try.func24, Try.ntmps24
  go_wp2_with fail
  go_loopw [8, 9] (fun b i wr => ∃ q : Nat, q ≤ n ∧ i = .int .i64 (q : Int) ∧ OwnB w.heap.size wr b (1 :: gPlain nums ((xs ps).take q)) ∧ Below W1.heap.size W1 wr) (fun _ i _ => n - (intOf i).toNat)
  case atStart => exact ⟨0, Nat.zero_le _, rfl, by rw [← HW1.out]; exact HO1.out, by rw [← HW1.out]; exact Below.refl _ _⟩
  case round =>
    obtain ⟨q, hq, rfl, hown, hbel⟩ := hrel
    obtain ⟨ab, cb, rfl⟩ := hown.shape
    have HO := Lib.hid hown
    have HBL := Lib.hid hbel
    obtain ⟨m, hm⟩ : ∃ m, m = List.length (1 :: gPlain nums ((xs ps).take q)) := ⟨_, rfl⟩
    rw [← hm]
    have hml : m ≤ 6000000 := by
      rw [hm, List.length_cons]
      have := gPlain_len (nums := nums) (l := (xs ps).take q) (fun x hx => HOK.out x (List.mem_of_mem_take hx))
      rw [List.length_take] at this
      omega
    have HMM := Lib.hid hm
    clear hown hbel hm
    by_cases hlt : q < n
    · have hlti : (q : Int) < (n : Int) := by omega
      have hq0 : (0 : Int) ≤ (q : Int) := by omega
      obtain ⟨va, vc, x, hat, hel⟩ := row_at HE1.out (q := q) (by rw [← HN.out]; exact hlt)
      obtain ⟨b, off, rfl, hcell⟩ := (rdv_cells (HR1.out.kept HBL.out)).2 (by omega)
      have hx : wr.cell? ⟨b, off + q, none⟩ = some (.slice va (List.length x) vc) := hcell q _ hat
      have HP := Lib.hid (told_any nums (.slice ab m cb) (.slice va (List.length x) vc) (1 :: gPlain nums ((xs ps).take q)) x wr (by rw [HMM.out]; exact HO.out.rd) (hel.kept HBL.out) (by rw [← HMM.out]; omega) (HOK.out x (List.mem_of_getElem? (xs_at hat))))
      have HZ := Lib.hid (take_xs hat)
      clear hcell hel hat
      go_wp2_with fail
      refine HP.out.mono ?_
      rintro e w2 ⟨v2, rfl, hown2, hb2⟩
      have HO2 := Lib.hid (show OwnB w.heap.size w2 v2 (1 :: gPlain nums ((xs ps).take (q + 1))) by rw [HZ.out, gPlain_snoc]; exact own_mono hown2 (Nat.le_trans HB1.out.size HBL.out.size))
      have HB2 := Lib.hid (below_then HBL.out hb2)
      clear hown2 hb2 hx
      go_wp2_with fail
      go_roundw
      case rel => exact ⟨q + 1, by omega, by go_num, HO2.out, HB2.out⟩
      case measure => simp [intOf]; omega
    · have hqn : q = n := by omega
      subst hqn
      have hlti : ¬ (q : Int) < (q : Int) := by omega
      go_wp2_with fail
      go_ret2
      refine ⟨?_, HB1.out.trans (HBL.out.mono HB1.out.size)⟩
      rw [HT.out]
      refine ⟨_, rfl, ?_⟩
      have h := HO.out
      rw [← HMM.out, List.take_of_length_le (by rw [len_xs, ← HN.out]; exact Nat.le_refl _)] at h
      exact h

set_option maxRecDepth 100000 in
set_option maxHeartbeats 8000000 in
theorem rtell_2 (nums : Bool) (ps : Row) (lv : Value) (w : World) (hok : ∀ x ∈ xs ps, OkT nums x) (hl : ps.length ≤ 65535) (hr : Rd w lv (vs ps)) (he : Els w ps) :
    Calls Try.prog 24 #[.int .i64 2, lv, .bool nums] w fun e w' => RetTell w.heap.size (gTell nums 2 (xs ps)) e w' ∧ Below w.heap.size w w' := by
  obtain ⟨ao, cap, rfl⟩ := rd_shape1 hr
  obtain ⟨n, hn⟩ : ∃ n, n = ps.length := ⟨_, rfl⟩
  rw [len_vs, ← hn] at hr ⊢
  rw [← hn] at hl
  have HR := Lib.hid hr
  have HE := Lib.hid he
  have HN := Lib.hid hn
  have HOK := Lib.hid hok
  have HT := Lib.hid (show gTell nums 2 (xs ps) = some (2 :: gKind nums 2 (xs ps)) from by
    unfold gTell
    rw [if_neg (by rw [len_xs, ← hn]; simp; omega)]
    rfl)
  have h1 : decide ((n : Int) > 65535) = false := decide_eq_false (by omega)
  have h2 : ¬ ((n : Int) > 65535) := by omega
  obtain ⟨W1, hW1⟩ : ∃ W1 : World, W1 = w.alloc (.cells #[.int .u8 2] 5) := ⟨_, rfl⟩
  have HB1 := Lib.hid (show Below w.heap.size w W1 from by rw [hW1]; exact below_alloc w _)
  have HO1 := Lib.hid (show OwnB w.heap.size W1 (.slice (some ⟨w.heap.size, 0, none⟩) 1 1) [2] from by rw [hW1]; exact World.ownsRow_lit w #[.int .u8 2] 1 (Nat.le_refl _) (by unfold maxLen; omega) rfl)
  have HR1 := Lib.hid (hr.kept HB1.out)
  have HE1 := Lib.hid (he.kept HB1.out)
  have HW1 := Lib.hid hW1
  clear hr he hn hok hW1
  go_enter Try.func24, Try.ntmps24
  go_wp2_with fail
  go_loopw [8, 10] (fun b i wr => ∃ (q : Nat) (bs : List Nat), q ≤ n ∧ i = .int .i64 (q : Int) ∧ OwnB w.heap.size wr b bs ∧ bs.length ≤ 84 * q + 1 ∧ bs ++ gRuns nums ((xs ps).drop q) = 2 :: gRuns nums (xs ps) ∧ Below W1.heap.size W1 wr) (fun _ i _ => n - (intOf i).toNat)
  case atStart => exact ⟨0, [2], Nat.zero_le _, rfl, by rw [← HW1.out]; exact HO1.out, by decide, by rw [List.drop_zero]; rfl, by rw [← HW1.out]; exact Below.refl _ _⟩
  case round =>
    obtain ⟨q, bs, hq, rfl, hown, hbl, hbs, hbel⟩ := hrel
    obtain ⟨ab, cb, rfl⟩ := hown.shape
    obtain ⟨m, hm⟩ : ∃ m, m = bs.length := ⟨_, rfl⟩
    rw [← hm] at hown hbl ⊢
    have HO := Lib.hid hown
    have HBS := Lib.hid hbs
    have HMM := Lib.hid hm
    have HBL := Lib.hid hbel
    clear hown hbs hbel hm
    by_cases hlt : q < n
    · have hlti : (q : Int) < (n : Int) := by omega
      have hq0 : (0 : Int) ≤ (q : Int) := by omega
      obtain ⟨va, vc, x, hat, hel⟩ := row_at HE1.out (q := q) (by rw [← HN.out]; exact hlt)
      obtain ⟨b, off, rfl, hcell⟩ := (rdv_cells HR1.out).2 (by omega)
      have HXC := Lib.hid (show ∀ w', Below W1.heap.size W1 w' → w'.cell? ⟨b, off + q, none⟩ = some (.slice va (List.length x) vc) from fun w' h => ((h.cell (World.block_lt_of_cell? _ _ (hcell q _ hat))).trans (hcell q _ hat)))
      have HCELL := Lib.hid hcell
      have HX := Lib.hid hat
      have HXE := Lib.hid hel
      have HOX := Lib.hid (HOK.out x (List.mem_of_getElem? (xs_at hat)))
      clear hcell hel hat
      go_wp2_with fail
      obtain ⟨W2, hW2⟩ : ∃ W2 : World, W2 = wr := ⟨_, rfl⟩
      rw [← hW2] at HO HBL ⊢
      clear hW2
      go_loopw [11] (fun k wr => ∃ r : Nat, q ≤ r ∧ r ≤ n ∧ k = .int .i64 (r : Int) ∧ (∀ j, j < r - q → ((xs ps).drop q)[j]? = some x) ∧ Below W2.heap.size W2 wr) (fun k _ => n - (intOf k).toNat)
      case atStart => exact ⟨q, Nat.le_refl _, hq, rfl, (fun j hj => by omega), Below.refl _ _⟩
      case round =>
        obtain ⟨r, hqr, hrn, rfl, hall, hbel⟩ := hrel
        have HALL := Lib.hid hall
        have HBJ := Lib.hid hbel
        have HBW := Lib.hid (show Below W1.heap.size W1 wr from HBL.out.trans (hbel.mono HBL.out.size))
        have hcx := HXC.out wr HBW.out
        have hxw := HXE.out.kept HBW.out
        have h8x := HOX.out.1
        have hr0 : (0 : Int) ≤ (r : Int) := by omega
        clear hall hbel
        by_cases hrl : r < n
        · have hrli : (r : Int) < (n : Int) := by omega
          obtain ⟨ya, yc, y, hy, hye⟩ := row_at HE1.out (q := r) (by rw [← HN.out]; exact hrl)
          have hcy : wr.cell? ⟨b, off + r, none⟩ = some (.slice ya (List.length y) yc) := ((HBW.out.cell (World.block_lt_of_cell? _ _ (HCELL.out r _ hy))).trans (HCELL.out r _ hy))
          have h8y := (HOK.out y (List.mem_of_getElem? (xs_at hy))).1
          have hyw := hye.kept HBW.out
          have hcv := fun nq : Nat => run_str (P := Try.prog) (wr.drewN nq) 24 9 5 Try.underlying24 Try.underlying5 Try.underlying9 (hyw.kept (below_draws (Below.refl _ _) nq)) (lt256 _ h8y)
          have hcw := fun nq : Nat => run_str (P := Try.prog) (wr.drewN nq) 24 9 5 Try.underlying24 Try.underlying5 Try.underlying9 (hxw.kept (below_draws (Below.refl _ _) nq)) (lt256 _ h8x)
          have HAT := Lib.hid (xs_at hy)
          by_cases hyx : y = x
          · have HYX := Lib.hid hyx
            have hcm : ((strOf y).toList == (strOf x).toList) = true := by rw [hyx]; exact beq_self_eq_true _
            clear hy hye h8y hyw hxw h8x hyx
            go_wp2_with fail
            go_quiet (fail)
            go_wp2_with fail
            go_roundw
            case rel =>
              refine ⟨r + 1, by omega, by omega, by go_num, fun j hj => ?_, below_draws2 HBJ.out _⟩
              rcases Nat.lt_or_ge j (r - q) with h | h
              · exact HALL.out j h
              · rw [List.getElem?_drop, show q + j = r by omega, HAT.out, HYX.out]
            case measure => simp [intOf]; omega
          · have hcm := strOf_inj h8y h8x hyx
            have hqr2 : q < r := by
              rcases Nat.lt_or_ge q r with h | h
              · exact h
              · exfalso
                have e : r = q := by omega
                subst e
                have h2 := HAT.out
                rw [xs_at HX.out] at h2
                exact hyx (Option.some.inj h2).symm
            have HLD := Lib.hid (show Lead ((xs ps).drop q) (r - q) from ⟨by omega, by rw [List.length_drop, len_xs, ← HN.out]; omega, fun j hj => by rw [HALL.out j hj, HALL.out 0 (by omega)], by
              rw [List.getElem?_drop, show q + (r - q) = r by omega, HAT.out, HALL.out 0 (by omega)]
              exact fun e => hyx (Option.some.inj e)⟩)
            clear hy hye h8y hyw hxw h8x hyx
            obtain ⟨a, ha0, hra⟩ := gRuns_lead nums HLD.out
            obtain rfl : a = x := by
              rw [HALL.out 0 (by omega)] at ha0
              exact (Option.some.inj ha0).symm
            obtain ⟨R, hR⟩ : ∃ R, R = r - q := ⟨_, rfl⟩
            rw [← hR] at hra
            have HRA := Lib.hid hra
            have HRR := Lib.hid hR
            have hRw : IntKind.i64.wrap ((r : Int) - (q : Int)) = (R : Int) := by rw [IntWalk.i64_in _ (by omega)]; omega
            have hRw2 : (r : Int) - (q : Int) = (R : Int) := by omega
            have hRw4 : IntKind.i64.wrap (R : Int) = (R : Int) := IntWalk.i64_in _ (by omega)
            have hRw3 : IntKind.u64.wrap (R : Int) = (R : Int) := IntWalk.u64_in _ (by omega)
            have HNU := Lib.hid (show ∀ w', Below W2.heap.size W2 w' → Calls Try.prog 45 #[.slice ab m cb, .int .u64 (R : Int)] w' (RetOwn w'.heap.size 5 ((bs ++ numC R).map u8v) w') from fun w' h => refNum_any _ bs R w' (Rd.kept (show Rd W2 (.slice ab m cb) (bs.map u8v) from Rd.of_owns HO.out) h) (by rw [← HMM.out]; omega) (by omega))
            have hnl : (numC R).length ≤ 10 := (numF_len 9 R).1
            have htl := tol_len HOX.out
            clear ha0 hra hR
            obtain ⟨X, hX⟩ : ∃ X, X = List.length a := ⟨_, rfl⟩
            have HNU2 := Lib.hid (show ∀ w', Below W2.heap.size W2 w' → Calls Try.prog 45 #[.slice ab m cb, .int .u64 (R : Int)] w' (fun e w'' => ∃ v, e = .returned v ∧ OwnB W2.heap.size w'' v (bs ++ numC R) ∧ Below w'.heap.size w' w'') from fun w' h => (HNU.out w' h).mono (by
              rintro e w'' ⟨ao, cap, rfl, h1, h2⟩
              exact ⟨_, rfl, own_mono (OwnB.of h1) h.size, h2⟩))
            have HTO := Lib.hid (show ∀ v w', OwnB W2.heap.size w' v (bs ++ numC R) → Below W2.heap.size W2 w' → Calls Try.prog 44 #[v, .slice va X vc, .bool nums] w' (fun e w'' => ∃ v', e = .returned v' ∧ OwnB W2.heap.size w'' v' (bs ++ numC R ++ tolT nums a) ∧ Below w'.heap.size w' w'') from fun v w' hv h => by
              rw [hX]
              refine (told_any nums v _ (bs ++ numC R) a w' hv.rd (HXE.out.kept (HBL.out.trans (h.mono HBL.out.size))) (by rw [List.length_append, ← HMM.out]; omega) HOX.out).mono ?_
              rintro e w'' ⟨v', rfl, h1, h2⟩
              exact ⟨v', rfl, own_mono h1 h.size, h2⟩)
            have hcx2 : W2.cell? ⟨b, off + q, none⟩ = some (.slice va X vc) := by rw [hX]; exact HXC.out W2 HBL.out
            have HKP := Lib.hid fun w' (h : Below W2.heap.size W2 w') => (show w'.cell? ⟨b, off + q, none⟩ = some (.slice va X vc) ∧ Below W2.heap.size W2 w' from ⟨(h.cell (World.block_lt_of_cell? _ _ hcx2)).trans hcx2, h⟩)
            have HXX := Lib.hid hX
            clear hX hcx2
            go_upto_region 17 with (first | go_quiet (fail) | fail)
            clear hcx
            go_cut [8] (fun v wx => OwnB w.heap.size wx v (bs ++ numC R ++ tolT nums a) ∧ Below W2.heap.size W2 wx)
            case first =>
              have hS := below_draws2 HBJ.out nq
              obtain ⟨W9, hW9⟩ : ∃ W9, W9 = wr.drewN nq := ⟨_, rfl⟩
              rw [← hW9] at hS ⊢
              clear hW9
              set_option maxRecDepth 1000000 in
              go_region_held3 (fun w' => w'.cell? ⟨b, off + q, none⟩ = some (.slice va X vc) ∧ Below W2.heap.size W2 w') (first | assumption | exact HKP.out _ (by first | assumption | exact Below.trans (by assumption) (below_drw _ _)))
                (first
                  | (have hh := hownN; go_at_call 44; refine (HTO.out _ _ hownN (by first | assumption | exact Below.trans (by assumption) (below_drw _ _))).mono ?_; rintro e w5 ⟨v5, rfl, hown5, hb5⟩; have hS5 : Below W2.heap.size W2 w5 := below_then (by first | assumption | exact Below.trans (by assumption) (below_drw _ _)) hb5)
                  | (go_at_call 45; refine (HNU2.out _ (by first | assumption | exact Below.trans (by assumption) (below_drw _ _))).mono ?_; rintro e w4 ⟨v4, rfl, hownN, hb4⟩; have hS4 : Below W2.heap.size W2 w4 := below_then (by first | assumption | exact Below.trans (by assumption) (below_drw _ _)) hb4))
              all_goals
                go_wp2_with fail
                go_meet
                exact ⟨own_mono hown5 (Nat.le_trans HB1.out.size HBL.out.size), hS5⟩
            case rest =>
              obtain ⟨hown9, hb9⟩ := hcut
              have HO9 := Lib.hid hown9
              have HB9 := Lib.hid hb9
              clear hown9 hb9
              go_wp2_with fail
              go_roundw
              case rel =>
                refine ⟨r, bs ++ numC R ++ tolT nums a, by omega, rfl, HO9.out, ?_, ?_, HBL.out.trans (HB9.out.mono HBL.out.size)⟩
                · rw [List.length_append, List.length_append, ← HMM.out]; omega
                · have e := HRA.out
                  rw [List.drop_drop, show q + R = r by have := HRR.out; omega] at e
                  have e2 := HBS.out
                  rw [e] at e2
                  rw [← e2]
                  simp only [List.append_assoc]
              case measure => simp [intOf]; omega
        · have hrn2 : r = n := by omega
          have hrli : ¬ (r : Int) < (n : Int) := by omega
          have HLD := Lib.hid (show Lead ((xs ps).drop q) (r - q) from ⟨by omega, by rw [List.length_drop, len_xs, ← HN.out]; omega, fun j hj => by rw [HALL.out j hj, HALL.out 0 (by omega)], by
            rw [List.getElem?_drop, List.getElem?_eq_none (by rw [len_xs, ← HN.out]; omega), HALL.out 0 (by omega)]
            intro e; cases e⟩)
          have hqr2 : q < r := by omega
          clear hxw h8x hrn2
          obtain ⟨a, ha0, hra⟩ := gRuns_lead nums HLD.out
          obtain rfl : a = x := by
            rw [HALL.out 0 (by omega)] at ha0
            exact (Option.some.inj ha0).symm
          obtain ⟨R, hR⟩ : ∃ R, R = r - q := ⟨_, rfl⟩
          rw [← hR] at hra
          have HRA := Lib.hid hra
          have HRR := Lib.hid hR
          have hRw : IntKind.i64.wrap ((r : Int) - (q : Int)) = (R : Int) := by rw [IntWalk.i64_in _ (by omega)]; omega
          have hRw2 : (r : Int) - (q : Int) = (R : Int) := by omega
          have hRw4 : IntKind.i64.wrap (R : Int) = (R : Int) := IntWalk.i64_in _ (by omega)
          have hRw3 : IntKind.u64.wrap (R : Int) = (R : Int) := IntWalk.u64_in _ (by omega)
          have HNU := Lib.hid (show ∀ w', Below W2.heap.size W2 w' → Calls Try.prog 45 #[.slice ab m cb, .int .u64 (R : Int)] w' (RetOwn w'.heap.size 5 ((bs ++ numC R).map u8v) w') from fun w' h => refNum_any _ bs R w' (Rd.kept (show Rd W2 (.slice ab m cb) (bs.map u8v) from Rd.of_owns HO.out) h) (by rw [← HMM.out]; omega) (by omega))
          have hnl : (numC R).length ≤ 10 := (numF_len 9 R).1
          have htl := tol_len HOX.out
          clear ha0 hra hR
          obtain ⟨X, hX⟩ : ∃ X, X = List.length a := ⟨_, rfl⟩
          have HNU2 := Lib.hid (show ∀ w', Below W2.heap.size W2 w' → Calls Try.prog 45 #[.slice ab m cb, .int .u64 (R : Int)] w' (fun e w'' => ∃ v, e = .returned v ∧ OwnB W2.heap.size w'' v (bs ++ numC R) ∧ Below w'.heap.size w' w'') from fun w' h => (HNU.out w' h).mono (by
            rintro e w'' ⟨ao, cap, rfl, h1, h2⟩
            exact ⟨_, rfl, own_mono (OwnB.of h1) h.size, h2⟩))
          have HTO := Lib.hid (show ∀ v w', OwnB W2.heap.size w' v (bs ++ numC R) → Below W2.heap.size W2 w' → Calls Try.prog 44 #[v, .slice va X vc, .bool nums] w' (fun e w'' => ∃ v', e = .returned v' ∧ OwnB W2.heap.size w'' v' (bs ++ numC R ++ tolT nums a) ∧ Below w'.heap.size w' w'') from fun v w' hv h => by
            rw [hX]
            refine (told_any nums v _ (bs ++ numC R) a w' hv.rd (HXE.out.kept (HBL.out.trans (h.mono HBL.out.size))) (by rw [List.length_append, ← HMM.out]; omega) HOX.out).mono ?_
            rintro e w'' ⟨v', rfl, h1, h2⟩
            exact ⟨v', rfl, own_mono h1 h.size, h2⟩)
          have hcx2 : W2.cell? ⟨b, off + q, none⟩ = some (.slice va X vc) := by rw [hX]; exact HXC.out W2 HBL.out
          have HKP := Lib.hid fun w' (h : Below W2.heap.size W2 w') => (show w'.cell? ⟨b, off + q, none⟩ = some (.slice va X vc) ∧ Below W2.heap.size W2 w' from ⟨(h.cell (World.block_lt_of_cell? _ _ hcx2)).trans hcx2, h⟩)
          have HXX := Lib.hid hX
          clear hX hcx2
          go_upto_region 17 with (first | go_quiet (fail) | fail)
          clear hcx
          go_cut [8] (fun v wx => OwnB w.heap.size wx v (bs ++ numC R ++ tolT nums a) ∧ Below W2.heap.size W2 wx)
          case first =>
            have hS := below_draws2 HBJ.out nq
            obtain ⟨W9, hW9⟩ : ∃ W9, W9 = wr.drewN nq := ⟨_, rfl⟩
            rw [← hW9] at hS ⊢
            clear hW9
            set_option maxRecDepth 1000000 in
            go_region_held3 (fun w' => w'.cell? ⟨b, off + q, none⟩ = some (.slice va X vc) ∧ Below W2.heap.size W2 w') (first | assumption | exact HKP.out _ (by first | assumption | exact Below.trans (by assumption) (below_drw _ _)))
              (first
                | (have hh := hownN; go_at_call 44; refine (HTO.out _ _ hownN (by first | assumption | exact Below.trans (by assumption) (below_drw _ _))).mono ?_; rintro e w5 ⟨v5, rfl, hown5, hb5⟩; have hS5 : Below W2.heap.size W2 w5 := below_then (by first | assumption | exact Below.trans (by assumption) (below_drw _ _)) hb5)
                | (go_at_call 45; refine (HNU2.out _ (by first | assumption | exact Below.trans (by assumption) (below_drw _ _))).mono ?_; rintro e w4 ⟨v4, rfl, hownN, hb4⟩; have hS4 : Below W2.heap.size W2 w4 := below_then (by first | assumption | exact Below.trans (by assumption) (below_drw _ _)) hb4))
            all_goals
              go_wp2_with fail
              go_meet
              exact ⟨own_mono hown5 (Nat.le_trans HB1.out.size HBL.out.size), hS5⟩
          case rest =>
            obtain ⟨hown9, hb9⟩ := hcut
            have HO9 := Lib.hid hown9
            have HB9 := Lib.hid hb9
            clear hown9 hb9
            go_wp2_with fail
            go_roundw
            case rel =>
              refine ⟨r, bs ++ numC R ++ tolT nums a, by omega, rfl, HO9.out, ?_, ?_, HBL.out.trans (HB9.out.mono HBL.out.size)⟩
              · rw [List.length_append, List.length_append, ← HMM.out]; omega
              · have e := HRA.out
                rw [List.drop_drop, show q + R = r by have := HRR.out; omega] at e
                have e2 := HBS.out
                rw [e] at e2
                rw [← e2]
                simp only [List.append_assoc]
            case measure => simp [intOf]; omega
    · have hqn : q = n := by omega
      subst hqn
      have hlti : ¬ (q : Int) < (q : Int) := by omega
      have HBE := Lib.hid (show bs = 2 :: gRuns nums (xs ps) from by
        have h := HBS.out
        rw [List.drop_eq_nil_of_le (by rw [len_xs, ← HN.out]; exact Nat.le_refl _)] at h
        simpa [gRuns, grp] using h)
      go_wp2_with fail
      go_ret2
      refine ⟨?_, HB1.out.trans (HBL.out.mono HB1.out.size)⟩
      rw [HT.out]
      refine ⟨_, rfl, ?_⟩
      show OwnB _ _ _ (2 :: gRuns nums (xs ps))
      rw [← HBE.out]
      exact OwnB.of HO.out


end Go.Proofs.Ytjcmekhamohbnaa.Bc
