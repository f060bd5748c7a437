/-
  The walk of BitpOwn.
-/
import Derived.Test.YtdelcaijehcaeaaAwaka
import Derived.Test.YtdelcaijehcaeaaIsRow
import Derived.Test.YtdelcaijehcaeaaBitpm
import Derived.Test.YtdelcaijehcaeaaReader
import Derived.Test.YtdelcaijehcaeaaZig
import Derived.RegionTactic
import Derived.BigRegion
import Derived.Deep.RegionHeld3
import Derived.Deep.DeepCutAuto
namespace Go.Proofs.Ytdelcaijehcaeaa
set_option linter.unusedVariables false
open Go.RowKit

theorem owns_kept {B : Nat} {e : TypeId} {k : Nat} {v : Value} {n : Nat} {xs : List Value} {w w' : World} (h : w.ownsRow B e k v n xs) (hb : Below w.heap.size w w') : w'.ownsRow B e k v n xs := by
  obtain ⟨h1, h2 | ⟨g, cap, cur, h3, h4, h5, h6⟩⟩ := h
  · exact ⟨h1, .inl h2⟩
  · refine ⟨h1, .inr ⟨g, cap, cur, h3, h4, ?_, h6⟩⟩
    rw [hb.block g (Array.getElem?_eq_some_iff.1 h5).1]
    exact h5

theorem below_drw (B : Nat) (w : World) : Below B w w.drew := ⟨rfl, rfl, rfl, Nat.le_refl _, fun _ _ => rfl⟩

theorem own_base' {w : World} {B : Nat} {E : TypeId} {size n : Nat} {v : Value} {xs : List Value} (h : w.ownsRow B E size v n xs) : ∀ k, v.ownBlock = some k → B ≤ k := by
  intro k hk
  rcases h.2 with ⟨rfl, _⟩ | ⟨g, cap, cur, rfl, hbg, _⟩
  · cases hk
  · have h2 : g = k := by simpa [Value.ownBlock] using hk
    omega

theorem unpack_mod (n : Nat) (us : List Nat) (hn : n ≤ 64) (hl : us.length ≤ 65535) : unpackB (packB n us) (n : Int) (us.length : Int) = some (us.map (· % 2 ^ n)) := by
  unfold unpackB
  rw [heldN_id n hn, Int.toNat_natCast, if_pos ⟨by omega, by omega, packB_length n us, spare_pack n us⟩]
  congr 1
  apply List.ext_getElem? ; intro i
  rw [List.getElem?_map, List.getElem?_map]
  by_cases hi : i < us.length
  · rw [List.getElem?_range hi, List.getElem?_eq_getElem hi]
    simp only [Option.map_some]
    rw [numB_pack n us i hi, List.getD_eq_getElem?_getD, List.getElem?_eq_getElem hi]
    rfl
  · rw [List.getElem?_eq_none (by simp; omega), List.getElem?_eq_none (by omega)]
    rfl

theorem mask_mod (x N : Nat) (hx : x < 18446744073709551616) (hN : N ≤ 63) : bits .and .u64 (x : Int) (IntKind.u64.wrap (IntKind.u64.wrap (2 ^ N) - 1)) = ((x % 2 ^ N : Nat) : Int) := by
  have hp : 2 ^ N < 18446744073709551616 := Nat.lt_of_le_of_lt (Nat.pow_le_pow_right (by decide) hN) (by decide)
  have hq : 0 < 2 ^ N := Nat.pow_pos (by decide)
  have e1 : IntKind.u64.wrap ((2 : Int) ^ N) = ((2 ^ N : Nat) : Int) := by
    have := wrap_small (2 ^ N) hp
    simpa using this
  have e2 : ((2 ^ N : Nat) : Int) - 1 = ((2 ^ N - 1 : Nat) : Int) := by omega
  rw [e1, e2, wrap_small (2 ^ N - 1) (by omega), u64_and_nat _ _ hx (by omega), Nat.and_two_pow_sub_one_eq_mod]

theorem and63 (a : Int) : 0 ≤ bits .and .i64 a 63 ∧ bits .and .i64 a 63 ≤ 63 := by
  have h : bits .and .i64 a 63 = IntKind.i64.wrap ((BitVec.ofInt 64 a &&& BitVec.ofInt 64 63).toNat : Int) := rfl
  have h1 : (BitVec.ofInt 64 a &&& BitVec.ofInt 64 63).toNat ≤ 63 := by
    rw [BitVec.toNat_and]
    exact Nat.le_trans Nat.and_le_right (by decide)
  rw [h, IntWalk.i64_in _ (by omega)]
  omega

set_option maxRecDepth 100000 in
set_option maxHeartbeats 2000000 in
theorem walk_BitpOwn (a0 : Int) (a1 : Int) (a2 : Int) (a3 : Int) (w0 : (Lit.int .u64 a0).wf = true) (w1 : (Lit.int .u64 a1).wf = true) (w2 : (Lit.int .u64 a2).wf = true) (w3 : (Lit.int .i64 a3).wf = true) (w : World) :
    Calls Try.prog 5 #[.int .u64 a0, .int .u64 a1, .int .u64 a2, .int .i64 a3] w fun e w' => e = .returned (.bool true) ∧ Below w.heap.size w w' := by
  obtain ⟨p0, q0⟩ := wf_u64 w0
  obtain ⟨p1, q1⟩ := wf_u64 w1
  obtain ⟨p2, q2⟩ := wf_u64 w2
  clear w0 w1 w2 w3
  obtain ⟨a, rfl⟩ := Int.eq_ofNat_of_zero_le p0
  obtain ⟨b, rfl⟩ := Int.eq_ofNat_of_zero_le p1
  obtain ⟨c, rfl⟩ := Int.eq_ofNat_of_zero_le p2
  obtain ⟨i1, i2⟩ := and63 a3
  obtain ⟨N, hN⟩ : ∃ N : Nat, bits .and .i64 a3 63 = (N : Int) := ⟨(bits .and .i64 a3 63).toNat, by omega⟩
  have hN63 : N ≤ 63 := by omega
  have HU := Lib.hid (show ∀ x ∈ [a, b, c], x < 18446744073709551616 by intro x hx; simp at hx; omega)
  obtain ⟨bs, hbs⟩ : ∃ bs, packB (heldN (N : Int)) [a, b, c] = bs := ⟨_, rfl⟩
  have HBS := Lib.hid hbs
  clear i1 i2 p0 q0 p1 q1 p2 q2 hbs
  go_enter Try.func5, Try.ntmps5
  go_wp2_with fail
  have HL := Lib.hid (rd_lit w (#[.int .u64 (a : Int), .int .u64 (b : Int), .int .u64 (c : Int), .int .u64 7]) 22 4 ([a, b, c, 7].map u64v) rfl rfl (by decide))
  have HB0 := Lib.hid (below_alloc w (.cells #[.int .u64 (a : Int), .int .u64 (b : Int), .int .u64 (c : Int), .int .u64 7] 22))
  have HL3 := Lib.hid (rd_take (m := 3) HL.out (by decide))
  obtain ⟨W0, hW0⟩ : ∃ W0 : World, W0 = w.alloc (.cells #[.int .u64 (a : Int), .int .u64 (b : Int), .int .u64 (c : Int), .int .u64 7] 22) := ⟨_, rfl⟩
  rw [← hW0] at HL HB0 HL3 ⊢
  clear hW0
  have HL' : Hid (Rd W0 (Value.slice (some { block := w.heap.size, off := 0 }) 3 4) ([a, b, c].map u64v)) := Lib.hid HL3.out
  clear HL3
  have hS := Below.refl W0.heap.size W0
  go_region_held3 (fun w' => Below W0.heap.size W0 w') (first | assumption | exact below_lay (by assumption) _ | exact (below_lay (by assumption) _).trans (below_drw _ _) | exact Below.trans (by assumption) (below_drw _ _) | (refine below_then ?_ ?_; rotate_left; assumption; assumption))
    (first
      | (go_at_call_of 17 (Value.slice (some { block := W0.heap.size, off := 0 }) 3 3); refine (pack_lit ((rd_lit W0 _ _ 3 ([a, b, c].map u64v) rfl rfl (by decide)).kept (below_drw _ _)) HU.out (by simp) HBS.out).mono ?_; rintro e w2 ⟨ao, cap, rfl, hown, hb⟩; have hS2 := below_then ((below_lay (Below.refl W0.heap.size W0) _).trans (below_drw _ _)) hb)
      | (go_at_call_of 17 (Value.slice (some { block := w.heap.size, off := 0 }) 3 4); refine (pack_lit (HL'.out.kept (by assumption)) HU.out (by simp) HBS.out).mono ?_; rintro e w3 ⟨ao2, cap2, rfl, hown2, hb2⟩; have hS3 : Below W0.heap.size W0 w3 := below_then (by assumption) hb2))
  have HX := Lib.hid (rd_own_map hown)
  have HX3 := Lib.hid (HX.out.kept hb2)
  have hown3 : w3.ownsRow w2.heap.size 5 1 (.slice ao2 bs.length cap2) bs.length (bs.map u8v) := by simpa only [List.length_map] using hown2
  have HY := Lib.hid hown3
  have HL2 := Lib.hid (HL.out.kept hS2)
  have HB2 := Lib.hid (below_then HB0.out hS2)
  have HB23 := Lib.hid hb2
  have HMB := Lib.hid (show ∀ x ∈ bs, x < 256 by rw [← HBS.out]; exact packB_mem _ _)
  have HLN := Lib.hid (show bs.length = (N * 3 + 7) / 8 by rw [← HBS.out, heldN_id N (by omega), packB_length]; rfl)
  have hln : bs.length ≤ 24 := by have := HLN.out; omega
  have hcx := run_str (P := Try.prog) w3 27 9 5 Try.underlying27 Try.underlying5 Try.underlying9 HX3.out (lt256 _ HMB.out)
  have hcy := run_str (P := Try.prog) w3 27 9 5 Try.underlying27 Try.underlying5 Try.underlying9 (rd_own_map hown2) (lt256 _ HMB.out)
  clear hown hown2 hown3 hb hb2 hS hS2 hS3 HL HL' HB0 HX3
  go_wp2_with fail
  clear hcx hcy
  obtain ⟨L, hL⟩ : ∃ L, L = bs.length := ⟨_, rfl⟩
  rw [← hL] at HX HY HLN hln ⊢
  have HLE := Lib.hid hL
  clear hL
  go_loopw [43] (fun i wr => ∃ k : Nat, ∃ ys : List Nat, k ≤ L ∧ ys.length = L ∧ i = .int .i64 (k : Int) ∧ wr.ownsRow w2.heap.size 5 1 (.slice ao2 L cap2) L (ys.map u8v) ∧ Below w2.heap.size w2 wr) (fun i _ => L - (intOf i).toNat)
  case atStart => exact ⟨0, bs, Nat.zero_le _, HLE.out.symm, rfl, HY.out, HB23.out⟩
  case round =>
    obtain ⟨k, ys, hk, hyl, rfl, hown, hbel⟩ := hrel
    have HO := Lib.hid hown
    have HB := Lib.hid hbel
    have HYL := Lib.hid hyl
    clear hyl hown hbel HY HB23
    by_cases hlt : k < L
    · obtain ⟨g, hg⟩ : ∃ g, ao2 = some ⟨g, 0, none⟩ := by
        rcases HO.out.2 with ⟨_, h0⟩ | ⟨g, cap', cur, hv, _⟩
        · omega
        · simp only [Value.slice.injEq] at hv
          exact ⟨g, hv.1⟩
      subst hg
      have hx := HO.out.cellAt k (by omega)
      have hfz := HO.out.frozenAt k
      have HG := Lib.hid (own_base' HO.out g rfl)
      obtain ⟨x, hxe⟩ : ∃ x, ys[k]? = some x := ⟨_, List.getElem?_eq_getElem (by rw [HYL.out]; exact hlt)⟩
      have hx' : wr.cell? ⟨g, k, none⟩ = some (.int .u8 x) := by
        rw [hx, List.getElem?_map, hxe]; rfl
      have HXE := Lib.hid hxe
      clear hx hxe
      go_wp2_with fail
      go_roundw
      case rel =>
        have hv : ((x : Int) + 1) % 256 = (((x + 1) % 256 : Nat) : Int) := by simp
        have hs := (HO.out.stored k (u8v ((x + 1) % 256))).1
        rw [← List.map_set] at hs
        rw [hv]
        exact ⟨k + 1, ys.set k ((x + 1) % 256), by omega, by rw [List.length_set]; exact HYL.out, by go_num, hs, HB.out.setCell HG.out _⟩
      case measure => simp [intOf]; omega
    · have hkl : k = L := by omega
      subst hkl
      obtain ⟨i0, hi, hz0, hz1, hz2⟩ := info_parts info8
      have HOA := Lib.hid (fun o => HO.out.alloc o)
      have hsz := Lib.hid (show w2.heap.size ≤ (wr.alloc (.cells #[.int .u8 1] 5)).heap.size by simp; have := HB.out.size; omega)
      have H2 := Lib.hid (one_cell wr (u8v 1) 5)
      have H3 := Lib.hid (ones_u8 [1])
      go_wp2_with (at_builtin; go_must (refine wpList_append_own _ rfl _ _ 27 rfl w2.heap.size 5 i0 (.int .u8 0) 1 1 Try.underlying27 hi hz0 hz1 hz2 rfl (by decide) _ _ _ rfl (HOA.out _) ⟨wr.heap.size, 0, none⟩ 1 1 [u8v 1] rfl rfl H2.out H3.out (by unfold maxLen; omega) (by omega) hsz.out ?_); intro v' w5 hown' hgrow _; have HB5 := Lib.hid ((HB.out.alloc HB.out.size _).grown hgrow hsz.out (own_base' HO.out)); clear hgrow hown')
      have HX5 := Lib.hid (HX.out.kept HB5.out)
      have HUP := Lib.hid (show unpackB bs (N : Int) 3 = some ([a, b, c].map (· % 2 ^ N)) by
        rw [← HBS.out, heldN_id N (by omega)]; exact unpack_mod N [a, b, c] (by omega) (by simp))
      have HML := Lib.hid (show bs.length ≤ 17592186044416 by rw [← HLE.out]; omega)
      clear HX HOA H2 H3 hsz HO HYL HB
      rw [HLE.out] at HX5 ⊢
      go_wp2_with fail
      refine (unpack_lit HX5.out HMB.out HML.out (by decide) HUP.out).mono ?_
      rintro e w6 ⟨ao6, cap6, rfl, hown, hb⟩
      have hV : w6.ownsRow w5.heap.size 22 1 (.slice ao6 3 cap6) 3 ([a % 2 ^ N, b % 2 ^ N, c % 2 ^ N].map u64v) := hown
      have HV := Lib.hid hV
      have HB6 := Lib.hid hb
      have HL5 := Lib.hid (HL2.out.kept HB5.out)
      have HBB5 := Lib.hid (below_then HB2.out HB5.out)
      clear hown hV hb HL2 HB2 HB5
      go_wp2_with fail
      go_loopw [65] (fun i wy => ∃ j : Nat, ∃ ys : List Nat, j ≤ 3 ∧ ys.length = 3 ∧ i = .int .i64 (j : Int) ∧ wy.ownsRow w5.heap.size 22 1 (.slice ao6 3 cap6) 3 (ys.map u64v) ∧ Below w5.heap.size w5 wy) (fun i _ => 3 - (intOf i).toNat)
      case atStart => exact ⟨0, _, Nat.zero_le _, rfl, rfl, HV.out, HB6.out⟩
      case round =>
        obtain ⟨wy, rfl⟩ : ∃ wy : World, wy = wr := ⟨_, rfl⟩
        obtain ⟨j, zs, hj, hzl, rfl, hown, hbel⟩ := hrel
        have HO := Lib.hid hown
        have HB := Lib.hid hbel
        have HZL := Lib.hid hzl
        clear hzl hown hbel HV HB6
        by_cases hj3 : j < 3
        · obtain ⟨g, hg⟩ : ∃ g, ao6 = some ⟨g, 0, none⟩ := by
            rcases HO.out.2 with ⟨_, h0⟩ | ⟨g, cap', cur, hv, _⟩
            · omega
            · simp only [Value.slice.injEq] at hv
              exact ⟨g, hv.1⟩
          subst hg
          have hx := HO.out.cellAt j (by omega)
          have hfz := HO.out.frozenAt j
          have HG := Lib.hid (own_base' HO.out g rfl)
          obtain ⟨x, hxe⟩ : ∃ x, zs[j]? = some x := ⟨_, List.getElem?_eq_getElem (by rw [HZL.out]; exact hj3)⟩
          have hx' : wy.cell? ⟨g, j, none⟩ = some (.int .u64 x) := by
            rw [hx, List.getElem?_map, hxe]; rfl
          have HXE := Lib.hid hxe
          clear hx hxe
          go_wp2_with fail
          go_roundw
          case rel =>
            have hv : IntKind.u64.wrap ((x : Int) + 1) = (((x + 1) % 18446744073709551616 : Nat) : Int) := by simp [IntKind.wrap, IntKind.bits, IntKind.signed]
            have hs := (HO.out.stored j (u64v ((x + 1) % 18446744073709551616))).1
            rw [← List.map_set] at hs
            rw [hv]
            exact ⟨j + 1, zs.set j ((x + 1) % 18446744073709551616), by omega, by rw [List.length_set]; exact HZL.out, by go_num, hs, HB.out.setCell HG.out _⟩
          case measure => simp [intOf]; omega
        · have hje : j = 3 := by omega
          subst hje
          have HX7 := Lib.hid (HX5.out.kept HB.out)
          have HL7 := Lib.hid (HL5.out.kept HB.out)
          have HB7 := Lib.hid (below_then HBB5.out HB.out)
          clear HX5 HL5 HBB5 HB HO HZL
          go_wp2_with fail
          refine (unpack_lit HX7.out HMB.out HML.out (by decide) HUP.out).mono ?_
          rintro e w8 ⟨ao8, cap8, rfl, hown, hb⟩
          have HV8 := Lib.hid (rd_own_map hown)
          have HL8 := Lib.hid (HL7.out.kept hb)
          have HB8 := Lib.hid (below_then HB7.out hb)
          clear hown hb HX7 HL7 HB7
          go_wp2_with fail
          have ha := HU.out a (by simp)
          have hb := HU.out b (by simp)
          have hc := HU.out c (by simp)
          rw [mask_mod a N ha hN63, mask_mod b N hb hN63, mask_mod c N hc hN63]
          clear ha hb hc
          have HSM := Lib.hid (show ([a, b, c].map (· % 2 ^ N) == [a % 2 ^ N, b % 2 ^ N, c % 2 ^ N]) = true by simp)
          refine (same_lit (HV8.out.kept (below_alloc w8 _)) (rd_lit w8 _ _ 3 ([a % 2 ^ N, b % 2 ^ N, c % 2 ^ N].map u64v) rfl rfl (by decide)) (by simp) HSM.out).mono ?_
          rintro e w9 ⟨rfl, hb⟩
          have hb' := below_then (below_alloc w8 _) hb
          have HB9 := Lib.hid (below_then HB8.out hb')
          obtain ⟨bb, off, hbo, hcell⟩ := (rd64_cells (HL8.out.kept hb')).2 (by decide)
          simp only [Option.some.injEq, Addr.mk.injEq] at hbo
          obtain ⟨hb1, hb2, _⟩ := hbo
          rw [← hb1, ← hb2] at hcell
          have c0 : w9.cell? ⟨w.heap.size, 0, none⟩ = some (.int .u64 a) := hcell 0 (by decide)
          have c1 : w9.cell? ⟨w.heap.size, 1, none⟩ = some (.int .u64 b) := hcell 1 (by decide)
          have c2 : w9.cell? ⟨w.heap.size, 2, none⟩ = some (.int .u64 c) := hcell 2 (by decide)
          have c3 : w9.cell? ⟨w.heap.size, 3, none⟩ = some (.int .u64 7) := hcell 3 (by decide)
          clear hb hb' hcell hb1 hb2 HV8 HL8 HB8
          go_wp2_with fail
          refine (awake1_any _).mono ?_
          rintro e w10 ⟨rfl, hb⟩
          have HB10 := Lib.hid (below_then HB9.out hb)
          clear hb HB9
          go_wp2_with fail
          go_ret
          exact ⟨rfl, HB10.out⟩

end Go.Proofs.Ytdelcaijehcaeaa
