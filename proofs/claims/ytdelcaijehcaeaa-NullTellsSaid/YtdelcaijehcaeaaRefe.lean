/-
  Contracts of the reference's Num and Count.
-/
import Derived.Test.YtdelcaijehcaeaaTells
import Derived.Test.YtdelcaijehcaeaaNulld
namespace Go.Proofs.Ytdelcaijehcaeaa
set_option linter.unusedVariables false
open Go.RowKit

theorem or_high64 (U : Nat) (h : U < 18446744073709551616) : bits .or .u64 (bits .and .u64 (U : Int) 127) 128 % 256 = ((U % 128 + 128 : Nat) : Int) := by
  have e1 : (127 : Int) = ((127 : Nat) : Int) := rfl
  have e2 : (128 : Int) = ((128 : Nat) : Int) := rfl
  have h1 : U % 128 < 128 := Nat.mod_lt _ (by decide)
  have h5 : 128 ||| U % 128 = 128 + U % 128 := nat_join 7 128 (U % 128) (by decide) (by simpa using h1)
  rw [e1, u64_and_nat _ _ h (by decide), nat_mask7, e2, u64_or_nat _ _ (by omega) (by decide), Nat.or_comm, h5]
  omega

set_option maxRecDepth 100000 in
set_option maxHeartbeats 400000 in
theorem refNum_any (v : Value) (bs : List Nat) (u : Nat) (w : World) (hr : Rd w v (bs.map u8v)) (hbig : bs.length ≤ 70368744177664) (hu : u < 18446744073709551616) :
    Calls Try.prog 70 #[v, .int .u64 u] w (RetOwn w.heap.size 5 ((bs ++ numC u).map u8v) w) := by
  have HR := Lib.hid hr
  have HU := Lib.hid hu
  clear hr hu
  obtain ⟨i0, hi, hz0, hz1, hz2⟩ := info_parts info8
  go_enter Try.func70, Try.ntmps70
  have HOE := Lib.hid (own_empty w w.heap.size 5 (Nat.le_refl _))
  have HBA := Lib.hid (below_alloc w (.cells #[] 5))
  have HRA := Lib.hid (HR.out.kept HBA.out)
  have H1 := Lib.hid (show (bs.map u8v).length = bs.length by rw [List.length_map])
  have H3 := Lib.hid (ones_u8 bs)
  have hs1 := Lib.hid HBA.out.size
  go_wp2_with (at_builtin; go_must (refine wpList_append_rd rfl _ _ 27 rfl w.heap.size 5 i0 (.int .u8 0) 1 Try.underlying27 hi hz0 hz1 hz2 rfl _ _ _ rfl HOE.out _ (bs.map u8v) rfl HRA.out H3.out (by rw [H1.out]; unfold maxLen; omega) (by rw [H1.out]; omega) hs1.out ?_); intro v' w1 hown' hgrow; rw [H1.out, Nat.zero_add, List.nil_append] at hown'; have HB1 := Lib.hid (below_own HBA.out HOE.out hgrow); have HO1 := Lib.hid hown'; clear hown' hgrow)
  go_loopw [1, 5] (fun uu vb wr => ∃ U f : Nat, ∃ front : List Nat, f ≤ 9 ∧ U < 128 ^ (f + 1) ∧ U < 18446744073709551616 ∧ uu = .int .u64 (U : Int) ∧ front ++ numF f U = numC u ∧ front.length + f = 9 ∧ wr.ownsRow w.heap.size 5 1 vb (bs.length + front.length) ((bs ++ front).map u8v) ∧ Below w.heap.size w wr) (fun uu _ _ => (intOf uu).toNat)
  case atStart =>
    refine ⟨u, 9, [], Nat.le_refl _, ?_, HU.out, rfl, rfl, rfl, ?_, HB1.out⟩
    · exact Nat.lt_of_lt_of_le HU.out (by decide)
    · have := HO1.out; simpa using this
  case round =>
    obtain ⟨U, f, front, hf, hUf, hU, rfl, hfr, hfl, hown, hbel⟩ := hrel
    obtain ⟨ao2, cap2, hv⟩ := owns_shape hown
    subst hv
    have HO := Lib.hid hown
    have HB := Lib.hid hbel
    have HFR := Lib.hid hfr
    have HUF := Lib.hid hUf
    have HFL := Lib.hid hfl
    have HU64 := Lib.hid hU
    have HOA := Lib.hid (fun o => hown.alloc o)
    clear hown hbel hfr hUf hfl HO1 HB1 hU
    have hfl2 : front.length ≤ 9 := by have := HFL.out; omega
    by_cases hge : 128 ≤ U
    · obtain ⟨x, hx⟩ : ∃ x, x = U % 128 + 128 := ⟨_, rfl⟩
      have hor := or_high64 U HU64.out
      rw [← hx] at hor
      have HX := Lib.hid hx
      have H2 := Lib.hid (one_cell wr (u8v x) 5)
      have H3 := Lib.hid (ones_u8 [x])
      have hf1 : 1 ≤ f := by
        rcases Nat.eq_zero_or_pos f with h | h
        · have := HUF.out; rw [h] at this; simp at this; omega
        · exact h
      have hsz := Lib.hid (show w.heap.size ≤ (wr.alloc (.cells #[u8v x] 5)).heap.size by simp; have := HB.out.size; omega)
      clear hx
      go_wp2_with (at_builtin; go_must (refine wpList_append_own _ rfl _ _ 27 rfl w.heap.size 5 i0 (.int .u8 0) 1 1 Try.underlying27 hi hz0 hz1 hz2 rfl (by decide) _ _ _ rfl (HOA.out _) ⟨wr.heap.size, 0, none⟩ 1 1 [u8v x] rfl rfl H2.out H3.out (by unfold maxLen; omega) (by omega) hsz.out ?_); intro v' w3 hown' hgrow _)
      have HO' := Lib.hid hown'
      have HG' := Lib.hid hgrow
      clear hown' hgrow
      go_wp2
      go_roundw
      case rel =>
        obtain ⟨g, rfl⟩ : ∃ g, f = g + 1 := ⟨f - 1, by omega⟩
        have hnb := numF_big g U (by omega)
        refine ⟨U / 128, g, front ++ [x], by omega, ?_, by have := HU64.out; omega, by go_num, ?_, by have := HFL.out; simp; omega, ?_, ?_⟩
        · have := HUF.out; rw [Nat.pow_succ] at this; omega
        · rw [List.append_assoc, List.singleton_append, HX.out, ← hnb]; exact HFR.out
        · have := HO'.out
          rw [← List.append_assoc, List.map_append, List.length_append, List.length_singleton, ← Nat.add_assoc]
          exact this
        · exact (HB.out.alloc HB.out.size _).grown HG'.out hsz.out (by
            intro k hk
            have := HO.out
            rcases this.2 with ⟨h, _⟩ | ⟨g', cap', cur, h, hbg, _⟩
            · rw [h] at hk; cases hk
            · rw [h] at hk; cases hk; exact hbg)
      case measure => simp [intOf]; omega
    · have hm : (U : Int) % 256 = (U : Int) := by omega
      have H2 := Lib.hid (one_cell wr (u8v U) 5)
      have H3 := Lib.hid (ones_u8 [U])
      have hsz := Lib.hid (show w.heap.size ≤ (wr.alloc (.cells #[u8v U] 5)).heap.size by simp; have := HB.out.size; omega)
      go_wp2_with (at_builtin; go_must (refine wpList_append_own _ rfl _ _ 27 rfl w.heap.size 5 i0 (.int .u8 0) 1 1 Try.underlying27 hi hz0 hz1 hz2 rfl (by decide) _ _ _ rfl (HOA.out _) ⟨wr.heap.size, 0, none⟩ 1 1 [u8v U] rfl rfl H2.out H3.out (by unfold maxLen; omega) (by omega) hsz.out ?_); intro v' w3 hown' hgrow _)
      have HO' := Lib.hid hown'
      have HG' := Lib.hid hgrow
      clear hown' hgrow
      go_wp2
      go_ret
      have hfin : front ++ [U] = numC u := by have := HFR.out; rwa [numF_small f U (by omega)] at this
      have hown2 : w3.ownsRow w.heap.size 5 1 v' ((bs ++ numC u).map u8v).length ((bs ++ numC u).map u8v) := by
        have := HO'.out
        rw [← hfin, ← List.append_assoc, List.map_append, List.length_append, List.length_map, List.length_append, List.length_map, List.length_singleton]
        exact this
      have hbl : Below w.heap.size w w3 := (HB.out.alloc HB.out.size _).grown HG'.out hsz.out (by
            intro k hk
            have := HO.out
            rcases this.2 with ⟨h, _⟩ | ⟨g', cap', cur, h, hbg, _⟩
            · rw [h] at hk; cases hk
            · rw [h] at hk; cases hk; exact hbg)
      obtain ⟨ao', cap', hv⟩ := owns_shape hown2
      refine ⟨ao', cap', ?_, ?_, hbl⟩
      · show Ending.returned v' = _
        rw [hv]
      · rw [← hv]; exact hown2

set_option maxHeartbeats 1000000 in
theorem refCount_any (v : Value) (bs : List Bool) (w : World) (hr : Rd w v (bs.map boolv)) (hbig : bs.length ≤ 17592186044416) :
    Calls Try.prog 47 #[v] w fun e w' => e = .returned (.int .i64 (countB bs : Nat)) ∧ w = w' := by
  have hr2 := hr
  obtain ⟨ao, cap, hv, hcap, _⟩ := hr2
  rw [List.length_map] at hv
  subst hv
  obtain ⟨len, hlen⟩ : ∃ len, len = bs.length := ⟨_, rfl⟩
  rw [← hlen] at hr hbig ⊢
  have HL := Lib.hid hlen
  have HC := Lib.hid (rdb_cells hr).2
  clear hr hcap hlen
  go_enter Try.func47, Try.ntmps47
  go_wp2_with fail
  go_loop [3, 4] (fun n i => ∃ k : Nat, k ≤ len ∧ i = .int .i64 (k : Int) ∧ n = .int .i64 (countB (bs.take k) : Nat)) (fun _ i => len - (intOf i).toNat)
  case atStart => exact ⟨0, Nat.zero_le _, rfl, rfl⟩
  case round =>
    obtain ⟨k, hk, rfl, rfl⟩ := hrel
    obtain ⟨c, hc⟩ : ∃ c, c = countB (bs.take k) := ⟨_, rfl⟩
    have hcl : c ≤ len := by rw [hc, HL.out]; have := countB_le (bs.take k); rw [List.length_take] at this; omega
    rw [← hc]
    have HCC := Lib.hid hc
    clear hc
    by_cases hlt : k < len
    · obtain ⟨b, off, rfl, hcell⟩ := HC.out (by omega)
      have hx := hcell k hlt
      obtain ⟨x, hxe⟩ : ∃ x, x = bs.getD k false := ⟨_, rfl⟩
      rw [← hxe] at hx
      have hget : bs[k]? = some x := by
        rw [hxe, List.getD_eq_getElem?_getD, List.getElem?_eq_getElem (by rw [← HL.out]; exact hlt)]; rfl
      have HT := Lib.hid (countB_take bs k x hget)
      clear hxe hcell hget HC
      cases x
      · go_wp2_with fail
        go_round
        case rel => exact ⟨k + 1, by omega, by go_num, by rw [HT.out, HCC.out]; rfl⟩
        case measure => simp [intOf]; omega
      · go_wp2_with fail
        go_round
        case rel => exact ⟨k + 1, by omega, by go_num, by rw [HT.out, ← HCC.out]; simp⟩
        case measure => simp [intOf]; omega
    · obtain rfl : k = len := by omega
      go_wp2_with fail
      go_ret
      rw [HCC.out, HL.out, List.take_length]
      exact ⟨rfl, rfl⟩

end Go.Proofs.Ytdelcaijehcaeaa
