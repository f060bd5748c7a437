/-
  Contract of code.Num.
-/
import Derived.Test.YteloepccjoikdaaClone
import Derived.Test.YteloepccjoikdaaCodem
namespace Go.Proofs.Yteloepccjoikdaa
set_option linter.unusedVariables false
open Go.RowKit

theorem one_cell (w : World) (x : Value) (E : TypeId) : ∀ j u, [x][j]? = some u → (w.alloc (.cells #[x] E)).cell? ((⟨w.heap.size, 0, none⟩ : Addr).add j) = some u := cell_one_new _ _ _

set_option maxRecDepth 100000 in
set_option maxHeartbeats 400000 in
theorem num_any (v : Value) (bs : List Nat) (u : Nat) (w : World) (hr : Rd w v (bs.map u8v)) (hbig : bs.length ≤ 70368744177664) (hu : u < 18446744073709551616) :
    Calls Try.prog 107 #[v, .int .u64 u] w (RetOwn w.heap.size 5 ((bs ++ numC u).map u8v) w) := by
  have HR := Lib.hid hr
  have HU := Lib.hid hu
  clear hr hu
  obtain ⟨i0, hi, hz0, hz1, hz2⟩ := info_parts info8
  go_enter Try.func107, Try.ntmps107
  go_wp2_with fail
  refine (sclone_any v bs w HR.out (by omega)).mono ?_
  rintro e w1 ⟨ao, cap, rfl, hown, hb⟩
  have HO1 := Lib.hid hown
  have HB1 := Lib.hid hb
  clear hown hb
  go_wp2_with fail
  go_loopw [0, 1] (fun vb uu wr => ∃ U f : Nat, ∃ front : List Nat, f ≤ 9 ∧ U < 128 ^ (f + 1) ∧ U < 18446744073709551616 ∧ uu = .int .u64 (U : Int) ∧ front ++ numF f U = numC u ∧ front.length + f = 9 ∧ wr.ownsRow w.heap.size 5 1 vb (bs.length + front.length) ((bs ++ front).map u8v) ∧ Below w.heap.size w wr) (fun _ uu _ => (intOf uu).toNat)
  case atStart =>
    refine ⟨u, 9, [], Nat.le_refl _, ?_, HU.out, rfl, rfl, rfl, ?_, HB1.out⟩
    · exact Nat.lt_of_lt_of_le HU.out (by decide)
    · have := HO1.out; simpa using this
  case round =>
    obtain ⟨U, f, front, hf, hUf, hU, rfl, hfr, hfl, hown, hbel⟩ := hrel
    obtain ⟨ao2, cap2, hv⟩ := owns_shape hown
    subst hv
    have HO := Lib.hid hown
    have HB := Lib.hid hbel
    have HFR := Lib.hid hfr
    have HUF := Lib.hid hUf
    have HFL := Lib.hid hfl
    have HU64 := Lib.hid hU
    have HOA := Lib.hid (fun o => hown.alloc o)
    clear hown hbel hfr hUf hfl HO1 HB1 hU
    have hfl2 : front.length ≤ 9 := by have := HFL.out; omega
    by_cases hge : 128 ≤ U
    · obtain ⟨x, hx⟩ : ∃ x, x = U % 128 + 128 := ⟨_, rfl⟩
      have hor := or_high U
      rw [← hx] at hor
      have HX := Lib.hid hx
      have H2 := Lib.hid (one_cell wr (u8v x) 5)
      have H3 := Lib.hid (ones_u8 [x])
      have hf1 : 1 ≤ f := by
        rcases Nat.eq_zero_or_pos f with h | h
        · have := HUF.out; rw [h] at this; simp at this; omega
        · exact h
      have hsz := Lib.hid (show w.heap.size ≤ (wr.alloc (.cells #[u8v x] 5)).heap.size by simp; have := HB.out.size; omega)
      clear hx
      go_wp2_with (at_builtin; go_must (refine wpList_append_own _ rfl _ _ 38 rfl w.heap.size 5 i0 (.int .u8 0) 1 1 Try.underlying38 hi hz0 hz1 hz2 rfl (by decide) _ _ _ rfl (HOA.out _) ⟨wr.heap.size, 0, none⟩ 1 1 [u8v x] rfl rfl H2.out H3.out (by unfold maxLen; omega) (by omega) hsz.out ?_); intro v' w3 hown' hgrow _)
      have HO' := Lib.hid hown'
      have HG' := Lib.hid hgrow
      clear hown' hgrow
      go_wp2
      go_roundw
      case rel =>
        obtain ⟨g, rfl⟩ : ∃ g, f = g + 1 := ⟨f - 1, by omega⟩
        have hnb := numF_big g U (by omega)
        refine ⟨U / 128, g, front ++ [x], by omega, ?_, by have := HU64.out; omega, by go_num, ?_, by have := HFL.out; simp; omega, ?_, ?_⟩
        · have := HUF.out; rw [Nat.pow_succ] at this; omega
        · rw [List.append_assoc, List.singleton_append, HX.out, ← hnb]; exact HFR.out
        · have := HO'.out
          rw [← List.append_assoc, List.map_append, List.length_append, List.length_singleton, ← Nat.add_assoc]
          exact this
        · exact (HB.out.alloc HB.out.size _).grown HG'.out hsz.out (by
            intro k hk
            have := HO.out
            rcases this.2 with ⟨h, _⟩ | ⟨g', cap', cur, h, hbg, _⟩
            · rw [h] at hk; cases hk
            · rw [h] at hk; cases hk; exact hbg)
      case measure => simp [intOf]; omega
    · have hm : (U : Int) % 256 = (U : Int) := by omega
      have H2 := Lib.hid (one_cell wr (u8v U) 5)
      have H3 := Lib.hid (ones_u8 [U])
      have hsz := Lib.hid (show w.heap.size ≤ (wr.alloc (.cells #[u8v U] 5)).heap.size by simp; have := HB.out.size; omega)
      go_wp2_with (at_builtin; go_must (refine wpList_append_own _ rfl _ _ 38 rfl w.heap.size 5 i0 (.int .u8 0) 1 1 Try.underlying38 hi hz0 hz1 hz2 rfl (by decide) _ _ _ rfl (HOA.out _) ⟨wr.heap.size, 0, none⟩ 1 1 [u8v U] rfl rfl H2.out H3.out (by unfold maxLen; omega) (by omega) hsz.out ?_); intro v' w3 hown' hgrow _)
      have HO' := Lib.hid hown'
      have HG' := Lib.hid hgrow
      clear hown' hgrow
      go_wp2
      go_ret
      have hfin : front ++ [U] = numC u := by have := HFR.out; rwa [numF_small f U (by omega)] at this
      have hown2 : w3.ownsRow w.heap.size 5 1 v' ((bs ++ numC u).map u8v).length ((bs ++ numC u).map u8v) := by
        have := HO'.out
        rw [← hfin, ← List.append_assoc, List.map_append, List.length_append, List.length_map, List.length_append, List.length_map, List.length_singleton]
        exact this
      have hbl : Below w.heap.size w w3 := (HB.out.alloc HB.out.size _).grown HG'.out hsz.out (by
            intro k hk
            have := HO.out
            rcases this.2 with ⟨h, _⟩ | ⟨g', cap', cur, h, hbg, _⟩
            · rw [h] at hk; cases hk
            · rw [h] at hk; cases hk; exact hbg)
      obtain ⟨ao', cap', hv⟩ := owns_shape hown2
      refine ⟨ao', cap', ?_, ?_, hbl⟩
      · show Ending.returned v' = _
        rw [hv]
      · rw [← hv]; exact hown2

end Go.Proofs.Yteloepccjoikdaa
