/-
  Contract of layer 3's Bools: some bools, sixty of them at most.
-/
import Derived.Test.YtdelcaijehcaeaaNulld
namespace Go.Proofs.Ytdelcaijehcaeaa
set_option linter.unusedVariables false
open Go.RowKit

theorem rdz_cells {w : World} {ao : Option Addr} {len cap : Nat} {xs : List Int} (h : Rd w (.slice ao len cap) (xs.map (Value.int .i64))) :
    len = xs.length ∧ (0 < len → ∃ b off, ao = some ⟨b, off, none⟩ ∧ ∀ i, i < len → w.cell? ⟨b, off + i, none⟩ = some (.int .i64 (xs.getD i 0))) := by
  obtain ⟨ao', cap', hv, _, hc⟩ := h
  simp only [List.length_map, Value.slice.injEq] at hv hc
  obtain ⟨rfl, hl, rfl⟩ := hv
  refine ⟨hl, fun hp => ?_⟩
  obtain ⟨b, off, ha, hcell⟩ := hc (by omega)
  refine ⟨b, off, ha, fun i hi => ?_⟩
  have := hcell i (by omega)
  rw [this, List.getD_eq_getElem?_getD, List.getElem?_map, List.getD_eq_getElem?_getD, List.getElem?_eq_getElem (show i < xs.length by omega)]
  rfl

theorem and_some (a M : Int) (m : Nat) (hM : M = (m : Int)) (hm : m ≤ 1000000) : ∃ c : Nat, bits .and .i64 a M = (c : Int) ∧ c ≤ m := by
  subst hM
  have h : bits .and .i64 a (m : Int) = IntKind.i64.wrap ((BitVec.ofInt 64 a &&& BitVec.ofInt 64 (m : Int)).toNat : Int) := rfl
  have h1 : (BitVec.ofInt 64 a &&& BitVec.ofInt 64 (m : Int)).toNat ≤ m := by
    rw [BitVec.toNat_and]
    refine Nat.le_trans Nat.and_le_right ?_
    rw [BitVec.ofInt_natCast, BitVec.toNat_ofNat]
    exact Nat.mod_le _ _
  refine ⟨(BitVec.ofInt 64 a &&& BitVec.ofInt 64 (m : Int)).toNat, ?_, h1⟩
  rw [h, IntWalk.i64_in _ (by omega)]

set_option maxRecDepth 100000 in
set_option maxHeartbeats 1000000 in
theorem bools_any (v : Value) (zs : List Int) (how : Int) (w : World) (hr : Rd w v (zs.map (Value.int .i64))) :
    Calls Try.prog 38 #[v, .int .i64 how] w fun e w' => ∃ xs : List Bool, xs.length ≤ 60 ∧ RetOwn w.heap.size 4 (xs.map boolv) w e w' := by
  have hr2 := hr
  obtain ⟨ao, cap, hv, hcap, _⟩ := hr2
  rw [List.length_map] at hv
  subst hv
  obtain ⟨len, hlen⟩ : ∃ len, len = zs.length := ⟨_, rfl⟩
  rw [← hlen] at hr ⊢
  have HR := Lib.hid hr
  obtain ⟨h, hh, h3⟩ := and_some how 3 3 rfl (by decide)
  obtain ⟨i0, hi, hz0, hz1, hz2⟩ := info_parts infob
  clear hr hcap hlen
  go_enter Try.func38, Try.ntmps38
  go_wp2_with fail
  go_loopw [5, 6] (fun o i wr => ∃ k : Nat, ∃ xs : List Bool, ∃ ao : Option Addr, ∃ cap : Nat, k ≤ 60 ∧ xs.length = k ∧ i = .int .i64 (k : Int) ∧ o = .slice ao k cap ∧ wr.ownsRow w.heap.size 4 1 (.slice ao k cap) k (xs.map boolv) ∧ Below w.heap.size w wr) (fun _ i _ => 60 - (intOf i).toNat)
  case atStart => exact ⟨0, [], none, 0, by omega, rfl, rfl, rfl, owns_nil _ _ _, Below.refl _ _⟩
  case round =>
    obtain ⟨k, xs, ao2, cap2, hk, hxl, rfl, rfl, hown, hbel⟩ := hrel
    have HB := Lib.hid hbel
    have HO := Lib.hid hown
    have HXL := Lib.hid hxl
    have HOA := Lib.hid (fun o => hown.alloc o)
    have H2 := fun b : Bool => Lib.hid (one_cell wr (boolv b) 4)
    have H3 := fun b : Bool => Lib.hid (show ∀ u ∈ [boolv b], u.oneCell' = true by intro u hu; simp at hu; subst hu; rfl)
    have hsz := fun (x : Value) (E : TypeId) => Lib.hid (show w.heap.size ≤ (wr.alloc (.cells #[x] E)).heap.size by simp; have := HB.out.size; omega)
    clear hbel hown hxl
    by_cases hlt : k < len ∧ k < 60
    · obtain ⟨hlt1, hlt2⟩ := hlt
      obtain ⟨b, off, rfl, hcell⟩ := (rdz_cells (HR.out.kept HB.out)).2 (by omega)
      have hx := hcell k hlt1
      obtain ⟨z, hz⟩ : ∃ z, z = zs.getD k 0 := ⟨_, rfl⟩
      rw [← hz] at hx
      obtain ⟨c, hc, hc1⟩ := and_some z 1 1 rfl (by decide)
      clear hcell hz
      by_cases h1 : h = 1
      · have h1i : ((h : Int) == 1) = true := by rw [beq_iff_eq]; omega
        go_wp2_with (at_builtin; go_must (refine wpList_append_own _ rfl _ _ 65 rfl w.heap.size 4 i0 (.bool false) 1 1 Try.underlying65 hi hz0 hz1 hz2 rfl (by decide) _ _ _ rfl (HOA.out _) ⟨wr.heap.size, 0, none⟩ 1 1 [boolv true] rfl rfl (H2 true).out (H3 true).out (by unfold maxLen; omega) (by omega) (hsz _ _).out ?_); intro v' w3 hown' hgrow _)
        have HO' := Lib.hid hown'
        have HB' := Lib.hid (below_own (HB.out.alloc HB.out.size _) (HOA.out _) hgrow)
        obtain ⟨ao3, cap3, hv⟩ := own_shape hown'
        subst hv
        clear hown' hgrow
        go_wp2
        go_roundw
        case rel => exact ⟨k + 1, xs ++ [true], ao3, cap3, by omega, by rw [List.length_append, HXL.out]; rfl, by go_num, rfl, by rw [List.map_append]; exact HO'.out, HB'.out⟩
        case measure => simp [intOf]; omega
      · have h1i : ((h : Int) == 1) = false := by rw [beq_eq_false_iff_ne]; omega
        by_cases h2 : 1 < h
        · have h2i : decide ((1 : Int) < (h : Int)) = true := by simp; omega
          by_cases hc2 : c = 1
          · have hci : ((c : Int) == 1) = true := by rw [beq_iff_eq]; omega
            go_wp2_with (at_builtin; go_must (refine wpList_append_own _ rfl _ _ 65 rfl w.heap.size 4 i0 (.bool false) 1 1 Try.underlying65 hi hz0 hz1 hz2 rfl (by decide) _ _ _ rfl (HOA.out _) ⟨wr.heap.size, 0, none⟩ 1 1 [boolv true] rfl rfl (H2 true).out (H3 true).out (by unfold maxLen; omega) (by omega) (hsz _ _).out ?_); intro v' w3 hown' hgrow _)
            have HO' := Lib.hid hown'
            have HB' := Lib.hid (below_own (HB.out.alloc HB.out.size _) (HOA.out _) hgrow)
            obtain ⟨ao3, cap3, hv⟩ := own_shape hown'
            subst hv
            clear hown' hgrow
            go_wp2
            go_roundw
            case rel => exact ⟨k + 1, xs ++ [true], ao3, cap3, by omega, by rw [List.length_append, HXL.out]; rfl, by go_num, rfl, by rw [List.map_append]; exact HO'.out, HB'.out⟩
            case measure => simp [intOf]; omega
          · have hci : ((c : Int) == 1) = false := by rw [beq_eq_false_iff_ne]; omega
            go_wp2_with (at_builtin; go_must (refine wpList_append_own _ rfl _ _ 65 rfl w.heap.size 4 i0 (.bool false) 1 1 Try.underlying65 hi hz0 hz1 hz2 rfl (by decide) _ _ _ rfl (HOA.out _) ⟨wr.heap.size, 0, none⟩ 1 1 [boolv false] rfl rfl (H2 false).out (H3 false).out (by unfold maxLen; omega) (by omega) (hsz _ _).out ?_); intro v' w3 hown' hgrow _)
            have HO' := Lib.hid hown'
            have HB' := Lib.hid (below_own (HB.out.alloc HB.out.size _) (HOA.out _) hgrow)
            obtain ⟨ao3, cap3, hv⟩ := own_shape hown'
            subst hv
            clear hown' hgrow
            go_wp2
            go_roundw
            case rel => exact ⟨k + 1, xs ++ [false], ao3, cap3, by omega, by rw [List.length_append, HXL.out]; rfl, by go_num, rfl, by rw [List.map_append]; exact HO'.out, HB'.out⟩
            case measure => simp [intOf]; omega
        · have h2i : decide ((1 : Int) < (h : Int)) = false := by simp; omega
          go_wp2_with (at_builtin; go_must (refine wpList_append_own _ rfl _ _ 65 rfl w.heap.size 4 i0 (.bool false) 1 1 Try.underlying65 hi hz0 hz1 hz2 rfl (by decide) _ _ _ rfl (HOA.out _) ⟨wr.heap.size, 0, none⟩ 1 1 [boolv false] rfl rfl (H2 false).out (H3 false).out (by unfold maxLen; omega) (by omega) (hsz _ _).out ?_); intro v' w3 hown' hgrow _)
          have HO' := Lib.hid hown'
          have HB' := Lib.hid (below_own (HB.out.alloc HB.out.size _) (HOA.out _) hgrow)
          obtain ⟨ao3, cap3, hv⟩ := own_shape hown'
          subst hv
          clear hown' hgrow
          go_wp2
          go_roundw
          case rel => exact ⟨k + 1, xs ++ [false], ao3, cap3, by omega, by rw [List.length_append, HXL.out]; rfl, by go_num, rfl, by rw [List.map_append]; exact HO'.out, HB'.out⟩
          case measure => simp [intOf]; omega
    · by_cases hlt1 : k < len
      · obtain rfl : k = 60 := by omega
        go_wp2_with fail
        go_ret
        refine ⟨xs, by rw [HXL.out]; exact Nat.le_refl _, ret_own HO.out HB.out⟩
      · go_wp2_with fail
        go_ret
        refine ⟨xs, by rw [HXL.out]; exact hk, ret_own HO.out HB.out⟩

end Go.Proofs.Ytdelcaijehcaeaa
