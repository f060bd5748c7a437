/-
  Contracts of null's Count, numbers, all.
-/
import Derived.Test.YtdelcaijehcaeaaNullm
import Derived.Test.YtdelcaijehcaeaaUnpack
namespace Go.Proofs.Ytdelcaijehcaeaa
set_option linter.unusedVariables false
open Go.RowKit

theorem rdb_cells {w : World} {ao : Option Addr} {len cap : Nat} {bs : List Bool} (h : Rd w (.slice ao len cap) (bs.map boolv)) :
    len = bs.length ∧ (0 < len → ∃ b off, ao = some ⟨b, off, none⟩ ∧ ∀ i, i < len → w.cell? ⟨b, off + i, none⟩ = some (.bool (bs.getD i false))) := by
  obtain ⟨ao', cap', hv, _, hc⟩ := h
  simp only [List.length_map, Value.slice.injEq] at hv hc
  obtain ⟨rfl, hl, rfl⟩ := hv
  refine ⟨hl, fun hp => ?_⟩
  obtain ⟨b, off, ha, hcell⟩ := hc (by omega)
  refine ⟨b, off, ha, fun i hi => ?_⟩
  have := hcell i (by omega)
  rw [this, List.getD_eq_getElem?_getD, List.getElem?_map, List.getD_eq_getElem?_getD, List.getElem?_eq_getElem (show i < bs.length by omega)]
  rfl

set_option maxHeartbeats 1000000 in
theorem count_any (v : Value) (bs : List Bool) (w : World) (hr : Rd w v (bs.map boolv)) (hbig : bs.length ≤ 17592186044416) :
    Calls Try.prog 41 #[v] w fun e w' => e = .returned (.int .i64 (countB bs : Nat)) ∧ w = w' := by
  have hr2 := hr
  obtain ⟨ao, cap, hv, hcap, _⟩ := hr2
  rw [List.length_map] at hv
  subst hv
  obtain ⟨len, hlen⟩ : ∃ len, len = bs.length := ⟨_, rfl⟩
  rw [← hlen] at hr hbig ⊢
  have HL := Lib.hid hlen
  have HC := Lib.hid (rdb_cells hr).2
  clear hr hcap hlen
  go_enter Try.func41, Try.ntmps41
  go_wp2_with fail
  go_loop [3, 8] (fun n i => ∃ k : Nat, k ≤ len ∧ i = .int .i64 (k : Int) ∧ n = .int .i64 (countB (bs.take k) : Nat)) (fun _ i => len - (intOf i).toNat)
  case atStart => exact ⟨0, Nat.zero_le _, rfl, rfl⟩
  case round =>
    obtain ⟨k, hk, rfl, rfl⟩ := hrel
    obtain ⟨c, hc⟩ : ∃ c, c = countB (bs.take k) := ⟨_, rfl⟩
    have hcl : c ≤ len := by rw [hc, HL.out]; have := countB_le (bs.take k); rw [List.length_take] at this; omega
    rw [← hc]
    have HCC := Lib.hid hc
    clear hc
    by_cases hlt : k < len
    · obtain ⟨b, off, rfl, hcell⟩ := HC.out (by omega)
      have hx := hcell k hlt
      obtain ⟨x, hxe⟩ : ∃ x, x = bs.getD k false := ⟨_, rfl⟩
      rw [← hxe] at hx
      have hget : bs[k]? = some x := by
        rw [hxe, List.getD_eq_getElem?_getD, List.getElem?_eq_getElem (by rw [← HL.out]; exact hlt)]; rfl
      have HT := Lib.hid (countB_take bs k x hget)
      clear hxe hcell hget HC
      cases x
      · go_wp2_with fail
        go_round
        case rel => exact ⟨k + 1, by omega, by go_num, by rw [HT.out, HCC.out]; rfl⟩
        case measure => simp [intOf]; omega
      · go_wp2_with fail
        go_round
        case rel => exact ⟨k + 1, by omega, by go_num, by rw [HT.out, ← HCC.out]; simp⟩
        case measure => simp [intOf]; omega
    · obtain rfl : k = len := by omega
      go_wp2_with fail
      go_ret
      rw [HCC.out, HL.out, List.take_length]
      exact ⟨rfl, rfl⟩

theorem infob : (Try.prog.info? 4).map (fun i => (i.zero, i.size, i.bytes)) = some (some (.bool false), 1, 1) := by kernel_rfl

theorem madeb (n : Nat) : (madeCells (Value.bool false).cells (n * 1)).toList = (List.replicate n false).map boolv := by
  simp [madeCells, Value.cells, boolv, Nat.mul_one]
  rw [List.eq_replicate_iff]
  refine ⟨by simp, fun b hb => ?_⟩
  simp only [List.mem_map, List.mem_range] at hb
  obtain ⟨j, _, rfl⟩ := hb
  rw [Nat.mod_one]; rfl

/-- The first k of them are set. -/
def setTo {α : Type} (xs zs : List α) (k : Nat) : List α := xs.take k ++ zs.drop k

theorem setTo_step {α : Type} (xs zs : List α) (k : Nat) (x : α) (hx : xs[k]? = some x) (hz : k < zs.length) : (setTo xs zs k).set k x = setTo xs zs (k + 1) := by
  have hk : k < xs.length := (List.getElem?_eq_some_iff.1 hx).1
  unfold setTo
  rw [List.set_append_right _ _ (by rw [List.length_take]; omega), List.length_take, Nat.min_eq_left (by omega), Nat.sub_self, List.take_add_one, hx]
  rw [List.drop_eq_getElem_cons hz, List.set_cons_zero]
  simp

theorem setTo_keep {α : Type} (xs zs : List α) (k : Nat) (x : α) (hx : xs[k]? = some x) (hz : zs[k]? = some x) : setTo xs zs (k + 1) = setTo xs zs k := by
  have hk : k < zs.length := (List.getElem?_eq_some_iff.1 hz).1
  unfold setTo
  rw [List.take_add_one, hx, List.drop_eq_getElem_cons hk]
  rw [List.getElem?_eq_getElem hk] at hz
  simp only [Option.some.injEq] at hz
  rw [hz]
  simp

theorem setTo_length {α : Type} (xs zs : List α) (k : Nat) (h : xs.length = zs.length) (hk : k ≤ xs.length) : (setTo xs zs k).length = xs.length := by
  unfold setTo; rw [List.length_append, List.length_take, List.length_drop]; omega

set_option maxHeartbeats 1000000 in
theorem numbers_any (v : Value) (bs : List Bool) (w : World) (hr : Rd w v (bs.map boolv)) (hbig : bs.length ≤ 65535) :
    Calls Try.prog 68 #[v] w (RetOwn w.heap.size 22 ((bitsN bs).map u64v) w) := by
  have hr2 := hr
  obtain ⟨ao, cap, hv, hcap, _⟩ := hr2
  rw [List.length_map] at hv
  subst hv
  obtain ⟨len, hlen⟩ : ∃ len, len = bs.length := ⟨_, rfl⟩
  rw [← hlen] at hr hbig ⊢
  have HL := Lib.hid hlen
  have HC := Lib.hid (rdb_cells hr).2
  clear hr hcap hlen
  obtain ⟨i0, hi, hz0, hz1, hz2⟩ := info_parts info64
  go_enter Try.func68, Try.ntmps68
  go_wp2_with (at_make; refine wpList_make_full _ rfl _ _ 31 rfl w.heap.size 22 i0 (.int .u64 0) 1 Try.underlying31 hi hz0 hz1 .i64 .i64 _ _ len rfl rfl rfl rfl (by rw [hz2]; omega) (by unfold maxLen; omega) (Nat.le_refl _) ?_; intro w1 hown1 hgrow1)
  clear hi hz0 hz1 hz2
  have hown2 : w1.ownsRow w.heap.size 22 1 (.slice (some ⟨w.heap.size, 0, none⟩) len len) len ((setTo (bitsN bs) (List.replicate len 0) 0).map u64v) := by
    have : setTo (bitsN bs) (List.replicate len 0) 0 = List.replicate len 0 := by simp [setTo]
    rw [this, ← made64]; exact hown1
  have HO := Lib.hid hown2
  have HB1 := Lib.hid (show Below w.heap.size w w1 from (Below.refl _ w).grown hgrow1 (Nat.le_refl _) (fun k e => by cases e))
  clear hown1 hgrow1 hown2
  go_loopw [11] (fun i wr => ∃ k : Nat, k ≤ len ∧ i = .int .i64 (k : Int) ∧ wr.ownsRow w.heap.size 22 1 (.slice (some ⟨w.heap.size, 0, none⟩) len len) len ((setTo (bitsN bs) (List.replicate len 0) k).map u64v) ∧ Below w.heap.size w wr) (fun i _ => len - (intOf i).toNat)
  case atStart => exact ⟨0, Nat.zero_le _, rfl, HO.out, HB1.out⟩
  case round =>
    obtain ⟨k, hk, rfl, hown, hbel⟩ := hrel
    have HB := Lib.hid hbel
    have HW := Lib.hid hown
    clear hbel hown HO HB1
    have hbl : (bitsN bs).length = len := by unfold bitsN; rw [List.length_map, HL.out]
    have HBL := Lib.hid hbl
    by_cases hlt : k < len
    · obtain ⟨b, off, rfl, hcell⟩ := HC.out (by omega)
      have hx0 := hcell k hlt
      have hx := (HB.out.cell (p := ⟨b, off + k, none⟩) (World.block_lt_of_cell? _ _ hx0)).trans hx0
      obtain ⟨x, hxe⟩ : ∃ x, x = bs.getD k false := ⟨_, rfl⟩
      rw [← hxe] at hx
      have hget : bs[k]? = some x := by
        rw [hxe, List.getD_eq_getElem?_getD, List.getElem?_eq_getElem (by rw [← HL.out]; exact hlt)]; rfl
      have hgb : (bitsN bs)[k]? = some x.toNat := by unfold bitsN; rw [List.getElem?_map, hget]; rfl
      have HG := Lib.hid hgb
      have hfz := HW.out.frozenAt k
      obtain ⟨y, hy⟩ : ∃ y, wr.cell? ⟨w.heap.size, k, none⟩ = some y := by
        have hcx := HW.out.cellAt k (by omega)
        rw [hcx, List.getElem?_eq_getElem (by rw [List.length_map, setTo_length _ _ _ (by rw [hbl, List.length_replicate]) (by omega), hbl]; exact hlt)]; exact ⟨_, rfl⟩
      clear hxe hcell hget HC hx0 hbl hgb
      cases x
      · go_wp2_with fail
        go_roundw
        case rel =>
          refine ⟨k + 1, by omega, by go_num, ?_, HB.out⟩
          rw [setTo_keep _ _ k 0 HG.out (by rw [List.getElem?_replicate, if_pos hlt])]
          exact HW.out
        case measure => simp [intOf]; omega
      · go_wp2_with fail
        go_roundw
        case rel =>
          refine ⟨k + 1, by omega, by go_num, ?_, ?_⟩
          · rw [← setTo_step _ _ k 1 HG.out (by rw [List.length_replicate]; exact hlt), List.map_set]
            exact (HW.out.stored k (u64v 1)).1
          · exact HB.out.trans ((Below.refl _ _).setCell (p := ⟨w.heap.size, k, none⟩) (Nat.le_refl _) _)
        case measure => simp [intOf]; omega
    · obtain rfl : k = len := by omega
      have hst : setTo (bitsN bs) (List.replicate k 0) k = bitsN bs := by unfold setTo; rw [List.drop_of_length_le (by simp), List.append_nil, ← hbl, List.take_length]
      clear hbl
      go_wp2_with fail
      go_ret
      have hKl : k = ((bitsN bs).map u64v).length := by rw [List.length_map, HBL.out]
      refine ⟨some ⟨w.heap.size, 0, none⟩, k, ?_, ?_, HB.out⟩
      · show Ending.returned (Value.slice (some ⟨w.heap.size, 0, none⟩) k k) = _
        rw [← hKl]
      · rw [← hKl, ← hst]; exact HW.out

set_option maxHeartbeats 1000000 in
theorem all_true_any (C : Nat) (w : World) (hbig : C ≤ 65535) :
    Calls Try.prog 66 #[.int .i64 (C : Int)] w (RetOwn w.heap.size 4 ((List.replicate C true).map boolv) w) := by
  obtain ⟨i0, hi, hz0, hz1, hz2⟩ := info_parts infob
  go_enter Try.func66, Try.ntmps66
  go_wp2_with (at_make; refine wpList_make_full _ rfl _ _ 65 rfl w.heap.size 4 i0 (.bool false) 1 Try.underlying65 hi hz0 hz1 .i64 .i64 _ _ C rfl rfl rfl rfl (by rw [hz2]; omega) (by unfold maxLen; omega) (Nat.le_refl _) ?_; intro w1 hown1 hgrow1)
  clear hi hz0 hz1 hz2
  have hown2 : w1.ownsRow w.heap.size 4 1 (.slice (some ⟨w.heap.size, 0, none⟩) C C) C ((setTo (List.replicate C true) (List.replicate C false) 0).map boolv) := by
    have : setTo (List.replicate C true) (List.replicate C false) 0 = List.replicate C false := by simp [setTo]
    rw [this, ← madeb]; exact hown1
  have HO := Lib.hid hown2
  have HB1 := Lib.hid (show Below w.heap.size w w1 from (Below.refl _ w).grown hgrow1 (Nat.le_refl _) (fun k e => by cases e))
  clear hown1 hgrow1 hown2
  go_loopw [9] (fun i wr => ∃ k : Nat, k ≤ C ∧ i = .int .i64 (k : Int) ∧ wr.ownsRow w.heap.size 4 1 (.slice (some ⟨w.heap.size, 0, none⟩) C C) C ((setTo (List.replicate C true) (List.replicate C false) k).map boolv) ∧ Below w.heap.size w wr) (fun i _ => C - (intOf i).toNat)
  case atStart => exact ⟨0, Nat.zero_le _, rfl, HO.out, HB1.out⟩
  case round =>
    obtain ⟨k, hk, rfl, hown, hbel⟩ := hrel
    have HB := Lib.hid hbel
    have HW := Lib.hid hown
    clear hbel hown HO HB1
    by_cases hlt : k < C
    · have hfz := HW.out.frozenAt k
      obtain ⟨y, hy⟩ : ∃ y, wr.cell? ⟨w.heap.size, k, none⟩ = some y := by
        have hcx := HW.out.cellAt k (by omega)
        rw [hcx, List.getElem?_eq_getElem (by rw [List.length_map, setTo_length _ _ _ (by simp) (by simp; omega), List.length_replicate]; exact hlt)]; exact ⟨_, rfl⟩
      go_wp2_with fail
      go_roundw
      case rel =>
        refine ⟨k + 1, by omega, by go_num, ?_, ?_⟩
        · rw [← setTo_step _ _ k true (by rw [List.getElem?_replicate, if_pos hlt]) (by rw [List.length_replicate]; exact hlt), List.map_set]
          exact (HW.out.stored k (boolv true)).1
        · exact HB.out.trans ((Below.refl _ _).setCell (p := ⟨w.heap.size, k, none⟩) (Nat.le_refl _) _)
      case measure => simp [intOf]; omega
    · obtain rfl : k = C := by omega
      have hst : setTo (List.replicate k true) (List.replicate k false) k = List.replicate k true := by unfold setTo; rw [List.drop_of_length_le (by simp), List.append_nil, List.take_of_length_le (by simp)]
      go_wp2_with fail
      go_ret
      have hKl : k = ((List.replicate k true).map boolv).length := by simp
      refine ⟨some ⟨w.heap.size, 0, none⟩, k, ?_, ?_, HB.out⟩
      · show Ending.returned (Value.slice (some ⟨w.heap.size, 0, none⟩) k k) = _
        rw [← hKl]
      · have h := HW.out
        rw [hst] at h
        rw [← hKl]; exact h

end Go.Proofs.Ytdelcaijehcaeaa
