/-
  Contracts of bitp.spareIsZero and of get at a slice that reads as bytes.
-/
import Derived.Test.YtjcmekhamohbnaaGet
import Derived.Test.YtjcmekhamohbnaaLone
namespace Go.Proofs.Ytjcmekhamohbnaa
set_option linter.unusedVariables false
open Go.RowKit

theorem info8 : (Try.prog.info? 5).map (fun i => (i.zero, i.size, i.bytes)) = some (some (.int .u8 0), 1, 1) := by kernel_rfl
theorem info64 : (Try.prog.info? 57).map (fun i => (i.zero, i.size, i.bytes)) = some (some (.int .u64 0), 1, 8) := by kernel_rfl

theorem bool_of_eq {a b : Bool} (h : a = b) : Ending.returned (.bool a) = Ending.returned (.bool b) := by rw [h]

theorem rd_cells {w : World} {ao : Option Addr} {len cap : Nat} {bs : List Nat} (h : Rd w (.slice ao len cap) (bs.map u8v)) :
    len = bs.length ∧ (0 < len → ∃ b off, ao = some ⟨b, off, none⟩ ∧ ∀ i, i < len → w.cell? ⟨b, off + i, none⟩ = some (.int .u8 (bs.getD i 0 : Nat))) := by
  obtain ⟨ao', cap', hv, _, hc⟩ := h
  simp only [List.length_map, Value.slice.injEq] at hv hc
  obtain ⟨rfl, hl, rfl⟩ := hv
  refine ⟨hl, fun hp => ?_⟩
  obtain ⟨b, off, ha, hcell⟩ := hc (by omega)
  refine ⟨b, off, ha, fun i hi => ?_⟩
  have := hcell i (by omega)
  rw [this, List.getD_eq_getElem?_getD, List.getElem?_map, List.getD_eq_getElem?_getD, List.getElem?_eq_getElem (show i < bs.length by omega)]
  rfl

theorem rd64_cells {w : World} {ao : Option Addr} {len cap : Nat} {us : List Nat} (h : Rd w (.slice ao len cap) (us.map u64v)) :
    len = us.length ∧ (0 < len → ∃ b off, ao = some ⟨b, off, none⟩ ∧ ∀ i, i < len → w.cell? ⟨b, off + i, none⟩ = some (.int .u64 (us.getD i 0 : Nat))) := by
  obtain ⟨ao', cap', hv, _, hc⟩ := h
  simp only [List.length_map, Value.slice.injEq] at hv hc
  obtain ⟨rfl, hl, rfl⟩ := hv
  refine ⟨hl, fun hp => ?_⟩
  obtain ⟨b, off, ha, hcell⟩ := hc (by omega)
  refine ⟨b, off, ha, fun i hi => ?_⟩
  have := hcell i (by omega)
  rw [this, List.getD_eq_getElem?_getD, List.getElem?_map, List.getD_eq_getElem?_getD, List.getElem?_eq_getElem (show i < us.length by omega)]
  rfl

set_option maxHeartbeats 400000 in
theorem get_rd (ao : Option Addr) (len cap : Nat) (bs : List Nat) (p0 n0 : Nat) (w : World) (hr : Rd w (.slice ao len cap) (bs.map u8v))
    (h256 : ∀ i, bs.getD i 0 < 256) (hfit : p0 + n0 ≤ 8 * len) (hn : n0 ≤ 64) (hlen : len ≤ 1125899906842624) :
    Calls Try.prog 77 #[.slice ao len cap, .int .i64 p0, .int .i64 n0] w fun e w' => e = .returned (.int .u64 (numB bs p0 n0 : Nat)) ∧ ∃ k, w' = w.drewN k := by
  obtain ⟨hl, hc⟩ := rd_cells hr
  by_cases h0 : n0 = 0
  · subst h0
    clear hr hl hc
    go_enter Try.func77, Try.ntmps77
    go_wp2
    go_loop [1, 2, 7] (fun p n u => p = .int .i64 (p0 : Int) ∧ n = .int .i64 (0 : Int) ∧ u = .int .u64 (0 : Int)) (fun _ _ _ => 0)
    case atStart => exact ⟨rfl, rfl, rfl⟩
    case round =>
      obtain ⟨rfl, rfl, rfl⟩ := hrel
      go_wp2
      go_ret
      exact ⟨ret_int (by simp [numB]), 0, rfl⟩
  · obtain ⟨b, off, rfl, hcell⟩ := hc (by omega)
    exact get_any b off len cap bs p0 n0 w hcell h256 hfit hn hlen

set_option maxHeartbeats 400000 in
theorem spare_any (ao : Option Addr) (len cap : Nat) (bs : List Nat) (c : Nat) (w : World) (hr : Rd w (.slice ao len cap) (bs.map u8v))
    (h256 : ∀ i, bs.getD i 0 < 256) (hc1 : len = (c + 7) / 8) (hlen : len ≤ 1125899906842624) :
    Calls Try.prog 76 #[.slice ao len cap, .int .i64 c] w fun e w' => e = .returned (.bool (spareB bs c)) ∧ ∃ k, w' = w.drewN k := by
  obtain ⟨hl, hc⟩ := rd_cells hr
  have hs1 : 8 * len - c < 8 := by omega
  have hs2 : c ≤ 8 * len := by omega
  by_cases h0 : 8 * len - c = 0
  · have hsp : spareB bs c = true := by unfold spareB; rw [← hl, h0]; simp [Nat.mod_one]
    have hz : (((len : Int) * 8 - (c : Int)) == 0) = true := by rw [beq_iff_eq]; omega
    rw [hsp]
    clear hr hl hc hsp hc1 h256
    go_enter Try.func76, Try.ntmps76
    go_wp2
    go_quiet (fail)
    go_wp2
    go_ret
    exact ⟨rfl, _, rfl⟩
  · obtain ⟨b, off, rfl, hcell⟩ := hc (by omega)
    have hx := hcell (len - 1) (by omega)
    have hx2 := h256 (len - 1)
    obtain ⟨x, hxe⟩ : ∃ x, x = bs.getD (len - 1) 0 := ⟨_, rfl⟩
    rw [← hxe] at hx hx2
    have hsp : spareB bs c = (x % 2 ^ (8 * len - c) == 0) := by unfold spareB; rw [← hl, ← hxe]
    have hlow := u8_low x (8 * len - c) (by omega) hx2
    have hz : (((len : Int) * 8 - (c : Int)) == 0) = false := by rw [beq_eq_false_iff_ne]; omega
    obtain ⟨s, hse⟩ : ∃ s, s = 8 * len - c := ⟨_, rfl⟩
    rw [← hse] at hsp hlow
    have HS := Lib.hid hse
    have HSP := Lib.hid hsp
    have HLO := Lib.hid hlow
    rw [hsp]
    clear hr hl hc hsp hc1 h256 hcell hxe hse hlow
    go_enter Try.func76, Try.ntmps76
    go_wp2
    go_quiet (fail)
    go_wp2
    go_ret
    refine ⟨bool_of_eq ?_, _, rfl⟩
    have h1 := HLO.out
    rw [HS.out, Nat.mul_comm 8 len] at h1
    rw [h1, HS.out, Nat.mul_comm 8 len, Bool.eq_iff_iff, beq_iff_eq, beq_iff_eq]
    omega

end Go.Proofs.Ytjcmekhamohbnaa
