import Derived.Test.YtmpgnjhgegbdkaaGreatAt
import Derived.OwnWalk
set_option linter.unusedVariables false
set_option maxHeartbeats 1000000
open Go.Lib (hid)
namespace Go.Proofs.YtmpgnjhgegbdkaaGreat
open Go.RowKit
open _root_.Nat renaming le_refl -> Qa, mul_comm -> Qc, mul_one -> Qd, mod_one -> Qh, mul_le_mul -> Qi
open _root_.List renaming replicate -> Qb, eq_replicate_iff -> Qe, mem_map -> Qf, mem_range -> Qg
open Go.RowKit.Below renaming refl -> Qj
theorem zS5 (n : Nat) : (madeCells (Value.int .u8 0).cells (n * 1)).toList = (Qb n 0).map u8v := by
 simp [madeCells, Value.cells, u8v, Qd]
 rw [Qe]
 refine ⟨by simp, fun b hb => ?_⟩
 simp only [Qf, Qg] at hb
 obtain ⟨j, _, rfl⟩ := hb
 rw [Qh]; rfl
theorem zO0 (n : Nat) : (madeCells (Value.int .u64 0).cells (n * 1)).toList = (Qb n 0).map u64v := by
 simp [madeCells, Value.cells, u64v, Qd]
 rw [Qe]
 refine ⟨by simp, fun b hb => ?_⟩
 simp only [Qf, Qg] at hb
 obtain ⟨j, _, rfl⟩ := hb
 rw [Qh]; rfl
theorem zF7 (n : Int) (ao : Option Addr) (len cap : Nat) (us : List Nat) (w : World) (hr : Rd w (.slice ao len cap) (us.map u64v))
  (h64 : ∀ i, us.getD i 0 < 18446744073709551616) (hlen : len <= 17592186044416) :
  Calls Tryz.prog 97 #[.int .i64 n, .slice ao len cap] w (RetOwn w.heap.size 5 ((packB (heldN n) us).map u8v) w) := by
 obtain ⟨hl0, hc⟩ := zBq hr
 have HL := hid hl0
 have HR := hid hr
 clear hl0 hr
 have hN := zF3 n
 obtain ⟨N, hNe⟩ : ∃ N, N = heldN n := ⟨_, rfl⟩
 rw [<- hNe] at hN ⊢
 have HN := hid hNe
 clear hNe
 have hNl : N * len <= 64 * 17592186044416 := Qi hN hlen
 obtain ⟨K, hKe⟩ : ∃ K, K = (N * len + 7) / 8 := ⟨_, rfl⟩
 have hK : K <= 140737488355328 := by omega
 have HK := hid hKe
 have hNl' : N * len <= 8 * K := by omega
 clear hKe hNl
 obtain ⟨i0, hi, hz0, hz1, hz2⟩ := info_parts zHl
 go_enter Tryz.func97, Tryz.ntmps97
 go_wp2_with (first
  | (go_at_call 121; refine (zDq _ _).mono ?_; rw [<- HN.out]; rintro e w' ⟨rfl, rfl⟩)
  | (go_at_call 122; refine (zF5 N len _ hN hlen).mono ?_; rw [<- HK.out]; rintro e w' ⟨rfl, rfl⟩)
  | (at_make; refine wpList_make_full _ rfl _ _ 29 rfl w.heap.size 5 i0 (.int .u8 0) 1 Tryz.underlying29 hi hz0 hz1 .i64 .i64 _ _ K rfl rfl rfl rfl (by rw [hz2]; omega) (by unfold maxLen; omega) (Qa _) ?_; intro w1 hown1 hgrow1))
 clear hi hz0 hz1 hz2
 have hown2 : w1.ownsRow w.heap.size 5 1 (.slice (some ⟨w.heap.size, 0, none⟩) K K) K ((Qb K 0).map u8v) := by rw [<- zS5]; exact hown1
 have hb1 : Below w.heap.size w w1 := (Qj _ w).grown hgrow1 (Qa _) (fun k e => by cases e)
 have HO := hid hown2
 clear hown1 hgrow1 hown2
 go_loopw [17] (fun i wr => ∃ k : Nat, ∃ bs : List Nat, k <= len ∧ i = .int .i64 (k : Int) ∧ PackTo bs us N k ∧ wr.ownsRow w.heap.size 5 1 (.slice (some ⟨w.heap.size, 0, none⟩) K K) K (bs.map u8v) ∧ Below w.heap.size w wr) (fun i _ => len - (intOf i).toNat)
 case atStart => exact ⟨0, _, Nat.zero_le _, rfl, zMa us N, by rw [<- HL.out, <- HK.out]; exact HO.out, hb1⟩
 case round =>
  obtain ⟨k, bs, hk, rfl, hpk, hown, hbel⟩ := hrel
  have HB := hid hbel
  have HP := hid hpk
  have HW := hid hown
  clear hbel hpk hown hb1 HO
  by_cases hlt : k < len
  ·obtain ⟨b, off, rfl, hcell⟩ := hc (by omega)
   have hx0 := hcell k hlt
   have hx := (HB.out.cell (p := ⟨b, off + k, none⟩) (World.block_lt_of_cell? _ _ hx0)).trans hx0
   have hx2 := h64 k
   obtain ⟨x, hxe⟩ : ∃ x, x = us.getD k 0 := ⟨_, rfl⟩
   rw [<- hxe] at hx hx2
   have HX := hid hxe
   have hmul : (k : Int) * (N : Int) = ((k * N : Nat) : Int) := by simp
   have hkN : k * N + N <= 8 * K := by
    have h1 : (k + 1) * N <= len * N := Nat.mul_le_mul_right _ hlt
    rw [Nat.succ_mul] at h1
    rw [Qc len N] at h1
    omega
   have hm0 : (0 : Int) <= (k : Int) * (N : Int) := by omega
   have hm1 : (k : Int) * (N : Int) <= 9223372036854775807 := by omega
   have HM := hid hmul
   have H64 := hid h64
   clear hxe hmul hx0 hc hcell h64
   go_wp2_with (go_at_call 123; rw [HM.out]; refine (zR2 w.heap.size w.heap.size K K bs (k * N) N x _ HW.out (Qa _) HP.out.2.1 (fun q hq => zMb HP.out q (by rw [Qc]; exact hq)) hkN hN (by omega) hx2).mono ?_; rintro e w2 ⟨rfl, hown2, hgr2⟩; have HO2 := hid hown2; have HG2 := hid hgr2; clear hown2 hgr2)
   go_roundw
   case rel =>
    obtain ⟨bs', ho, hp⟩ := HO2.out
    have h3 := HX.out
    refine ⟨k + 1, bs', by omega, by go_num, zMc HP.out (by rw [Qc, <- h3]; exact hp), ho, ?_⟩
    exact HB.out.trans ((Qj _ _).grown HG2.out HB.out.size (fun j e => by cases e; exact Qa _))
   case measure => simp [intOf]; omega
  ·have hkl : k = len := by omega
   subst hkl
   go_wp2
   go_ret
   have hbs : bs = packB N us := zNh (by have := HP.out; rwa [HL.out] at this)
   have hKl : K = ((packB N us).map u8v).length := by rw [List.length_map, zAy, <- HL.out]; exact HK.out
   refine ⟨some ⟨w.heap.size, 0, none⟩, K, ?_, ?_, HB.out⟩
   ·show Ending.returned (Value.slice (some ⟨w.heap.size, 0, none⟩) K K) = _
    rw [<- hKl]
   ·rw [<- hKl, <- hbs]; exact HW.out
theorem zE2 (n count : Int) (ao : Option Addr) (len cap : Nat) (bs : List Nat) (w : World) (hr : Rd w (.slice ao len cap) (bs.map u8v))
  (h256 : ∀ i, bs.getD i 0 < 256) (hlen : len <= 17592186044416) (hn : unpackB bs n count = none) :
  Calls Tryz.prog 135 #[.slice ao len cap, .int .i64 n, .int .i64 count] w fun e w' => e = .returned (.tuple #[.slice none 0 0, .bool false]) ∧ ∃ k, w' = w.drewN k := by
 obtain ⟨hl0, _⟩ := zA0 hr
 have HL := hid hl0
 have HR := hid hr
 clear hl0 hr
 have hN := zF3 n
 unfold unpackB at hn
 obtain ⟨N, hNe⟩ : ∃ N, N = heldN n := ⟨_, rfl⟩
 rw [<- hNe] at hN hn
 have HN := hid hNe
 clear hNe
 rw [<- HL.out] at hn
 by_cases h1 : 0 <= count
 ·obtain ⟨C, rfl⟩ := Int.eq_ofNat_of_zero_le h1
  rw [Int.toNat_natCast] at hn
  by_cases h2 : C <= 65535
  ·have h2' : decide ((65535 : Int) < (C : Int)) = false := by simp; omega
   have h1' : decide ((C : Int) < 0) = false := by simp
   obtain ⟨K, hKe⟩ : ∃ K, K = (N * C + 7) / 8 := ⟨_, rfl⟩
   have hNC : N * C <= 64 * 65535 := Qi hN h2
   rw [<- hKe] at hn
   have HK := hid hKe
   have hm0 : (0 : Int) <= (N : Int) * (C : Int) := by
     have : ((N : Int) * (C : Int)) = ((N * C : Nat) : Int) := by simp
     omega
   have hm1 : (N : Int) * (C : Int) <= 4194240 := by
     have : ((N : Int) * (C : Int)) = ((N * C : Nat) : Int) := by simp
     omega
   have HM := hid (show (N : Int) * (C : Int) = ((N * C : Nat) : Int) by simp)
   by_cases h3 : len = K
   ·have hsp : spareB bs (N * C) = false := by
     cases hs : spareB bs (N * C)
     ·rfl
     ·rw [if_pos ⟨by omega, by omega, h3, hs⟩] at hn; cases hn
    have HS := hid hsp
    have hb : ((len : Int) != (K : Int)) = false := by simp [h3]
    have H3 := hid h3
    clear hsp hn hKe h3
    go_enter Tryz.func135, Tryz.ntmps135
    go_wp2_with (first
     | (go_at_call 121; refine (zDq _ _).mono ?_; rw [<- HN.out]; rintro e w' ⟨rfl, rfl⟩)
     | (go_at_call 122; refine (zF5 N C _ hN (by omega)).mono ?_; rw [<- HK.out]; rintro e w' ⟨rfl, rfl⟩)
     | (go_at_call 176; rw [HM.out]; refine (zJg ao len cap bs (N * C) _ HR.out h256 (by rw [H3.out]; exact HK.out) (by omega)).mono ?_; rw [HS.out]; rintro e w' ⟨rfl, k, rfl⟩))
    go_ret2
    exact ⟨rfl, _, rfl⟩
   ·have hb : ((len : Int) != (K : Int)) = true := by rw [bne_iff_ne]; omega
    clear hn hKe h3
    go_enter Tryz.func135, Tryz.ntmps135
    go_wp2_with (first
     | (go_at_call 121; refine (zDq _ _).mono ?_; rw [<- HN.out]; rintro e w' ⟨rfl, rfl⟩)
     | (go_at_call 122; refine (zF5 N C _ hN (by omega)).mono ?_; rw [<- HK.out]; rintro e w' ⟨rfl, rfl⟩))
    go_ret2
    exact ⟨rfl, 0, rfl⟩
  ·have h2' : decide ((65535 : Int) < (C : Int)) = true := by simp; omega
   have h1' : decide ((C : Int) < 0) = false := by simp
   clear hn
   go_enter Tryz.func135, Tryz.ntmps135
   go_wp2_with (first
    | (go_at_call 121; refine (zDq _ _).mono ?_; rw [<- HN.out]; rintro e w' ⟨rfl, rfl⟩))
   go_ret2
   exact ⟨rfl, 0, rfl⟩
 ·have h1' : decide (count < 0) = true := by simp; omega
  clear hn
  go_enter Tryz.func135, Tryz.ntmps135
  go_wp2_with (first
   | (go_at_call 121; refine (zDq _ _).mono ?_; rw [<- HN.out]; rintro e w' ⟨rfl, rfl⟩))
  go_ret2
  exact ⟨rfl, 0, rfl⟩
end Go.Proofs.YtmpgnjhgegbdkaaGreat
