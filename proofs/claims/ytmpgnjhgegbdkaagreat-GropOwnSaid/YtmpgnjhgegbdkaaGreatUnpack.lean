import Derived.Test.YtmpgnjhgegbdkaaGreatPack
set_option linter.unusedVariables false
set_option maxHeartbeats 1000000
open Go.Lib (hid)
namespace Go.Proofs.YtmpgnjhgegbdkaaGreat
open Go.RowKit
open _root_.Nat renaming le_refl -> Qa
open _root_.List renaming range -> Qb, replicate -> Qc, length_map -> Qd
def unpackTo (bs : List Nat) (N C k : Nat) : List Nat := ((Qb k).map fun i => numB bs (i * N) N) ++ Qc (C - k) 0
theorem zKe (bs : List Nat) (N C k : Nat) (hk : k < C) : (unpackTo bs N C k).set k (numB bs (k * N) N) = unpackTo bs N C (k + 1) := by
 unfold unpackTo
 rw [List.set_append_right _ _ (by simp)]
 rw [List.range_succ, List.map_append]
 have e : C - k = (C - (k + 1)) + 1 := by omega
 rw [e, List.replicate_succ]
 simp
theorem zKy (bs : List Nat) (N C : Nat) : unpackTo bs N C C = (Qb C).map fun i => numB bs (i * N) N := by
 unfold unpackTo; simp
theorem zE3 (bs : List Nat) (N C k : Nat) (hk : k <= C) : (unpackTo bs N C k).length = C := by
 unfold unpackTo; simp; omega
theorem zEc (n : Int) (C : Nat) (ao : Option Addr) (len cap : Nat) (bs us : List Nat) (w : World) (hr : Rd w (.slice ao len cap) (bs.map u8v))
  (h256 : ∀ i, bs.getD i 0 < 256) (hlen : len <= 17592186044416) (hn : unpackB bs n (C : Int) = some us) :
  Calls Tryz.prog 135 #[.slice ao len cap, .int .i64 n, .int .i64 (C : Int)] w (RetOwn2 w.heap.size 105 (us.map u64v) true w) := by
 obtain ⟨hl0, _⟩ := zA0 hr
 have HL := hid hl0
 have HR := hid hr
 clear hl0 hr
 have hN := zF3 n
 unfold unpackB at hn
 obtain ⟨N, hNe⟩ : ∃ N, N = heldN n := ⟨_, rfl⟩
 rw [<- hNe] at hN hn
 have HN := hid hNe
 clear hNe
 rw [<- HL.out, Int.toNat_natCast] at hn
 by_cases hcond : 0 <= (C : Int) ∧ (C : Int) <= 65535 ∧ len = (N * C + 7) / 8 ∧ spareB bs (N * C) = true
 ·rw [if_pos hcond] at hn
  simp only [Option.some.injEq] at hn
  obtain ⟨_, h2, h3, hsp⟩ := hcond
  have h2n : C <= 65535 := by omega
  have HU := hid hn
  clear hn
  have h2' : decide ((65535 : Int) < (C : Int)) = false := by simp; omega
  have h1' : decide ((C : Int) < 0) = false := by simp
  obtain ⟨K, hKe⟩ : ∃ K, K = (N * C + 7) / 8 := ⟨_, rfl⟩
  have hNC : N * C <= 64 * 65535 := Nat.mul_le_mul hN h2n
  have hNCl : N * C <= 8 * len := by omega
  have HK := hid hKe
  rw [<- hKe] at h3
  have hm0 : (0 : Int) <= (N : Int) * (C : Int) := by
    have : ((N : Int) * (C : Int)) = ((N * C : Nat) : Int) := by simp
    omega
  have hm1 : (N : Int) * (C : Int) <= 4194240 := by
    have : ((N : Int) * (C : Int)) = ((N * C : Nat) : Int) := by simp
    omega
  have HM := hid (show (N : Int) * (C : Int) = ((N * C : Nat) : Int) by simp)
  have HS := hid hsp
  have hb : ((len : Int) != (K : Int)) = false := by simp [h3]
  have H3 := hid h3
  clear hsp hKe h3 h2
  obtain ⟨i0, hi, hz0, hz1, hz2⟩ := info_parts zOz
  go_enter Tryz.func135, Tryz.ntmps135
  go_wp2_with (first
   | (go_at_call 121; refine (zDq _ _).mono ?_; rw [<- HN.out]; rintro e w' ⟨rfl, rfl⟩)
   | (go_at_call 122; refine (zF5 N C _ hN (by omega)).mono ?_; rw [<- HK.out]; rintro e w' ⟨rfl, rfl⟩)
   | (go_at_call 176; rw [HM.out]; refine (zJg ao len cap bs (N * C) _ HR.out h256 (by rw [H3.out]; exact HK.out) (by omega)).mono ?_; rw [HS.out]; rintro e w' ⟨rfl, k0, rfl⟩)
   | (at_make; refine wpList_make_full _ rfl _ _ 159 rfl w.heap.size 105 i0 (.int .u64 0) 1 Tryz.underlying159 hi hz0 hz1 .i64 .i64 _ _ C rfl rfl rfl rfl (by rw [hz2]; omega) (by unfold maxLen; omega) (Qa _) ?_; intro w1 hown1 hgrow1))
  clear hi hz0 hz1 hz2
  have hown2 : w1.ownsRow w.heap.size 105 1 (.slice (some ⟨w.heap.size, 0, none⟩) C C) C ((unpackTo bs N C 0).map u64v) := by
   have : unpackTo bs N C 0 = Qc C 0 := by simp [unpackTo]
   rw [this, <- zO0]; exact hown1
  have hb1 : Below w.heap.size w w1 := (zB8 w _ k0).grown hgrow1 (Qa _) (fun k e => by cases e)
  have HO := hid hown2
  have HB1 := hid hb1
  clear hown1 hgrow1 hown2 hb1
  go_loopw [38] (fun i wr => ∃ k : Nat, k <= C ∧ i = .int .i64 (k : Int) ∧ wr.ownsRow w.heap.size 105 1 (.slice (some ⟨w.heap.size, 0, none⟩) C C) C ((unpackTo bs N C k).map u64v) ∧ Below w.heap.size w wr) (fun i _ => C - (intOf i).toNat)
  case atStart => exact ⟨0, Nat.zero_le _, rfl, HO.out, HB1.out⟩
  case round =>
   obtain ⟨k, hk, rfl, hown, hbel⟩ := hrel
   have HB := hid hbel
   have HW := hid hown
   clear hbel hown HO HB1
   by_cases hlt : k < C
   ·have hfz := HW.out.frozenAt k
    have hcx := HW.out.cellAt k (by omega)
    obtain ⟨y, hy⟩ : ∃ y, wr.cell? ⟨w.heap.size, k, none⟩ = some y := by
     rw [hcx, List.getElem?_eq_getElem (by rw [Qd, zE3 _ _ _ _ hk]; exact hlt)]; exact ⟨_, rfl⟩
    have hmul : (k : Int) * (N : Int) = ((k * N : Nat) : Int) := by simp
    have hkN : k * N + N <= N * C := by
     have h1 : (k + 1) * N <= C * N := Nat.mul_le_mul_right _ hlt
     rw [Nat.succ_mul] at h1
     rw [Nat.mul_comm C N] at h1
     omega
    have hm2 : (0 : Int) <= (k : Int) * (N : Int) := by omega
    have hm3 : (k : Int) * (N : Int) <= 9223372036854775807 := by omega
    have HM2 := hid hmul
    clear hmul hcx
    have HRW := hid (HR.out.kept HB.out)
    go_wp2_with (go_at_call 177; rw [HM2.out]; refine (zSs ao len cap bs (k * N) N _ HRW.out h256 (by omega) hN (by omega)).mono ?_; rintro e w2 ⟨rfl, k2, rfl⟩)
    go_roundw
    case rel =>
     refine ⟨k + 1, by omega, by go_num, ?_, ?_⟩
     ·rw [<- zKe bs N C k hlt, List.map_set]
      exact (HW.out.stored k (u64v (numB bs (k * N) N))).1
     ·exact (HB.out.trans (zB8 _ _ k2)).trans ((Below.refl _ _).setCell (p := ⟨w.heap.size, k, none⟩) (Qa _) _)
    case measure => simp [intOf]; omega
   ·have hkl : k = C := by omega
    subst hkl
    go_wp2
    go_ret2
    have hus : unpackTo bs N k k = us := by rw [zKy]; exact HU.out
    have hKl : k = (us.map u64v).length := by rw [Qd, <- hus, zE3 _ _ _ _ (Qa _)]
    refine ⟨some ⟨w.heap.size, 0, none⟩, k, ?_, ?_, HB.out⟩
    ·show Ending.returned (Value.tuple #[Value.slice (some ⟨w.heap.size, 0, none⟩) k k, Value.bool true]) = _
     rw [<- hKl]
    ·rw [<- hKl, <- hus]; exact HW.out
 ·rw [if_neg hcond] at hn; cases hn
end Go.Proofs.YtmpgnjhgegbdkaaGreat
