import Derived.Test.YtmpgnjhgegbdkaaGreatAt
import Derived.OwnWalk
import Derived.Test.YtmpgnjhgegbdkaaGreatProg
import Derived.Shelf.Strconv.Itoa0
import Derived.Laws.IdiomStrings
import Derived.Lib.BufferRead
import Derived.Test.YtmpgnjhgegbdkaaGreatReadg
import Derived.Test.YtmpgnjhgegbdkaaGreatZig
import Derived.Lib.SlBytesConst
set_option linter.unusedVariables false
set_option maxHeartbeats 1000000
open Go.Lib (hid)
namespace Go.Proofs.YtmpgnjhgegbdkaaGreat
open Go.RowKit
open _root_.Nat renaming le_refl -> Qa, mul_comm -> Qc, mul_le_mul -> Qd, mul_one -> Qg, mod_one -> Qk, zero_le -> Ql, mul_le_mul_right -> Qm, succ_mul -> Qn
open _root_.List renaming replicate -> Qb, length_map -> Qf, eq_replicate_iff -> Qh, mem_map -> Qi, mem_range -> Qj, range -> Qp
open Go.RowKit.Below renaming refl -> Qe
open _root_.Int renaming toNat_natCast -> Qo
theorem zWy (n : Nat) : (madeCells (Value.int .u8 0).cells (n * 1)).toList = (Qb n 0).map u8v := by
 simp [madeCells, Value.cells, u8v, Qg]
 rw [Qh]
 refine ⟨by simp, fun b hb => ?_⟩
 simp only [Qi, Qj] at hb
 obtain ⟨j, _, rfl⟩ := hb
 rw [Qk]; rfl
theorem zRn (n : Nat) : (madeCells (Value.int .u64 0).cells (n * 1)).toList = (Qb n 0).map u64v := by
 simp [madeCells, Value.cells, u64v, Qg]
 rw [Qh]
 refine ⟨by simp, fun b hb => ?_⟩
 simp only [Qi, Qj] at hb
 obtain ⟨j, _, rfl⟩ := hb
 rw [Qk]; rfl
theorem zHk (n : Int) (ao : Option Addr) (len cap : Nat) (us : List Nat) (w : World) (hr : Rd w (.slice ao len cap) (us.map u64v))
  (h64 : ∀ i, us.getD i 0 < 18446744073709551616) (hlen : len <= 17592186044416) :
  Calls Tryz.prog 97 #[.int .i64 n, .slice ao len cap] w (RetOwn w.heap.size 5 ((packB (heldN n) us).map u8v) w) := by
 obtain ⟨hl0, hc⟩ := zB5 hr
 have HL := hid hl0
 have HR := hid hr
 clear hl0 hr
 have hN := zHf n
 obtain ⟨N, hNe⟩ : ∃ N, N = heldN n := ⟨_, rfl⟩
 rw [<- hNe] at hN ⊢
 have HN := hid hNe
 clear hNe
 have hNl : N * len <= 64 * 17592186044416 := Qd hN hlen
 obtain ⟨K, hKe⟩ : ∃ K, K = (N * len + 7) / 8 := ⟨_, rfl⟩
 have hK : K <= 140737488355328 := by omega
 have HK := hid hKe
 have hNl' : N * len <= 8 * K := by omega
 clear hKe hNl
 obtain ⟨i0, hi, hz0, hz1, hz2⟩ := info_parts zHi
 go_enter Tryz.func97, Tryz.ntmps97
 go_wp2_with (first
  | (go_at_call 121; refine (zEq _ _).mono ?_; rw [<- HN.out]; rintro e w' ⟨rfl, rfl⟩)
  | (go_at_call 122; refine (zHh N len _ hN hlen).mono ?_; rw [<- HK.out]; rintro e w' ⟨rfl, rfl⟩)
  | (at_make; refine wpList_make_full _ rfl _ _ 29 rfl w.heap.size 5 i0 (.int .u8 0) 1 Tryz.underlying29 hi hz0 hz1 .i64 .i64 _ _ K rfl rfl rfl rfl (by rw [hz2]; omega) (by unfold maxLen; omega) (Qa _) ?_; intro w1 hown1 hgrow1))
 clear hi hz0 hz1 hz2
 have hown2 : w1.ownsRow w.heap.size 5 1 (.slice (some ⟨w.heap.size, 0, none⟩) K K) K ((Qb K 0).map u8v) := by rw [<- zWy]; exact hown1
 have hb1 : Below w.heap.size w w1 := (Qe _ w).grown hgrow1 (Qa _) (fun k e => by cases e)
 have HO := hid hown2
 clear hown1 hgrow1 hown2
 go_loopw [17] (fun i wr => ∃ k : Nat, ∃ bs : List Nat, k <= len ∧ i = .int .i64 (k : Int) ∧ PackTo bs us N k ∧ wr.ownsRow w.heap.size 5 1 (.slice (some ⟨w.heap.size, 0, none⟩) K K) K (bs.map u8v) ∧ Below w.heap.size w wr) (fun i _ => len - (intOf i).toNat)
 case atStart => exact ⟨0, _, Ql _, rfl, zOp us N, by rw [<- HL.out, <- HK.out]; exact HO.out, hb1⟩
 case round =>
  obtain ⟨k, bs, hk, rfl, hpk, hown, hbel⟩ := hrel
  have HB := hid hbel
  have HP := hid hpk
  have HW := hid hown
  clear hbel hpk hown hb1 HO
  by_cases hlt : k < len
  ·obtain ⟨b, off, rfl, hcell⟩ := hc (by omega)
   have hx0 := hcell k hlt
   have hx := (HB.out.cell (p := ⟨b, off + k, none⟩) (World.block_lt_of_cell? _ _ hx0)).trans hx0
   have hx2 := h64 k
   obtain ⟨x, hxe⟩ : ∃ x, x = us.getD k 0 := ⟨_, rfl⟩
   rw [<- hxe] at hx hx2
   have HX := hid hxe
   have hmul : (k : Int) * (N : Int) = ((k * N : Nat) : Int) := by simp
   have hkN : k * N + N <= 8 * K := by
    have h1 : (k + 1) * N <= len * N := Qm _ hlt
    rw [Qn] at h1
    rw [Qc len N] at h1
    omega
   have hm0 : (0 : Int) <= (k : Int) * (N : Int) := by omega
   have hm1 : (k : Int) * (N : Int) <= 9223372036854775807 := by omega
   have HM := hid hmul
   have H64 := hid h64
   clear hxe hmul hx0 hc hcell h64
   go_wp2_with (go_at_call 123; rw [HM.out]; refine (zVo w.heap.size w.heap.size K K bs (k * N) N x _ HW.out (Qa _) HP.out.2.1 (fun q hq => zOq HP.out q (by rw [Qc]; exact hq)) hkN hN (by omega) hx2).mono ?_; rintro e w2 ⟨rfl, hown2, hgr2⟩; have HO2 := hid hown2; have HG2 := hid hgr2; clear hown2 hgr2)
   go_roundw
   case rel =>
    obtain ⟨bs', ho, hp⟩ := HO2.out
    have h3 := HX.out
    refine ⟨k + 1, bs', by omega, by go_num, zOr HP.out (by rw [Qc, <- h3]; exact hp), ho, ?_⟩
    exact HB.out.trans ((Qe _ _).grown HG2.out HB.out.size (fun j e => by cases e; exact Qa _))
   case measure => simp [intOf]; omega
  ·have hkl : k = len := by omega
   subst hkl
   go_wp2
   go_ret
   have hbs : bs = packB N us := zP2 (by have := HP.out; rwa [HL.out] at this)
   have hKl : K = ((packB N us).map u8v).length := by rw [Qf, zAw, <- HL.out]; exact HK.out
   refine ⟨some ⟨w.heap.size, 0, none⟩, K, ?_, ?_, HB.out⟩
   ·show Ending.returned (Value.slice (some ⟨w.heap.size, 0, none⟩) K K) = _
    rw [<- hKl]
   ·rw [<- hKl, <- hbs]; exact HW.out
theorem zGc (n count : Int) (ao : Option Addr) (len cap : Nat) (bs : List Nat) (w : World) (hr : Rd w (.slice ao len cap) (bs.map u8v))
  (h256 : ∀ i, bs.getD i 0 < 256) (hlen : len <= 17592186044416) (hn : unpackB bs n count = none) :
  Calls Tryz.prog 135 #[.slice ao len cap, .int .i64 n, .int .i64 count] w fun e w' => e = .returned (.tuple #[.slice none 0 0, .bool false]) ∧ ∃ k, w' = w.drewN k := by
 obtain ⟨hl0, _⟩ := zA8 hr
 have HL := hid hl0
 have HR := hid hr
 clear hl0 hr
 have hN := zHf n
 unfold unpackB at hn
 obtain ⟨N, hNe⟩ : ∃ N, N = heldN n := ⟨_, rfl⟩
 rw [<- hNe] at hN hn
 have HN := hid hNe
 clear hNe
 rw [<- HL.out] at hn
 by_cases h1 : 0 <= count
 ·obtain ⟨C, rfl⟩ := Int.eq_ofNat_of_zero_le h1
  rw [Qo] at hn
  by_cases h2 : C <= 65535
  ·have h2' : decide ((65535 : Int) < (C : Int)) = false := by simp; omega
   have h1' : decide ((C : Int) < 0) = false := by simp
   obtain ⟨K, hKe⟩ : ∃ K, K = (N * C + 7) / 8 := ⟨_, rfl⟩
   have hNC : N * C <= 64 * 65535 := Qd hN h2
   rw [<- hKe] at hn
   have HK := hid hKe
   have hm0 : (0 : Int) <= (N : Int) * (C : Int) := by
     have : ((N : Int) * (C : Int)) = ((N * C : Nat) : Int) := by simp
     omega
   have hm1 : (N : Int) * (C : Int) <= 4194240 := by
     have : ((N : Int) * (C : Int)) = ((N * C : Nat) : Int) := by simp
     omega
   have HM := hid (show (N : Int) * (C : Int) = ((N * C : Nat) : Int) by simp)
   by_cases h3 : len = K
   ·have hsp : spareB bs (N * C) = false := by
     cases hs : spareB bs (N * C)
     ·rfl
     ·rw [if_pos ⟨by omega, by omega, h3, hs⟩] at hn; cases hn
    have HS := hid hsp
    have hb : ((len : Int) != (K : Int)) = false := by simp [h3]
    have H3 := hid h3
    clear hsp hn hKe h3
    go_enter Tryz.func135, Tryz.ntmps135
    go_wp2_with (first
     | (go_at_call 121; refine (zEq _ _).mono ?_; rw [<- HN.out]; rintro e w' ⟨rfl, rfl⟩)
     | (go_at_call 122; refine (zHh N C _ hN (by omega)).mono ?_; rw [<- HK.out]; rintro e w' ⟨rfl, rfl⟩)
     | (go_at_call 176; rw [HM.out]; refine (zLx ao len cap bs (N * C) _ HR.out h256 (by rw [H3.out]; exact HK.out) (by omega)).mono ?_; rw [HS.out]; rintro e w' ⟨rfl, k, rfl⟩))
    go_ret2
    exact ⟨rfl, _, rfl⟩
   ·have hb : ((len : Int) != (K : Int)) = true := by rw [bne_iff_ne]; omega
    clear hn hKe h3
    go_enter Tryz.func135, Tryz.ntmps135
    go_wp2_with (first
     | (go_at_call 121; refine (zEq _ _).mono ?_; rw [<- HN.out]; rintro e w' ⟨rfl, rfl⟩)
     | (go_at_call 122; refine (zHh N C _ hN (by omega)).mono ?_; rw [<- HK.out]; rintro e w' ⟨rfl, rfl⟩))
    go_ret2
    exact ⟨rfl, 0, rfl⟩
  ·have h2' : decide ((65535 : Int) < (C : Int)) = true := by simp; omega
   have h1' : decide ((C : Int) < 0) = false := by simp
   clear hn
   go_enter Tryz.func135, Tryz.ntmps135
   go_wp2_with (first
    | (go_at_call 121; refine (zEq _ _).mono ?_; rw [<- HN.out]; rintro e w' ⟨rfl, rfl⟩))
   go_ret2
   exact ⟨rfl, 0, rfl⟩
 ·have h1' : decide (count < 0) = true := by simp; omega
  clear hn
  go_enter Tryz.func135, Tryz.ntmps135
  go_wp2_with (first
   | (go_at_call 121; refine (zEq _ _).mono ?_; rw [<- HN.out]; rintro e w' ⟨rfl, rfl⟩))
  go_ret2
  exact ⟨rfl, 0, rfl⟩
open Go.Lib (hid)
def unpackTo (bs : List Nat) (N C k : Nat) : List Nat := ((Qp k).map fun i => numB bs (i * N) N) ++ Qb (C - k) 0
theorem zMm (bs : List Nat) (N C k : Nat) (hk : k < C) : (unpackTo bs N C k).set k (numB bs (k * N) N) = unpackTo bs N C (k + 1) := by
 unfold unpackTo
 rw [List.set_append_right _ _ (by simp)]
 rw [List.range_succ, List.map_append]
 have e : C - k = (C - (k + 1)) + 1 := by omega
 rw [e, List.replicate_succ]
 simp
theorem zM4 (bs : List Nat) (N C : Nat) : unpackTo bs N C C = (Qp C).map fun i => numB bs (i * N) N := by
 unfold unpackTo; simp
theorem zGd (bs : List Nat) (N C k : Nat) (hk : k <= C) : (unpackTo bs N C k).length = C := by
 unfold unpackTo; simp; omega
theorem zFg (n : Int) (C : Nat) (ao : Option Addr) (len cap : Nat) (bs us : List Nat) (w : World) (hr : Rd w (.slice ao len cap) (bs.map u8v))
  (h256 : ∀ i, bs.getD i 0 < 256) (hlen : len <= 17592186044416) (hn : unpackB bs n (C : Int) = some us) :
  Calls Tryz.prog 135 #[.slice ao len cap, .int .i64 n, .int .i64 (C : Int)] w (RetOwn2 w.heap.size 105 (us.map u64v) true w) := by
 obtain ⟨hl0, _⟩ := zA8 hr
 have HL := hid hl0
 have HR := hid hr
 clear hl0 hr
 have hN := zHf n
 unfold unpackB at hn
 obtain ⟨N, hNe⟩ : ∃ N, N = heldN n := ⟨_, rfl⟩
 rw [<- hNe] at hN hn
 have HN := hid hNe
 clear hNe
 rw [<- HL.out, Qo] at hn
 by_cases hcond : 0 <= (C : Int) ∧ (C : Int) <= 65535 ∧ len = (N * C + 7) / 8 ∧ spareB bs (N * C) = true
 ·rw [if_pos hcond] at hn
  simp only [Option.some.injEq] at hn
  obtain ⟨_, h2, h3, hsp⟩ := hcond
  have h2n : C <= 65535 := by omega
  have HU := hid hn
  clear hn
  have h2' : decide ((65535 : Int) < (C : Int)) = false := by simp; omega
  have h1' : decide ((C : Int) < 0) = false := by simp
  obtain ⟨K, hKe⟩ : ∃ K, K = (N * C + 7) / 8 := ⟨_, rfl⟩
  have hNC : N * C <= 64 * 65535 := Qd hN h2n
  have hNCl : N * C <= 8 * len := by omega
  have HK := hid hKe
  rw [<- hKe] at h3
  have hm0 : (0 : Int) <= (N : Int) * (C : Int) := by
    have : ((N : Int) * (C : Int)) = ((N * C : Nat) : Int) := by simp
    omega
  have hm1 : (N : Int) * (C : Int) <= 4194240 := by
    have : ((N : Int) * (C : Int)) = ((N * C : Nat) : Int) := by simp
    omega
  have HM := hid (show (N : Int) * (C : Int) = ((N * C : Nat) : Int) by simp)
  have HS := hid hsp
  have hb : ((len : Int) != (K : Int)) = false := by simp [h3]
  have H3 := hid h3
  clear hsp hKe h3 h2
  obtain ⟨i0, hi, hz0, hz1, hz2⟩ := info_parts zRm
  go_enter Tryz.func135, Tryz.ntmps135
  go_wp2_with (first
   | (go_at_call 121; refine (zEq _ _).mono ?_; rw [<- HN.out]; rintro e w' ⟨rfl, rfl⟩)
   | (go_at_call 122; refine (zHh N C _ hN (by omega)).mono ?_; rw [<- HK.out]; rintro e w' ⟨rfl, rfl⟩)
   | (go_at_call 176; rw [HM.out]; refine (zLx ao len cap bs (N * C) _ HR.out h256 (by rw [H3.out]; exact HK.out) (by omega)).mono ?_; rw [HS.out]; rintro e w' ⟨rfl, k0, rfl⟩)
   | (at_make; refine wpList_make_full _ rfl _ _ 159 rfl w.heap.size 105 i0 (.int .u64 0) 1 Tryz.underlying159 hi hz0 hz1 .i64 .i64 _ _ C rfl rfl rfl rfl (by rw [hz2]; omega) (by unfold maxLen; omega) (Qa _) ?_; intro w1 hown1 hgrow1))
  clear hi hz0 hz1 hz2
  have hown2 : w1.ownsRow w.heap.size 105 1 (.slice (some ⟨w.heap.size, 0, none⟩) C C) C ((unpackTo bs N C 0).map u64v) := by
   have : unpackTo bs N C 0 = Qb C 0 := by simp [unpackTo]
   rw [this, <- zRn]; exact hown1
  have hb1 : Below w.heap.size w w1 := (zD9 w _ k0).grown hgrow1 (Qa _) (fun k e => by cases e)
  have HO := hid hown2
  have HB1 := hid hb1
  clear hown1 hgrow1 hown2 hb1
  go_loopw [38] (fun i wr => ∃ k : Nat, k <= C ∧ i = .int .i64 (k : Int) ∧ wr.ownsRow w.heap.size 105 1 (.slice (some ⟨w.heap.size, 0, none⟩) C C) C ((unpackTo bs N C k).map u64v) ∧ Below w.heap.size w wr) (fun i _ => C - (intOf i).toNat)
  case atStart => exact ⟨0, Ql _, rfl, HO.out, HB1.out⟩
  case round =>
   obtain ⟨k, hk, rfl, hown, hbel⟩ := hrel
   have HB := hid hbel
   have HW := hid hown
   clear hbel hown HO HB1
   by_cases hlt : k < C
   ·have hfz := HW.out.frozenAt k
    have hcx := HW.out.cellAt k (by omega)
    obtain ⟨y, hy⟩ : ∃ y, wr.cell? ⟨w.heap.size, k, none⟩ = some y := by
     rw [hcx, List.getElem?_eq_getElem (by rw [Qf, zGd _ _ _ _ hk]; exact hlt)]; exact ⟨_, rfl⟩
    have hmul : (k : Int) * (N : Int) = ((k * N : Nat) : Int) := by simp
    have hkN : k * N + N <= N * C := by
     have h1 : (k + 1) * N <= C * N := Qm _ hlt
     rw [Qn] at h1
     rw [Qc C N] at h1
     omega
    have hm2 : (0 : Int) <= (k : Int) * (N : Int) := by omega
    have hm3 : (k : Int) * (N : Int) <= 9223372036854775807 := by omega
    have HM2 := hid hmul
    clear hmul hcx
    have HRW := hid (HR.out.kept HB.out)
    go_wp2_with (go_at_call 177; rw [HM2.out]; refine (zWh ao len cap bs (k * N) N _ HRW.out h256 (by omega) hN (by omega)).mono ?_; rintro e w2 ⟨rfl, k2, rfl⟩)
    go_roundw
    case rel =>
     refine ⟨k + 1, by omega, by go_num, ?_, ?_⟩
     ·rw [<- zMm bs N C k hlt, List.map_set]
      exact (HW.out.stored k (u64v (numB bs (k * N) N))).1
     ·exact (HB.out.trans (zD9 _ _ k2)).trans ((Qe _ _).setCell (p := ⟨w.heap.size, k, none⟩) (Qa _) _)
    case measure => simp [intOf]; omega
   ·have hkl : k = C := by omega
    subst hkl
    go_wp2
    go_ret2
    have hus : unpackTo bs N k k = us := by rw [zM4]; exact HU.out
    have hKl : k = (us.map u64v).length := by rw [Qf, <- hus, zGd _ _ _ _ (Qa _)]
    refine ⟨some ⟨w.heap.size, 0, none⟩, k, ?_, ?_, HB.out⟩
    ·show Ending.returned (Value.tuple #[Value.slice (some ⟨w.heap.size, 0, none⟩) k k, Value.bool true]) = _
     rw [<- hKl]
    ·rw [<- hKl, <- hus]; exact HW.out
 ·rw [if_neg hcond] at hn; cases hn
end Go.Proofs.YtmpgnjhgegbdkaaGreat
namespace Go.Proofs
open Go.Shelf
def Tryz.lays129_ren : Go.Shelf.Ren := ⟨fun | 129 => 192 | n => n, fun | 53 => 105 | 3 => 3 | 4 => 4 | 46 => 32 | 5 => 5 | 9 => 9 | n => n, fun | n => n⟩
theorem Tryz.lays129 : Go.Proofs.Lays.n129 Tryz.prog Tryz.lays129_ren := {
 mixed := by kernel_rfl
 f129 := Tryz.func192.trans (congrArg some (by kernel_rfl))
 t3 := Tryz.underlying3
 a3 := Tryz.isAgg3
 z3 := Tryz.sizeOf3
 v3 := Tryz.zeroValue3
 t4 := Tryz.underlying4
 a4 := Tryz.isAgg4
 z4 := Tryz.sizeOf4
 v4 := Tryz.zeroValue4
 t5 := Tryz.underlying5
 a5 := Tryz.isAgg5
 z5 := Tryz.sizeOf5
 v5 := Tryz.zeroValue5
 t9 := Tryz.underlying9
 a9 := Tryz.isAgg9
 z9 := Tryz.sizeOf9
 v9 := Tryz.zeroValue9
 t46 := Tryz.underlying32
 a46 := Tryz.isAgg32
 z46 := Tryz.sizeOf32
 v46 := Tryz.zeroValue32
 t53 := Tryz.underlying105
 a53 := Tryz.isAgg105
 z53 := Tryz.sizeOf105
 v53 := Tryz.zeroValue105 }
theorem Tryz.bits_Len64 (x : Int) (w : World) (h0 : 0 <= x) (h1 : x <= 18446744073709551615) :
  Calls Tryz.prog 192 #[.int .u64 x] w fun e w' => e = .returned (.int .i64 (Lib.bitLen x.toNat)) ∧ w' = w := Any.bits_Len64 Tryz.lays129 x w h0 h1
end Go.Proofs
namespace Go.Proofs.YtmpgnjhgegbdkaaGreat
open Go.RowKit
open _root_.List renaming length_map -> Qa, length_cons -> Qb, getD_eq_getElem?_getD -> Qc, getElem?_eq_getElem -> Qd, getElem_mem -> Qe, getElem?_eq_none -> Qf, length_append -> Qg, mem_append -> Qh, mem_cons_of_mem -> Qi
theorem zH9 (u : Nat) (w : World) (hu : u < 18446744073709551616) :
  Calls Tryz.prog 159 #[.int .u64 u] w fun e w' => e = .returned (.int .i64 (Lib.bitLen u : Nat)) ∧ w = w' := by
 have h1 : (0 : Int) <= (u : Int) := by omega
 have h2 : (u : Int) <= 18446744073709551615 := by omega
 go_enter Tryz.func159, Tryz.ntmps159
 go_wp2_with (go_at_call 192; refine (Tryz.bits_Len64 _ _ h1 h2).mono ?_; rw [Int.toNat_natCast]; rintro e w' ⟨rfl, rfl⟩)
 go_ret
 exact ⟨rfl, rfl⟩
theorem zVf (l : List Nat) (h : ∀ x ∈ l, x < 256) (i : Nat) : l.getD i 0 < 256 := by
 rw [Qc]
 by_cases hi : i < l.length
 ·rw [Qd hi]; exact h _ (Qe hi)
 ·rw [Qf (by omega)]; decide
theorem lt64 (l : List Nat) (h : ∀ x ∈ l, x < 18446744073709551616) (i : Nat) : l.getD i 0 < 18446744073709551616 := by
 rw [Qc]
 by_cases hi : i < l.length
 ·rw [Qd hi]; exact h _ (Qe hi)
 ·rw [Qf (by omega)]; decide
theorem zTx {n : Int} {v : Value} {us bs : List Nat} {w : World} (hr : Rd w v (us.map u64v)) (h64 : ∀ x ∈ us, x < 18446744073709551616) (hl : us.length <= 17592186044416) (hb : packB (heldN n) us = bs) :
  Calls Tryz.prog 97 #[.int .i64 n, v] w (RetOwn w.heap.size 5 (bs.map u8v) w) := by
 have hr' := hr
 obtain ⟨ao, cap, rfl, _⟩ := hr
 rw [Qa] at hr' ⊢
 rw [<- hb]
 exact zHk n ao us.length cap us w hr' (lt64 us h64) hl
theorem zP5 {n c : Int} {v : Value} {us bs : List Nat} {w : World} (hr : Rd w v (bs.map u8v)) (h256 : ∀ x ∈ bs, x < 256) (hl : bs.length <= 17592186044416) (h0 : 0 <= c) (hb : unpackB bs n c = some us) :
  Calls Tryz.prog 135 #[v, .int .i64 n, .int .i64 c] w (RetOwn2 w.heap.size 105 (us.map u64v) true w) := by
 have hr' := hr
 obtain ⟨ao, cap, rfl, _⟩ := hr
 obtain ⟨C, rfl⟩ := Int.eq_ofNat_of_zero_le h0
 rw [Qa] at hr' ⊢
 exact zFg n C ao bs.length cap bs us w hr' (zVf bs h256) hl hb
theorem zMn {n c : Int} {v : Value} {bs : List Nat} {w : World} (hr : Rd w v (bs.map u8v)) (h256 : ∀ x ∈ bs, x < 256) (hl : bs.length <= 17592186044416) (hb : unpackB bs n c = none) :
  Calls Tryz.prog 135 #[v, .int .i64 n, .int .i64 c] w fun e w' => e = .returned (.tuple #[.slice none 0 0, .bool false]) ∧ Below w.heap.size w w' := by
 have hr' := hr
 obtain ⟨ao, cap, rfl, _⟩ := hr
 rw [Qa] at hr' ⊢
 exact (zGc n c ao bs.length cap bs w hr' (zVf bs h256) hl hb).mono fun e w' ⟨he, k, hk⟩ => ⟨he, by rw [hk]; exact zD9 _ _ k⟩
theorem zM5 {w w' : World} {v : Value} {xs : List Value} {r : Nat} (h : Rd w v xs) (hg : w.grownBy w' (some r)) (hne : v.ownBlock ≠ some r) : Rd w' v xs := by
 obtain ⟨ao, cap, hv, hcap, hc⟩ := h
 refine ⟨ao, cap, hv, hcap, fun hp => ?_⟩
 obtain ⟨b, off, ha, hcell⟩ := hc hp
 refine ⟨b, off, ha, fun i hi => ?_⟩
 refine hg.cell (hcell i hi) ?_
 rw [hv, ha] at hne
 exact hne
theorem zM6 (i : Nat) : 2 ^ (7 * (i + 1)) = 128 * 2 ^ (7 * i) := by rw [Nat.mul_add, Nat.pow_add]; omega
theorem zKo (u i : Nat) : u % 128 * 2 ^ (7 * i) + u / 128 * 2 ^ (7 * (i + 1)) = u * 2 ^ (7 * i) := by
 rw [zM6, <- Nat.mul_assoc, <- Nat.add_mul]
 congr 1
 omega
theorem zPk (u : Nat) (h : u * 2 ^ (7 * 9) < 18446744073709551616) : u <= 1 := by
 have e : (2 : Nat) ^ (7 * 9) = 9223372036854775808 := by decide +kernel
 rw [e] at h
 omega
theorem zLz : ∀ (f i U u : Nat) (rest : List Nat), i + f = 9 -> (i = 0 ∨ 0 < u) -> u * 2 ^ (7 * i) < 18446744073709551616 ->
  nextF i U (numF f u ++ rest) = some (U + u * 2 ^ (7 * i), i + (numF f u).length)
 | f, i, U, u, rest, hf, h0, hu => by
  by_cases hs : u < 128
  ·rw [zHg f u hs, List.singleton_append, nextF]
   have h9 : ¬(i = 9 ∧ 1 < u) := by
    rintro ⟨rfl, h1⟩
    have := zPk u hu
    omega
   rw [if_neg h9, if_neg (by omega), if_neg (by omega), Nat.mod_eq_of_lt hs]
   rfl
  ·cases f with
   | zero =>
    obtain rfl : i = 9 := by omega
    have := zPk u hu
    omega
   | succ g =>
    have hq : u / 128 * 2 ^ (7 * (i + 1)) < 18446744073709551616 := by
     have := zKo u i
     omega
    rw [zJx g u hs, List.cons_append, nextF, if_neg (by omega), if_pos (by omega)]
    have hm : (u % 128 + 128) % 128 = u % 128 := by omega
    rw [hm, zLz g (i + 1) _ (u / 128) rest (by omega) (.inr (by omega)) hq, Qb, Nat.add_assoc, zKo]
    congr 2
    omega
theorem zGe (u : Nat) (rest : List Nat) (hu : u < 18446744073709551616) : nextC (numC u ++ rest) = some (u, (numC u).length) := by
 unfold nextC numC
 rw [zLz 9 0 0 u rest rfl (.inl rfl) (by simpa using hu)]
 simp
def rowsC (raw : List Nat) : List Nat -> List Nat
 | [] => [7]
 | u :: r => numC u ++ (bytesC raw ++ rowsC raw r)
def rowsD (raw : List Nat) : List Nat -> List Nat
 | [] => []
 | u :: r => (numC u ++ bytesC raw) ++ rowsD raw r
theorem zL0 (raw : List Nat) : ∀ l : List Nat, rowsD raw l ++ [7] = rowsC raw l
 | [] => rfl
 | u :: l => by rw [rowsD, rowsC, <- zL0 raw l]; simp
theorem zFx (u : Nat) : (numC u).length <= 10 ∧ 0 < (numC u).length := zA4 9 u
theorem zL1 (raw : List Nat) : ∀ l : List Nat, (rowsD raw l).length <= l.length * (20 + raw.length)
 | [] => by simp [rowsD]
 | u :: l => by
  have := zL1 raw l
  have h1 := (zFx u).1
  have h2 := (zFx raw.length).1
  simp only [rowsD, bytesC, Qg, Qb, Nat.succ_mul]
  omega
theorem zM7 (raw : List Nat) (hr : ∀ x ∈ raw, x < 256) (hl : raw.length < 18446744073709551616) : ∀ l : List Nat, (∀ u ∈ l, u < 18446744073709551616) -> ∀ x ∈ rowsC raw l, x < 256
 | [], _, x, hx => by simp [rowsC] at hx; omega
 | u :: l, h, x, hx => by
  simp only [rowsC, bytesC, Qh] at hx
  rcases hx with hx | (hx | hx) | hx
  ·exact zCl u (h u List.mem_cons_self) x hx
  ·exact zCl _ hl x hx
  ·exact hr x hx
  ·exact zM7 raw hr hl l (fun v hv => h v (Qi _ hv)) x hx
theorem zRo (raw : List Nat) (l : List Nat) : (rowsC raw l).length <= l.length * (20 + raw.length) + 1 := by
 rw [<- zL0 raw l, Qg]
 have := zL1 raw l
 simp
 omega
theorem zRp (raw : List Nat) (hr : ∀ x ∈ raw, x < 256) (hl : raw.length < 18446744073709551616) : ∀ x ∈ bytesC raw, x < 256 := by
 intro x hx
 unfold bytesC at hx
 rw [Qh] at hx
 rcases hx with hx | hx
 ·exact zCl _ hl x hx
 ·exact hr x hx
structure RowsOk (raw l : List Nat) : Prop where
 raw100 : raw.length <= 100
 l20 : l.length <= 20
 raw256 : ∀ x ∈ raw, x < 256
 l64 : ∀ u ∈ l, u < 18446744073709551616
theorem RowsOk.tail {raw l : List Nat} {u : Nat} (h : RowsOk raw (u :: l)) : RowsOk raw l :=
 ⟨h.raw100, by have := h.l20; rw [Qb] at this; omega, h.raw256, fun v hv => h.l64 v (Qi _ hv)⟩
theorem RowsOk.len {raw l : List Nat} (h : RowsOk raw l) : (rowsC raw l).length <= 2401 := by
 have h1 := zRo raw l
 have h2 : l.length * (20 + raw.length) <= 20 * 120 := Nat.mul_le_mul h.l20 (by have := h.raw100; omega)
 omega
theorem RowsOk.lt {raw l : List Nat} (h : RowsOk raw l) : ∀ x ∈ rowsC raw l, x < 256 :=
 zM7 raw h.raw256 (by have := h.raw100; omega) l h.l64
end Go.Proofs.YtmpgnjhgegbdkaaGreat
