import Derived.Test.YtmpgnjhgegbdkaaGreatRows
import Derived.Test.YtmpgnjhgegbdkaaGreatPlmath
import Derived.WalkKit
import Derived.WalkSpells
import Derived.WalkLawsBesides
import Derived.BigQuiet
import Derived.IntWalk
import Derived.Lib.Hide
import Derived.Test.YtmpgnjhgegbdkaaGreatLone
import Derived.StillTailTactics
import Derived.BigRegion
import Derived.RegionTactic
set_option linter.unusedVariables false
set_option maxHeartbeats 1000000
open Go.Lib (hid)
namespace Go.Proofs.YtmpgnjhgegbdkaaGreat
open Go.RowKit
open _root_.List renaming getD_eq_getElem?_getD -> Qa, getElem?_map -> Qc, getElem?_eq_getElem -> Qd, map_set -> Qf, length_map -> Qg
open _root_.Nat renaming sub_self -> Qb, zero_le -> Qe, mul_comm -> Qh
theorem zI1 {k : IntKind} {a b : Int} (h : a = b) : Ending.returned (.int k a) = Ending.returned (.int k b) := by rw [h]
theorem zDq (n : Int) (w : World) :
  Calls Tryz.prog 121 #[.int .i64 n] w fun e w' => e = .returned (.int .i64 (heldN n)) ∧ w = w' := by
 go_enter Tryz.func121, Tryz.ntmps121
 go_wp2
 all_goals
  go_ret
  exact ⟨zI1 (by unfold heldN; omega), rfl⟩
theorem zF5 (n c : Nat) (w : World) (h1 : n <= 64) (h2 : c <= 17592186044416) :
  Calls Tryz.prog 122 #[.int .i64 n, .int .i64 c] w fun e w' => e = .returned (.int .i64 ((n * c + 7) / 8 : Nat)) ∧ w = w' := by
 have h3 : (0 : Int) <= (n : Int) * (c : Int) := by
   have : ((n : Int) * (c : Int)) = ((n * c : Nat) : Int) := by simp
   omega
 have h4 : (n : Int) * (c : Int) <= 1125899906842624 := by
  have : n * c <= 64 * 17592186044416 := Nat.mul_le_mul h1 h2
  have e : ((n : Int) * (c : Int)) = ((n * c : Nat) : Int) := by simp
  omega
 go_enter Tryz.func122, Tryz.ntmps122
 go_wp2
 go_ret
 exact ⟨by simp, rfl⟩
theorem zR1 (b off len cap : Nat) (bs : List Nat) (p0 n0 : Nat) (w : World) (hc : ∀ i, i < len -> w.cell? ⟨b, off + i, none⟩ = some (.int .u8 (bs.getD i 0 : Nat)))
  (h256 : ∀ i, bs.getD i 0 < 256) (hfit : p0 + n0 <= 8 * len) (hn : n0 <= 64) (hlen : len <= 1125899906842624) :
  Calls Tryz.prog 177 #[.slice (some ⟨b, off, none⟩) len cap, .int .i64 p0, .int .i64 n0] w fun e w' => e = .returned (.int .u64 (numB bs p0 n0 : Nat)) ∧ ∃ k, w' = w.drewN k := by
 go_enter Tryz.func177, Tryz.ntmps177
 go_wp2
 go_loopw [1, 2, 7] (fun p n u wr => ∃ P R U : Nat, ∃ m : Nat, m <= n0 ∧ P = p0 + m ∧ R = n0 - m ∧ U = numB bs p0 m ∧ p = .int .i64 (P : Int) ∧ n = .int .i64 (R : Int) ∧ u = .int .u64 (U : Int) ∧ ∃ k, wr = w.drewN k) (fun _ n _ _ => (intOf n).toNat)
 case atStart => exact ⟨_, _, _, 0, Qe _, rfl, rfl, rfl, rfl, rfl, rfl, 0, rfl⟩
 case round =>
  obtain ⟨P, R, U, m, hm, hP, hR, hU, rfl, rfl, rfl, k, rfl⟩ := hrel
  have hPl : P + R <= 8 * len := by omega
  have hRl : R <= 64 := by omega
  have HP := hid hP
  have HR := hid hR
  have HU := hid hU
  clear hP hR hU
  by_cases hlt : 0 < R
  ·have hx := hc (P / 8) (by omega)
   have hx2 := h256 (P / 8)
   obtain ⟨x, hxe⟩ : ∃ x, x = bs.getD (P / 8) 0 := ⟨_, rfl⟩
   rw [<- hxe] at hx hx2
   have HX := hid hxe
   clear hxe hc h256
   have hj : P / 8 < len := by omega
   by_cases ht : 8 - P % 8 <= R
   ·go_wp2
    go_quiet (fail)
    go_wp2
    go_roundw
    case rel =>
     have h1 := HP.out; have h2 := HR.out; have h3 := HU.out
     have hb : U < 2 ^ m := by rw [h3]; exact zIz _ _ _
     have hs := zKm U x 0 (8 - P % 8) m hb (by omega) (by omega) hx2
     have hn := zJf bs p0 m (8 - P % 8) (by omega)
     rw [<- h1, <- h3, <- HX.out, Qb] at hn
     refine ⟨P + (8 - P % 8), R - (8 - P % 8), _, m + (8 - P % 8), by omega, by omega, by omega, rfl, by go_num, by go_num, ?_, _, rfl⟩
     rw [hn, <- hs]; simp
    case measure => simp [intOf]; omega
   ·go_wp2
    go_quiet (fail)
    go_wp2
    go_roundw
    case rel =>
     have h1 := HP.out; have h2 := HR.out; have h3 := HU.out
     have hb : U < 2 ^ m := by rw [h3]; exact zIz _ _ _
     have hs := zKm U x (8 - P % 8 - R) R m hb (by omega) (by omega) hx2
     have hn := zJf bs p0 m R (by omega)
     rw [<- h1, <- h3, <- HX.out] at hn
     refine ⟨P + R, 0, _, m + R, by omega, by omega, by omega, rfl, by go_num, rfl, ?_, _, rfl⟩
     rw [hn, <- hs]
    case measure => simp [intOf]; omega
  ·go_wp2
   go_ret
   refine ⟨zI1 ?_, k, rfl⟩
   have h2 := HR.out; have h3 := HU.out
   rw [h3, show m = n0 from by omega]
open Go.Lib (hid)
theorem zR2 (base g L cap : Nat) (bs : List Nat) (p0 n0 u : Nat) (w : World) (hown : w.ownsRow base 5 1 (.slice (some ⟨g, 0, none⟩) L cap) L (bs.map u8v)) (hbg : base <= g)
  (h256 : ∀ i, bs.getD i 0 < 256) (h0 : ∀ q, p0 <= q -> bitB bs q = false) (hfit : p0 + n0 <= 8 * L) (hn : n0 <= 64) (hL : L <= 1125899906842624) (hu : u < 18446744073709551616) :
  Calls Tryz.prog 123 #[.slice (some ⟨g, 0, none⟩) L cap, .int .i64 p0, .int .i64 n0, .int .u64 u] w fun e w' =>
   e = .returned (.tuple #[]) ∧ (∃ bs', w'.ownsRow base 5 1 (.slice (some ⟨g, 0, none⟩) L cap) L (bs'.map u8v) ∧ PutTo bs bs' p0 n0 u n0) ∧ w.grownBy w' (some g) := by
 have hbl : bs.length = L := by have := hown.1; simpa using this
 go_enter Tryz.func123, Tryz.ntmps123
 go_wp2
 go_loopw [1, 2] (fun p n wr => ∃ P R m : Nat, ∃ bs' : List Nat, m <= n0 ∧ P = p0 + m ∧ R = n0 - m ∧ p = .int .i64 (P : Int) ∧ n = .int .i64 (R : Int) ∧ PutTo bs bs' p0 n0 u m ∧ wr.ownsRow base 5 1 (.slice (some ⟨g, 0, none⟩) L cap) L (bs'.map u8v) ∧ w.grownBy wr (some g)) (fun _ n _ => (intOf n).toNat)
 case atStart => exact ⟨_, _, 0, bs, Qe _, rfl, rfl, rfl, rfl, zNf h256 h0, hown, World.grownBy.refl _ _⟩
 case round =>
  obtain ⟨P, R, m, bs', hm, hP, hR, rfl, rfl, hput, hown', hgr⟩ := hrel
  have hPl : P + R <= 8 * L := by omega
  have hRl : R <= 64 := by omega
  have HP := hid hP
  have HR := hid hR
  have HB := hid hbl
  have HPut := hid hput
  clear hP hR hbl
  have hl' := hput.1
  by_cases hlt : 0 < R
  ·have hx := hown'.cellAt (P / 8) (by omega)
   have hfz := hown'.frozenAt (P / 8)
   have hx2 := hput.2.1 (P / 8)
   obtain ⟨x, hxe⟩ : ∃ x, x = bs'.getD (P / 8) 0 := ⟨_, rfl⟩
   have hx' : wr.cell? ⟨g, P / 8, none⟩ = some (.int .u8 x) := by
    rw [hx, Qc, hxe, Qa]
    have : P / 8 < bs'.length := by rw [hl', HB.out]; omega
    rw [Qd this]; rfl
   rw [<- hxe] at hx2
   have HX := hid hxe
   have HO := hid hown'
   have HG := hid hgr
   have HL' := hid hl'
   clear hxe hx hput hown' hgr hown h0 h256 hl'
   have hj : P / 8 < L := by omega
   by_cases ht : 8 - P % 8 <= R
   ·go_wp2
    go_quiet (fail)
    go_wp2
    go_region
    go_wp2
    go_roundw
    case rel =>
     have h1 := HP.out; have h2 := HR.out; have h3 := HB.out; have h5 := HL'.out
     have hv := zQk x u (R - (8 - P % 8)) (8 - P % 8) hx2 (by omega)
     have hst := HO.out.stored (P / 8) (u8v (x ||| u / 2 ^ (R - (8 - P % 8)) % 2 ^ (8 - P % 8) * 2 ^ 0))
     have hps := zIj (t := 8 - P % 8) HPut.out (by omega) (by omega) (by omega) (by omega)
     rw [<- h1, <- HX.out, show n0 - m = R from h2.symm, Qb] at hps
     refine ⟨P + (8 - P % 8), R - (8 - P % 8), m + (8 - P % 8), _, by omega, by omega, by omega, by go_num, by go_num, hps, ?_, ?_⟩
     ·rw [hv, Qf]; exact hst.1
     ·rw [hv]; exact zAc HG.out (zAc (zA2 _ _ (nq + 1)) (zAi _ _ _))
    case measure => simp [intOf]; omega
   ·go_wp2
    go_quiet (fail)
    go_wp2
    go_region
    go_wp2
    go_roundw
    case rel =>
     have h1 := HP.out; have h2 := HR.out; have h3 := HB.out; have h5 := HL'.out
     have hv := zMz x u 0 R (8 - P % 8 - R) hx2 (by omega)
     have hst := HO.out.stored (P / 8) (u8v (x ||| u / 2 ^ 0 % 2 ^ R * 2 ^ (8 - P % 8 - R)))
     have hps := zIj (t := R) HPut.out (by omega) (by omega) (by omega) (by omega)
     rw [<- h1, <- HX.out, show n0 - m = R from h2.symm, Qb] at hps
     rw [Int.pow_zero, Int.ediv_one] at hv
     refine ⟨P + R, 0, m + R, _, by omega, by omega, by omega, by go_num, rfl, hps, ?_, ?_⟩
     ·rw [hv, Qf]; exact hst.1
     ·rw [hv]; exact zAc HG.out (zAc (zA2 _ _ (nq + 1)) (zAi _ _ _))
    case measure => simp [intOf]; omega
  ·go_wp2
   go_end0
   have h2 := HR.out
   have hmn : m = n0 := by omega
   subst hmn
   exact ⟨rfl, ⟨bs', hown', HPut.out⟩, hgr⟩
theorem zHl : (Tryz.prog.info? 5).map (fun i => (i.zero, i.size, i.bytes)) = some (some (.int .u8 0), 1, 1) := by kernel_rfl
theorem zOz : (Tryz.prog.info? 105).map (fun i => (i.zero, i.size, i.bytes)) = some (some (.int .u64 0), 1, 8) := by kernel_rfl
theorem zNj {a b : Bool} (h : a = b) : Ending.returned (.bool a) = Ending.returned (.bool b) := by rw [h]
theorem zA0 {w : World} {ao : Option Addr} {len cap : Nat} {bs : List Nat} (h : Rd w (.slice ao len cap) (bs.map u8v)) :
  len = bs.length ∧ (0 < len -> ∃ b off, ao = some ⟨b, off, none⟩ ∧ ∀ i, i < len -> w.cell? ⟨b, off + i, none⟩ = some (.int .u8 (bs.getD i 0 : Nat))) := by
 obtain ⟨ao', cap', hv, _, hc⟩ := h
 simp only [Qg, Value.slice.injEq] at hv hc
 obtain ⟨rfl, hl, rfl⟩ := hv
 refine ⟨hl, fun hp => ?_⟩
 obtain ⟨b, off, ha, hcell⟩ := hc (by omega)
 refine ⟨b, off, ha, fun i hi => ?_⟩
 have := hcell i (by omega)
 rw [this, Qa, Qc, Qa, Qd (show i < bs.length by omega)]
 rfl
theorem zBq {w : World} {ao : Option Addr} {len cap : Nat} {us : List Nat} (h : Rd w (.slice ao len cap) (us.map u64v)) :
  len = us.length ∧ (0 < len -> ∃ b off, ao = some ⟨b, off, none⟩ ∧ ∀ i, i < len -> w.cell? ⟨b, off + i, none⟩ = some (.int .u64 (us.getD i 0 : Nat))) := by
 obtain ⟨ao', cap', hv, _, hc⟩ := h
 simp only [Qg, Value.slice.injEq] at hv hc
 obtain ⟨rfl, hl, rfl⟩ := hv
 refine ⟨hl, fun hp => ?_⟩
 obtain ⟨b, off, ha, hcell⟩ := hc (by omega)
 refine ⟨b, off, ha, fun i hi => ?_⟩
 have := hcell i (by omega)
 rw [this, Qa, Qc, Qa, Qd (show i < us.length by omega)]
 rfl
theorem zSs (ao : Option Addr) (len cap : Nat) (bs : List Nat) (p0 n0 : Nat) (w : World) (hr : Rd w (.slice ao len cap) (bs.map u8v))
  (h256 : ∀ i, bs.getD i 0 < 256) (hfit : p0 + n0 <= 8 * len) (hn : n0 <= 64) (hlen : len <= 1125899906842624) :
  Calls Tryz.prog 177 #[.slice ao len cap, .int .i64 p0, .int .i64 n0] w fun e w' => e = .returned (.int .u64 (numB bs p0 n0 : Nat)) ∧ ∃ k, w' = w.drewN k := by
 obtain ⟨hl, hc⟩ := zA0 hr
 by_cases h0 : n0 = 0
 ·subst h0
  clear hr hl hc
  go_enter Tryz.func177, Tryz.ntmps177
  go_wp2
  go_loop [1, 2, 7] (fun p n u => p = .int .i64 (p0 : Int) ∧ n = .int .i64 (0 : Int) ∧ u = .int .u64 (0 : Int)) (fun _ _ _ => 0)
  case atStart => exact ⟨rfl, rfl, rfl⟩
  case round =>
   obtain ⟨rfl, rfl, rfl⟩ := hrel
   go_wp2
   go_ret
   exact ⟨zI1 (by simp [numB]), 0, rfl⟩
 ·obtain ⟨b, off, rfl, hcell⟩ := hc (by omega)
  exact zR1 b off len cap bs p0 n0 w hcell h256 hfit hn hlen
theorem zJg (ao : Option Addr) (len cap : Nat) (bs : List Nat) (c : Nat) (w : World) (hr : Rd w (.slice ao len cap) (bs.map u8v))
  (h256 : ∀ i, bs.getD i 0 < 256) (hc1 : len = (c + 7) / 8) (hlen : len <= 1125899906842624) :
  Calls Tryz.prog 176 #[.slice ao len cap, .int .i64 c] w fun e w' => e = .returned (.bool (spareB bs c)) ∧ ∃ k, w' = w.drewN k := by
 obtain ⟨hl, hc⟩ := zA0 hr
 have hs1 : 8 * len - c < 8 := by omega
 have hs2 : c <= 8 * len := by omega
 by_cases h0 : 8 * len - c = 0
 ·have hsp : spareB bs c = true := by unfold spareB; rw [<- hl, h0]; simp [Nat.mod_one]
  have hz : (((len : Int) * 8 - (c : Int)) == 0) = true := by rw [beq_iff_eq]; omega
  rw [hsp]
  clear hr hl hc hsp hc1 h256
  go_enter Tryz.func176, Tryz.ntmps176
  go_wp2
  go_quiet (fail)
  go_wp2
  go_ret
  exact ⟨rfl, _, rfl⟩
 ·obtain ⟨b, off, rfl, hcell⟩ := hc (by omega)
  have hx := hcell (len - 1) (by omega)
  have hx2 := h256 (len - 1)
  obtain ⟨x, hxe⟩ : ∃ x, x = bs.getD (len - 1) 0 := ⟨_, rfl⟩
  rw [<- hxe] at hx hx2
  have hsp : spareB bs c = (x % 2 ^ (8 * len - c) == 0) := by unfold spareB; rw [<- hl, <- hxe]
  have hlow := zKl x (8 * len - c) (by omega) hx2
  have hz : (((len : Int) * 8 - (c : Int)) == 0) = false := by rw [beq_eq_false_iff_ne]; omega
  obtain ⟨s, hse⟩ : ∃ s, s = 8 * len - c := ⟨_, rfl⟩
  rw [<- hse] at hsp hlow
  have HS := hid hse
  have HSP := hid hsp
  have HLO := hid hlow
  rw [hsp]
  clear hr hl hc hsp hc1 h256 hcell hxe hse hlow
  go_enter Tryz.func176, Tryz.ntmps176
  go_wp2
  go_quiet (fail)
  go_wp2
  go_ret
  refine ⟨zNj ?_, _, rfl⟩
  have h1 := HLO.out
  rw [HS.out, Qh 8 len] at h1
  rw [h1, HS.out, Qh 8 len, Bool.eq_iff_iff, beq_iff_eq, beq_iff_eq]
  omega
theorem zH0 {a b c d : Value} (h1 : a = b) (h2 : c = d) : Ending.returned (.tuple #[a, c]) = Ending.returned (.tuple #[b, d]) := by rw [h1, h2]
end Go.Proofs.YtmpgnjhgegbdkaaGreat
