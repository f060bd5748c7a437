/-
  Contract of bitp.put: a row of the caller's own has n bits of u more.
-/
import Derived.Test.YtjcmekhamohbnaaGet
import Derived.Test.YtjcmekhamohbnaaPlmath
import Derived.Test.YtjcmekhamohbnaaLone
import Derived.StillTailTactics
import Derived.BigRegion
import Derived.RegionTactic
namespace Go.Proofs.Ytjcmekhamohbnaa
set_option linter.unusedVariables false
open Go.RowKit

set_option maxHeartbeats 1000000 in
theorem put_any (base g L cap : Nat) (bs : List Nat) (p0 n0 u : Nat) (w : World) (hown : w.ownsRow base 5 1 (.slice (some ⟨g, 0, none⟩) L cap) L (bs.map u8v)) (hbg : base ≤ g)
    (h256 : ∀ i, bs.getD i 0 < 256) (h0 : ∀ q, p0 ≤ q → bitB bs q = false) (hfit : p0 + n0 ≤ 8 * L) (hn : n0 ≤ 64) (hL : L ≤ 1125899906842624) (hu : u < 18446744073709551616) :
    Calls Try.prog 71 #[.slice (some ⟨g, 0, none⟩) L cap, .int .i64 p0, .int .i64 n0, .int .u64 u] w fun e w' =>
      e = .returned (.tuple #[]) ∧ (∃ bs', w'.ownsRow base 5 1 (.slice (some ⟨g, 0, none⟩) L cap) L (bs'.map u8v) ∧ PutTo bs bs' p0 n0 u n0) ∧ w.grownBy w' (some g) := by
  have hbl : bs.length = L := by have := hown.1; simpa using this
  go_enter Try.func71, Try.ntmps71
  go_wp2
  go_loopw [1, 2] (fun p n wr => ∃ P R m : Nat, ∃ bs' : List Nat, m ≤ n0 ∧ P = p0 + m ∧ R = n0 - m ∧ p = .int .i64 (P : Int) ∧ n = .int .i64 (R : Int) ∧ PutTo bs bs' p0 n0 u m ∧ wr.ownsRow base 5 1 (.slice (some ⟨g, 0, none⟩) L cap) L (bs'.map u8v) ∧ w.grownBy wr (some g)) (fun _ n _ => (intOf n).toNat)
  case atStart => exact ⟨_, _, 0, bs, Nat.zero_le _, rfl, rfl, rfl, rfl, putTo_zero h256 h0, hown, World.grownBy.refl _ _⟩
  case round =>
    obtain ⟨P, R, m, bs', hm, hP, hR, rfl, rfl, hput, hown', hgr⟩ := hrel
    have hPl : P + R ≤ 8 * L := by omega
    have hRl : R ≤ 64 := by omega
    have HP := Lib.hid hP
    have HR := Lib.hid hR
    have HB := Lib.hid hbl
    have HPut := Lib.hid hput
    clear hP hR hbl
    have hl' := hput.1
    by_cases hlt : 0 < R
    · have hx := hown'.cellAt (P / 8) (by omega)
      have hfz := hown'.frozenAt (P / 8)
      have hx2 := hput.2.1 (P / 8)
      obtain ⟨x, hxe⟩ : ∃ x, x = bs'.getD (P / 8) 0 := ⟨_, rfl⟩
      have hx' : wr.cell? ⟨g, P / 8, none⟩ = some (.int .u8 x) := by
        rw [hx, List.getElem?_map, hxe, List.getD_eq_getElem?_getD]
        have : P / 8 < bs'.length := by rw [hl', HB.out]; omega
        rw [List.getElem?_eq_getElem this]; rfl
      rw [← hxe] at hx2
      have HX := Lib.hid hxe
      have HO := Lib.hid hown'
      have HG := Lib.hid hgr
      have HL' := Lib.hid hl'
      clear hxe hx hput hown' hgr hown h0 h256 hl'
      have hj : P / 8 < L := by omega
      by_cases ht : 8 - P % 8 ≤ R
      · go_wp2
        go_quiet (fail)
        go_wp2
        go_region
        go_wp2
        go_roundw
        case rel =>
          have h1 := HP.out; have h2 := HR.out; have h3 := HB.out; have h5 := HL'.out
          have hv := put_val0 x u (R - (8 - P % 8)) (8 - P % 8) hx2 (by omega)
          have hst := HO.out.stored (P / 8) (u8v (x ||| u / 2 ^ (R - (8 - P % 8)) % 2 ^ (8 - P % 8) * 2 ^ 0))
          have hps := putTo_step (t := 8 - P % 8) HPut.out (by omega) (by omega) (by omega) (by omega)
          rw [← h1, ← HX.out, show n0 - m = R from h2.symm, Nat.sub_self] at hps
          refine ⟨P + (8 - P % 8), R - (8 - P % 8), m + (8 - P % 8), _, by omega, by omega, by omega, by go_num, by go_num, hps, ?_, ?_⟩
          · rw [hv, List.map_set]; exact hst.1
          · rw [hv]; exact grown_trans HG.out (grown_trans (grown_drewN _ _ (nq + 1)) (grown_setCell _ _ _))
        case measure => simp [intOf]; omega
      · go_wp2
        go_quiet (fail)
        go_wp2
        go_region
        go_wp2
        go_roundw
        case rel =>
          have h1 := HP.out; have h2 := HR.out; have h3 := HB.out; have h5 := HL'.out
          have hv := put_val x u 0 R (8 - P % 8 - R) hx2 (by omega)
          have hst := HO.out.stored (P / 8) (u8v (x ||| u / 2 ^ 0 % 2 ^ R * 2 ^ (8 - P % 8 - R)))
          have hps := putTo_step (t := R) HPut.out (by omega) (by omega) (by omega) (by omega)
          rw [← h1, ← HX.out, show n0 - m = R from h2.symm, Nat.sub_self] at hps
          rw [Int.pow_zero, Int.ediv_one] at hv
          refine ⟨P + R, 0, m + R, _, by omega, by omega, by omega, by go_num, rfl, hps, ?_, ?_⟩
          · rw [hv, List.map_set]; exact hst.1
          · rw [hv]; exact grown_trans HG.out (grown_trans (grown_drewN _ _ (nq + 1)) (grown_setCell _ _ _))
        case measure => simp [intOf]; omega
    · go_wp2
      go_end0
      have h2 := HR.out
      have hmn : m = n0 := by omega
      subst hmn
      exact ⟨rfl, ⟨bs', hown', HPut.out⟩, hgr⟩

end Go.Proofs.Ytjcmekhamohbnaa
