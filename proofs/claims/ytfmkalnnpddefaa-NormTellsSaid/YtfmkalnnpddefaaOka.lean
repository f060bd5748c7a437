/-
  Contract of the reference's deep.
-/
import Derived.Test.YtfmkalnnpddefaaSpm
namespace Go.Proofs.Ytfmkalnnpddefaa
set_option linter.unusedVariables false
set_option linter.unusedSimpArgs false
open Go.RowKit

set_option maxRecDepth 100000 in
set_option maxHeartbeats 8000000 in
theorem deep_any : ∀ (t : Nat), t ≤ 10 → ∀ (p : Pt) (cs : List Value) (w : World), RdT1 w p cs →
    Calls Try.prog 66 #[.agg cs.toArray, .int .i64 (t : Int)] w fun e w' => ∃ a b : Int, e = .returned (.tuple #[.int .i64 a, .int .i64 b]) ∧ (1 ≤ a ∧ a ≤ (t : Int) + 1 ∧ 1 ≤ b ∧ b ≤ 65) ∧ Below w.heap.size w w' := by
  intro t
  induction t with
  | zero =>
    intro _ p cs w hr
    obtain ⟨k, c, o, vk, vn, u, a, n, m, a2, n2, m2, rfl⟩ := rdT1_shape hr
    have HB := Lib.hid (below_alloc w (.cells #[.int .i64 k, .int .i64 c, .int .i64 o, .bool u, .int .i64 vk, .int .i64 vn, .slice a n m, .slice a2 n2 m2] 31))
    clear hr
    go_enter Try.func66, Try.ntmps66
    go_wp2_with fail
    go_ret2
    exact ⟨1, 1, rfl, by omega, HB.out⟩
  | succ t ih =>
    intro ht p cs w hr
    have HIH := Lib.hid (ih (by omega))
    clear ih
    obtain ⟨k, c, o, v, l⟩ := p
    unfold RdT1 at hr
    obtain ⟨s, ls, css, rfl, hok, hls, hts⟩ := hr
    obtain ⟨sa, sc, hes⟩ := rd_shape8 hok.1
    obtain ⟨ea, ec, hel⟩ := rdS_shape hls
    simp only at hes
    subst hes hel
    have hcl := rdTs_len hts
    obtain ⟨n, hN⟩ : ∃ n, n = l.length := ⟨_, rfl⟩
    rw [hcl, ← hN] at hls ⊢
    have HN := Lib.hid hN
    have HLS := Lib.hid hls
    have HTS := Lib.hid hts
    obtain ⟨vu, vk, vn, vb⟩ := v
    unfold cellsP
    simp only
    have HB0 := Lib.hid (below_alloc w (.cells #[.int .i64 k, .int .i64 c, .int .i64 o, .bool vu, .int .i64 vk, .int .i64 vn, .slice sa vb.length sc, .slice ea n ec] 31))
    have HX0 := Lib.hid (heap_alloc_new w (.cells #[.int .i64 k, .int .i64 c, .int .i64 o, .bool vu, .int .i64 vk, .int .i64 vn, .slice sa vb.length sc, .slice ea n ec] 31))
    clear hcl hN hls hts hok
    have hcast : (((t + 1 : Nat)) : Int) = (t : Int) + 1 := by omega
    rw [hcast]
    have hT0 : ((t : Int) + 1 == 0) = false := by rw [beq_eq_false_iff_ne]; omega
    have hT1 : ¬ ((t : Int) + 1 = 0) := by omega
    have hT2 : (t : Int) + 1 - 1 = (t : Int) := by omega
    have hti : (t : Int) ≤ 10 := by omega
    clear hcast
    go_enter Try.func66, Try.ntmps66
    go_upto_region 1 with (fail)
    obtain ⟨W, hW⟩ : ∃ W : World, W = w.alloc (.cells #[.int .i64 k, .int .i64 c, .int .i64 o, .bool vu, .int .i64 vk, .int .i64 vn, .slice sa vb.length sc, .slice ea n ec] 31) := ⟨_, rfl⟩
    rw [← hW]
    rw [← hW] at HB0 HX0
    obtain ⟨PB, hPB⟩ : ∃ PB, PB = w.heap.size := ⟨_, rfl⟩
    rw [← hPB] at HX0 ⊢
    clear hW hPB
    go_wp2_with fail
    go_loopw [6, 7, 8] (fun m cc i wr => ∃ (q : Nat) (mx cx : Int), q ≤ n ∧ i = .int .i64 (q : Int) ∧ m = .int .i64 mx ∧ cc = .int .i64 cx ∧ 0 ≤ mx ∧ mx ≤ (t : Int) + 1 ∧ (q : Int) + 1 ≤ cx ∧ cx ≤ 129 ∧ Below W.heap.size W wr) (fun _ _ i _ => n - (intOf i).toNat)
    case atStart => exact ⟨0, 0, 1, Nat.zero_le _, rfl, rfl, rfl, by omega, by omega, by omega, by omega, Below.refl _ _⟩
    case round =>
      obtain ⟨q, mx, cx, hq, rfl, rfl, rfl, hm0, hm1, hc0, hc1, hb⟩ := hrel
      have HB := Lib.hid hb
      have hx := (hb.block PB (Array.getElem?_eq_some_iff.1 HX0.out).1).trans HX0.out
      have c7 : wr.cell? ⟨PB, 7, none⟩ = some (.slice ea n ec) := by rw [cell_of_row wr PB 7 _ _ _ hx]; rfl
      have HBW := Lib.hid (below_then HB0.out hb)
      clear hb hx
      by_cases hlt : q < n
      · have hd1 : decide ((q : Int) < (n : Int)) = true := by rw [decide_eq_true_eq]; omega
        have hd1n : decide (q < n) = true := by rw [decide_eq_true_eq]; omega
        have hd1i : (q : Int) < (n : Int) := by omega
        have hl0 : (0 : Int) ≤ (q : Int) := by omega
        by_cases hc : cx ≤ 64
        · have hd2 : decide (cx ≤ 64) = true := by rw [decide_eq_true_eq]; exact hc
          obtain ⟨p, hp⟩ : ∃ p, l[q]? = some p := ⟨_, List.getElem?_eq_getElem (by have := HN.out; omega)⟩
          obtain ⟨cs, hcs, hrd⟩ := rdTs_at HTS.out hp
          have hw := HBW.out
          have hat := (HLS.out.kept hw).at hcs
          have hrd2 := RdT1.kept hw _ hrd
          obtain ⟨pk, pc, po, pvk, pvn, pu, psa, psn, psc, pea, pen, pec, rfl⟩ := rdT1_shape hrd
          obtain ⟨b1, f1, rfl, hcell⟩ := hat
          have m0 : wr.cell? ⟨b1, f1 + q * 8, none⟩ = some (.int .i64 pk) := hcell 0 _ rfl
          have m1 : wr.cell? ⟨b1, f1 + q * 8 + 1, none⟩ = some (.int .i64 pc) := hcell 1 _ rfl
          have m2 : wr.cell? ⟨b1, f1 + q * 8 + 2, none⟩ = some (.int .i64 po) := hcell 2 _ rfl
          have m3 : wr.cell? ⟨b1, f1 + q * 8 + 3, none⟩ = some (.bool pu) := hcell 3 _ rfl
          have m4 : wr.cell? ⟨b1, f1 + q * 8 + 4, none⟩ = some (.int .i64 pvk) := hcell 4 _ rfl
          have m5 : wr.cell? ⟨b1, f1 + q * 8 + 5, none⟩ = some (.int .i64 pvn) := hcell 5 _ rfl
          have m6 : wr.cell? ⟨b1, f1 + q * 8 + 6, none⟩ = some (.slice psa psn psc) := hcell 6 _ rfl
          have m7 : wr.cell? ⟨b1, f1 + q * 8 + 7, none⟩ = some (.slice pea pen pec) := hcell 7 _ rfl
          have HD := Lib.hid (HIH.out p _ wr hrd2)
          clear hp hcs hrd hrd2 hcell hw
          go_wp2_with fail
          refine HD.out.mono ?_
          rintro e w3 ⟨a, b, rfl, hab, hb3⟩
          have HB3 := Lib.hid (HB.out.trans (hb3.mono HB.out.size))
          obtain ⟨ha1, ha2, hb1, hb2⟩ := hab
          clear hb3
          go_wp2_with fail
          go_roundw
          case rel => exact ⟨q + 1, max mx a, cx + b, by omega, by go_num, by go_num, by go_num, by omega, by omega, by omega, by omega, HB3.out⟩
          case measure => simp [intOf]; omega
        · have hd2 : decide (cx ≤ 64) = false := by rw [decide_eq_false_iff_not]; exact hc
          go_wp2_with fail
          go_ret2
          exact ⟨mx + 1, min cx 65, by go_num, by omega, HBW.out⟩
      · have hd1 : decide ((q : Int) < (n : Int)) = false := by rw [decide_eq_false_iff_not]; omega
        have hd1n : decide (q < n) = false := by rw [decide_eq_false_iff_not]; omega
        go_wp2_with fail
        go_ret2
        exact ⟨mx + 1, min cx 65, by go_num, by omega, HBW.out⟩

end Go.Proofs.Ytfmkalnnpddefaa
