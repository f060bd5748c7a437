/-
  The walk of StamLater.
-/
import Derived.Test.YtnjeoolbnanmiaaStamg
import Derived.Test.YtnjeoolbnanmiaaAwakl
import Derived.Deep.DeepCutAuto
namespace Go.Proofs.Ytnjeoolbnanmiaa
set_option linter.unusedVariables false
open Go.RowKit

set_option maxRecDepth 100000 in
set_option maxHeartbeats 2000000 in
theorem when_any (x y : Int) (c : Nat) (v : Value) (l : List Ti) (w : World) (hc : w.cell? ⟨c, 0, none⟩ = some v) (hr : RdT w v l) (hl : l.length ≤ 1000000) :
    Calls Try.prog 23 #[stampV x y, .pointer (some ⟨c, 0, none⟩)] w fun e w' => e = .returned (.int .i64 (whenT l x y)) ∧ Below w.heap.size w w' := by
  unfold stampV
  have HR := Lib.hid hr
  obtain ⟨ao, cap, hv⟩ : ∃ ao cap, v = .slice ao l.length cap := by
    obtain ⟨ao, cap, hv, _⟩ := hr
    exact ⟨ao, cap, hv⟩
  subst hv
  have hc2 := Lib.cell?_alloc_some (.cells #[.int .i64 x, .int .i64 y] 31) hc
  have HBA := Lib.hid (below_alloc w (.cells #[.int .i64 x, .int .i64 y] 31))
  clear hr hc
  obtain ⟨n, hn⟩ : ∃ n, n = l.length := ⟨_, rfl⟩
  have HST := fun (w : World) (h : RdT w (.slice ao n cap) l) => Lib.hid (state_any _ l x w h hl)
  rw [← hn] at HR hc2
  clear hn hl
  by_cases h0 : x = 0
  · have hq : (x == 0) = true := by rw [beq_iff_eq]; exact h0
    have HA := Lib.hid (show whenT l x y = y by unfold whenT; rw [if_pos h0])
    clear h0
    go_enter Try.func23, Try.ntmps23
    go_wp2_with fail
    go_ret
    rw [HA.out]
    exact ⟨rfl, HBA.out⟩
  · have hq : (x == 0) = false := by rw [beq_eq_false_iff_ne]; exact h0
    have HA := Lib.hid (show whenT l x y = if (stateT l x).s = 2 ∨ (stateT l x).s = 3 then (stateT l x).e else 99 by unfold whenT; rw [if_neg h0])
    clear h0
    go_enter Try.func23, Try.ntmps23
    go_wp2_with fail
    refine (HST _ (HR.out.kept HBA.out)).out.mono ?_
    rintro z w3 ⟨rfl, hb⟩
    have HB3 := Lib.hid (below_then HBA.out hb)
    obtain ⟨⟨i, s, b, e⟩, ht⟩ : ∃ t, t = stateT l x := ⟨_, rfl⟩
    rw [← ht] at HA ⊢
    unfold Ti.agg
    simp only at HA ⊢
    clear hb ht HST hc2
    by_cases h2 : s = 2
    · have q2 : (s == 2) = true := by rw [beq_iff_eq]; exact h2
      have HE := Lib.hid (show whenT l x y = e by rw [HA.out, if_pos (.inl h2)])
      clear h2 HA
      go_wp2_with fail
      go_ret
      rw [HE.out]
      exact ⟨rfl, below_lay HB3.out _⟩
    · have q2 : (s == 2) = false := by rw [beq_eq_false_iff_ne]; exact h2
      by_cases h3 : s = 3
      · have q3 : (s == 3) = true := by rw [beq_iff_eq]; exact h3
        have HE := Lib.hid (show whenT l x y = e by rw [HA.out, if_pos (.inr h3)])
        clear h2 h3 HA
        go_wp2_with fail
        go_ret
        rw [HE.out]
        exact ⟨rfl, below_lay HB3.out _⟩
      · have q3 : (s == 3) = false := by rw [beq_eq_false_iff_ne]; exact h3
        have HE := Lib.hid (show whenT l x y = 99 by rw [HA.out, if_neg (fun h => h.elim h2 h3)])
        clear h2 h3 HA
        go_wp2_with fail
        go_ret
        rw [HE.out]
        exact ⟨rfl, below_lay HB3.out _⟩

set_option maxRecDepth 100000 in
set_option maxHeartbeats 8000000 in
theorem walk_StamLater (a0 : Option Addr) (len0 cap0 : Nat) (z0 : List Int) (a1 : Int) (a2 : Int) (a3 : Int) (w : World) (w0 : IsRow .i64 w a0 len0 cap0 z0) (w1 : (Lit.int .i64 a1).wf = true) (w2 : (Lit.int .i64 a2).wf = true) (w3 : (Lit.int .i64 a3).wf = true) :
    Calls Try.prog 5 #[.slice a0 len0 cap0, .int .i64 a1, .int .i64 a2, .int .i64 a3] w fun e w' => e = .returned (.bool true) ∧ Below w.heap.size w w' := by
  obtain ⟨xs, hl, hr, hwf⟩ := isRow_rd w0
  obtain ⟨ta, hta, hta1⟩ := and_some a2 15 15 rfl (by decide)
  obtain ⟨tb, htb, htb1⟩ := and_some a3 15 15 rfl (by decide)
  obtain ⟨tc, htc, htc1⟩ := and_some (a1 / 65536) 1 1 rfl (by decide)
  have HR := Lib.hid hr
  clear hr hl hwf w0 w1 w2 w3
  obtain ⟨⟨bx, b⟩, hs⟩ : ∃ s, s = stampOf a1 := ⟨_, rfl⟩
  obtain ⟨⟨ex, e⟩, hs2⟩ : ∃ s, s = stampOf (a1 / 256) := ⟨_, rfl⟩
  have hsl := stampOf_le a1
  have hsb := stampOf_b a1
  have hel := stampOf_le (a1 / 256)
  have heb := stampOf_b (a1 / 256)
  rw [← hs] at hsl hsb
  rw [← hs2] at hel heb
  have HSL := Lib.hid hsl
  have HSB := Lib.hid hsb
  have HEL := Lib.hid hel
  have HEB := Lib.hid heb
  have HST := fun w => Lib.hid (stamp_any a1 w)
  have HSE := fun w => Lib.hid (stamp_any (a1 / 256) w)
  rw [← hs] at HST
  rw [← hs2] at HSE
  clear hs hs2 hsl hsb hel heb
  unfold stampV at HST HSE
  simp only at HST HSE HSL HEL HSB HEB
  go_enter Try.func5, Try.ntmps5
  go_wp2_with fail
  refine (txns_any _ xs w HR.out).mono ?_
  rintro z w1 ⟨ao, cap, l, rfl, hown, hg, hsf, hb⟩
  have HT := Lib.hid (rdT_of_own hown)
  have HB := Lib.hid hb
  have HSF := Lib.hid hsf
  have HL := Lib.hid (show l.length ≤ 1000000 by have := hg.len; omega)
  clear hown hg hb hsf HR
  obtain ⟨n, hn⟩ : ∃ n, n = l.length := ⟨_, rfl⟩
  rw [← hn] at HT HSF ⊢
  clear hn
  go_wp2_with fail
  refine (HST _).out.mono ?_
  rintro z w2 ⟨rfl, hb⟩
  have HT2 := Lib.hid (HT.out.kept hb)
  have HB2 := Lib.hid (below_then HB.out hb)
  clear hb
  go_wp2_with fail
  refine (HSE _).out.mono ?_
  rintro z w3 ⟨rfl, hb⟩
  have HT3 := Lib.hid (HT2.out.kept hb)
  have HB3 := Lib.hid (below_then HB2.out hb)
  clear hb
  go_upto_if 27 with (fail)
  obtain ⟨W4, hW4⟩ : ∃ W4 : World, W4 = w3.alloc (.cells #[.slice ao n cap] 22) := ⟨_, rfl⟩
  obtain ⟨X9, hX9⟩ : ∃ X9, X9 = w3.heap.size := ⟨_, rfl⟩
  have hz := heap_alloc_new w3 (.cells #[.slice ao n cap] 22)
  rw [← hX9, ← hW4] at hz
  have HZ := Lib.hid hz
  have H9 := Lib.hid (show X9 < W4.heap.size by rw [hX9, hW4]; simp)
  have HT4 := Lib.hid (show RdT W4 (.slice ao n cap) l by rw [hW4]; exact HT3.out.kept (below_alloc w3 _))
  have HB4 := Lib.hid (show Below w.heap.size w W4 by rw [hW4]; exact below_lay HB3.out _)
  rw [← hX9, ← hW4, show X9 + 1 = W4.heap.size by rw [hX9, hW4]; simp]
  clear hz hX9 hW4
  go_cut [8] (fun s wx => s = .bool false ∧ ∃ ex' e' : Int, 0 ≤ ex' ∧ ex' ≤ 6 ∧ I64 e' ∧ wx = W4.alloc (.cells #[.int .i64 bx, .int .i64 b, .int .i64 ex', .int .i64 e'] 33))
  case first =>
    by_cases h0 : tc = 0
    · have hq : ((tc : Int) == 0) = true := by rw [beq_iff_eq]; omega
      have hy := heap_alloc_new W4 (.cells #[.int .i64 bx, .int .i64 b, .int .i64 ex, .int .i64 e] 33)
      obtain ⟨f0, f1, f2, f3⟩ := froz4 hy
      clear hy
      go_wp2_with fail
      go_meet
      exact ⟨rfl, 0, 0, by decide, by decide, ⟨by decide, by decide⟩, rfl⟩
    · have hq : ((tc : Int) == 0) = false := by rw [beq_eq_false_iff_ne]; omega
      go_wp2_with fail
      go_meet
      exact ⟨rfl, ex, e, HEL.out.1, HEL.out.2, HEB.out, rfl⟩
  case rest =>
    obtain ⟨rfl, fx, f, hf1, hf2, hf3, rfl⟩ := hcut
    have HF := Lib.hid (And.intro hf1 (And.intro hf2 hf3))
    clear hf1 hf2 hf3 HEL HEB HSE HST
    go_upto_region 5 with (fail)
    obtain ⟨lo, hlo⟩ : ∃ lo : Int, lo = min (ta : Int) (tb : Int) := ⟨_, rfl⟩
    obtain ⟨hi, hhi⟩ : ∃ hi : Int, hi = max (ta : Int) (tb : Int) := ⟨_, rfl⟩
    rw [← hlo, ← hhi]
    have HLH := Lib.hid (show lo ≤ hi ∧ I64 lo ∧ I64 hi by
      have : lo ≤ hi := by rw [hlo, hhi]; omega
      exact ⟨this, ⟨by rw [hlo]; omega, by rw [hlo]; omega⟩, ⟨by rw [hhi]; omega, by rw [hhi]; omega⟩⟩)
    clear hlo hhi
    have q0 : I64 0 := ⟨by decide, by decide⟩
    have qx : I64 bx := ⟨by have := HSL.out; omega, by have := HSL.out; omega⟩
    have qf : I64 fx := ⟨by have := HF.out; omega, by have := HF.out; omega⟩
    have S1 := fun (w : World) (h : RdT w (.slice ao n cap) l) => Lib.hid (sees_any bx b fx f 0 lo _ l w h HL.out HSF.out qx HSB.out qf HF.out.2.2 q0 HLH.out.2.1 (said_le l bx b lo HSL.out.1 HSL.out.2) (end_le l fx f lo HF.out.1 HF.out.2.1))
    have S2 := fun (w : World) (h : RdT w (.slice ao n cap) l) => Lib.hid (sees_any bx b fx f 0 hi _ l w h HL.out HSF.out qx HSB.out qf HF.out.2.2 q0 HLH.out.2.2 (said_le l bx b hi HSL.out.1 HSL.out.2) (end_le l fx f hi HF.out.1 HF.out.2.1))
    have G1 := Lib.hid (later_gone l bx b fx f lo hi HLH.out.1)
    have G2 := Lib.hid (later_come l bx b fx f lo hi HLH.out.1)
    clear q0 qx qf
    obtain ⟨⟨x1, x2⟩, hp⟩ : ∃ p, p = seesT l bx b fx f 0 lo := ⟨_, rfl⟩
    obtain ⟨⟨y1, y2⟩, hq⟩ : ∃ p, p = seesT l bx b fx f 0 hi := ⟨_, rfl⟩
    rw [← hp] at S1 G1 G2
    rw [← hq] at S2 G1 G2
    clear hp hq
    unfold spanV at S1 S2
    simp only at S1 S2 G1 G2
    -- the two rows: t10's at W4's end, t9's below
    have hy := heap_alloc_new W4 (.cells #[.int .i64 bx, .int .i64 b, .int .i64 fx, .int .i64 f] 33)
    have hy9 := (heap_alloc_old W4 (.cells #[.int .i64 bx, .int .i64 b, .int .i64 fx, .int .i64 f] 33) H9.out).trans HZ.out
    have HT5 := Lib.hid (HT4.out.kept (below_alloc W4 (.cells #[.int .i64 bx, .int .i64 b, .int .i64 fx, .int .i64 f] 33)))
    have HB5 := Lib.hid (below_lay HB4.out (.cells #[.int .i64 bx, .int .i64 b, .int .i64 fx, .int .i64 f] 33))
    obtain ⟨X10, hX10⟩ : ∃ X10, X10 = W4.heap.size := ⟨_, rfl⟩
    obtain ⟨W5, hW5⟩ : ∃ W5 : World, W5 = W4.alloc (.cells #[.int .i64 bx, .int .i64 b, .int .i64 fx, .int .i64 f] 33) := ⟨_, rfl⟩
    have h10 : X10 < W5.heap.size := by rw [hX10, hW5]; simp
    have h9 : X9 < W5.heap.size := by have := H9.out; rw [hX10.symm] at this; omega
    rw [← hX10, ← hW5] at hy ⊢
    rw [← hW5] at hy9 HT5 HB5
    have HY := Lib.hid hy
    have HY9 := Lib.hid hy9
    have H10 := Lib.hid h10
    have H9' := Lib.hid h9
    obtain ⟨c0, c1, c2, c3⟩ := cells4 hy
    have c9 : W5.cell? ⟨X9, 0, none⟩ = some (.slice ao n cap) := by rw [cell_of_row W5 X9 0 _ _ _ hy9]; rfl
    clear hy hy9 hX10 hW5 h10 h9 HZ H9
    go_wp2_with fail
    refine (S1 _ HT5.out).out.mono ?_
    rintro z w6 ⟨u1, rfl, hu1, hb⟩
    have hy := (hb.block X10 H10.out).trans HY.out
    have hy9 := (hb.block X9 H9'.out).trans HY9.out
    have HY6 := Lib.hid hy
    have HY96 := Lib.hid hy9
    have H106 := Lib.hid (show X10 < w6.heap.size by have := hb.size; have := H10.out; omega)
    have H96 := Lib.hid (show X9 < w6.heap.size by have := hb.size; have := H9'.out; omega)
    have HT6 := Lib.hid (HT5.out.kept hb)
    have HB6 := Lib.hid (below_then HB5.out hb)
    clear c0 c1 c2 c3 c9 hu1 hb
    obtain ⟨c0, c1, c2, c3⟩ := cells4 hy
    have c9 : w6.cell? ⟨X9, 0, none⟩ = some (.slice ao n cap) := by rw [cell_of_row w6 X9 0 _ _ _ hy9]; rfl
    clear hy hy9
    go_wp2_with fail
    refine (S2 _ HT6.out).out.mono ?_
    rintro z w7 ⟨u2, rfl, hu2, hb⟩
    have hy := (hb.block X10 H106.out).trans HY6.out
    have hy9 := (hb.block X9 H96.out).trans HY96.out
    have HY7 := Lib.hid hy
    have HY97 := Lib.hid hy9
    have H107 := Lib.hid (show X10 < w7.heap.size by have := hb.size; have := H106.out; omega)
    have H97 := Lib.hid (show X9 < w7.heap.size by have := hb.size; have := H96.out; omega)
    have HT7 := Lib.hid (HT6.out.kept hb)
    have HB7 := Lib.hid (below_then HB6.out hb)
    clear c0 c1 c2 c3 c9 hu2 hb
    obtain ⟨c0, c1, c2, c3⟩ := cells4 hy
    have c9 : w7.cell? ⟨X9, 0, none⟩ = some (.slice ao n cap) := by rw [cell_of_row w7 X9 0 _ _ _ hy9]; rfl
    have HC9 := Lib.hid c9
    clear hy hy9 S1 S2
    cases x1
    · cases y1
      · go_wp2_with fail
        refine (awake11_any _).mono ?_
        rintro z w8 ⟨rfl, hb⟩
        have HB8 := Lib.hid (below_then HB7.out hb)
        clear hb
        go_wp2_with fail
        go_ret
        exact ⟨rfl, HB8.out⟩
      · obtain ⟨g2, g3⟩ := G2.out rfl rfl
        obtain ⟨m, hm⟩ : ∃ m, m = whenT l bx b := ⟨_, rfl⟩
        have HW := fun (w : World) (hc : w.cell? ⟨X9, 0, none⟩ = some (.slice ao n cap)) (h : RdT w (.slice ao n cap) l) => Lib.hid (when_any bx b X9 _ l w hc h HL.out)
        rw [← hm] at HW g2 g3
        have d1 : decide (lo < m) = true := by rw [decide_eq_true_eq]; exact g2
        have d2 : decide (m ≤ hi) = true := by rw [decide_eq_true_eq]; exact g3
        unfold stampV at HW
        clear hm g2 g3
        go_wp2_with fail
        refine (HW _ c9 HT7.out).out.mono ?_
        rintro z w8 ⟨rfl, hb⟩
        have hy := (hb.block X10 H107.out).trans HY7.out
        have hy9 := (hb.block X9 H97.out).trans HY97.out
        have HT8 := Lib.hid (HT7.out.kept hb)
        have HB8 := Lib.hid (below_then HB7.out hb)
        clear c0 c1 c2 c3 c9 hb
        obtain ⟨c0, c1, c2, c3⟩ := cells4 hy
        have c9 : w8.cell? ⟨X9, 0, none⟩ = some (.slice ao n cap) := by rw [cell_of_row w8 X9 0 _ _ _ hy9]; rfl
        clear hy hy9
        go_wp2_with fail
        refine (HW _ c9 HT8.out).out.mono ?_
        rintro z w9 ⟨rfl, hb⟩
        have HB9 := Lib.hid (below_then HB8.out hb)
        clear c0 c1 c2 c3 c9 hb
        go_wp2_with fail
        refine (awake11_any _).mono ?_
        rintro z w10 ⟨rfl, hb⟩
        have HB10 := Lib.hid (below_then HB9.out hb)
        clear hb
        go_wp2_with fail
        go_ret
        exact ⟨rfl, HB10.out⟩
    · cases y1
      · obtain ⟨g1, g2, g3⟩ := G1.out rfl rfl
        obtain ⟨m, hm⟩ : ∃ m, m = whenT l fx f := ⟨_, rfl⟩
        have HW := fun (w : World) (hc : w.cell? ⟨X9, 0, none⟩ = some (.slice ao n cap)) (h : RdT w (.slice ao n cap) l) => Lib.hid (when_any fx f X9 _ l w hc h HL.out)
        rw [← hm] at HW g2 g3
        have d1 : decide (lo < m) = true := by rw [decide_eq_true_eq]; exact g2
        have d2 : decide (m ≤ hi) = true := by rw [decide_eq_true_eq]; exact g3
        unfold stampV at HW
        clear hm g2 g3
        by_cases hn : fx = 0
        · have n1 : (fx == 0) = true := by rw [beq_iff_eq]; exact hn
          have n2 : (f == 0) = false := by
            unfold neverB at g1
            rw [n1, Bool.true_and] at g1
            exact g1
          clear g1 hn
          go_wp2_with fail
          refine (HW _ c9 HT7.out).out.mono ?_
          rintro z w8 ⟨rfl, hb⟩
          have hy := (hb.block X10 H107.out).trans HY7.out
          have hy9 := (hb.block X9 H97.out).trans HY97.out
          have HT8 := Lib.hid (HT7.out.kept hb)
          have HB8 := Lib.hid (below_then HB7.out hb)
          clear c0 c1 c2 c3 c9 hb
          obtain ⟨c0, c1, c2, c3⟩ := cells4 hy
          have c9 : w8.cell? ⟨X9, 0, none⟩ = some (.slice ao n cap) := by rw [cell_of_row w8 X9 0 _ _ _ hy9]; rfl
          clear hy hy9
          go_wp2_with fail
          refine (HW _ c9 HT8.out).out.mono ?_
          rintro z w9 ⟨rfl, hb⟩
          have HB9 := Lib.hid (below_then HB8.out hb)
          clear c0 c1 c2 c3 c9 hb
          go_wp2_with fail
          refine (awake11_any _).mono ?_
          rintro z w10 ⟨rfl, hb⟩
          have HB10 := Lib.hid (below_then HB9.out hb)
          clear hb
          go_wp2_with fail
          go_ret
          exact ⟨rfl, HB10.out⟩
        · have n1 : (fx == 0) = false := by rw [beq_eq_false_iff_ne]; exact hn
          clear g1 hn
          go_wp2_with fail
          refine (HW _ c9 HT7.out).out.mono ?_
          rintro z w8 ⟨rfl, hb⟩
          have hy := (hb.block X10 H107.out).trans HY7.out
          have hy9 := (hb.block X9 H97.out).trans HY97.out
          have HT8 := Lib.hid (HT7.out.kept hb)
          have HB8 := Lib.hid (below_then HB7.out hb)
          clear c0 c1 c2 c3 c9 hb
          obtain ⟨c0, c1, c2, c3⟩ := cells4 hy
          have c9 : w8.cell? ⟨X9, 0, none⟩ = some (.slice ao n cap) := by rw [cell_of_row w8 X9 0 _ _ _ hy9]; rfl
          clear hy hy9
          go_wp2_with fail
          refine (HW _ c9 HT8.out).out.mono ?_
          rintro z w9 ⟨rfl, hb⟩
          have HB9 := Lib.hid (below_then HB8.out hb)
          clear c0 c1 c2 c3 c9 hb
          go_wp2_with fail
          refine (awake11_any _).mono ?_
          rintro z w10 ⟨rfl, hb⟩
          have HB10 := Lib.hid (below_then HB9.out hb)
          clear hb
          go_wp2_with fail
          go_ret
          exact ⟨rfl, HB10.out⟩
      · go_wp2_with fail
        refine (awake11_any _).mono ?_
        rintro z w8 ⟨rfl, hb⟩
        have HB8 := Lib.hid (below_then HB7.out hb)
        clear hb
        go_wp2_with fail
        go_ret
        exact ⟨rfl, HB8.out⟩

end Go.Proofs.Ytnjeoolbnanmiaa
