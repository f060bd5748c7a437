/-
  The walk of StamMine.
-/
import Derived.Test.YtnjeoolbnanmiaaStamg
import Derived.Test.YtnjeoolbnanmiaaAwakl
namespace Go.Proofs.Ytnjeoolbnanmiaa
set_option linter.unusedVariables false
open Go.RowKit

set_option maxRecDepth 100000 in
set_option maxHeartbeats 8000000 in
theorem walk_StamMine (a0 : Option Addr) (len0 cap0 : Nat) (z0 : List Int) (a1 : Int) (a2 : Int) (w : World) (w0 : IsRow .i64 w a0 len0 cap0 z0) (w1 : (Lit.int .i64 a1).wf = true) (w2 : (Lit.int .i64 a2).wf = true) :
    Calls Try.prog 4 #[.slice a0 len0 cap0, .int .i64 a1, .int .i64 a2] w fun e w' => e = .returned (.bool true) ∧ Below w.heap.size w w' := by
  obtain ⟨xs, hl, hr, _⟩ := isRow_rd w0
  obtain ⟨t, ht, _⟩ := and_some a2 15 15 rfl (by decide)
  have HR := Lib.hid hr
  clear hr hl w0 w1 w2
  obtain ⟨⟨bx, b⟩, hs⟩ : ∃ s, s = stampOf a1 := ⟨_, rfl⟩
  have hsl := stampOf_le a1
  rw [← hs] at hsl
  have HSL := Lib.hid hsl
  have HSB := Lib.hid (show I64 b by have := stampOf_b a1; rw [← hs] at this; exact this)
  have HST := fun w => Lib.hid (stamp_any a1 w)
  rw [← hs] at HST
  clear hs hsl
  unfold stampV at HST
  simp only at HST
  go_enter Try.func4, Try.ntmps4
  go_wp2_with fail
  refine (txns_any _ xs w HR.out).mono ?_
  rintro e w1 ⟨ao, cap, l, rfl, hown, hg, hsf, hb⟩
  have HT := Lib.hid (rdT_of_own hown)
  have HG := Lib.hid hg
  have HB := Lib.hid hb
  have HSF := Lib.hid hsf
  clear hown hg hb hsf HR
  obtain ⟨n, hn⟩ : ∃ n, n = l.length := ⟨_, rfl⟩
  rw [← hn] at HT HSF ⊢
  have HL := Lib.hid (show l.length ≤ 1000000 by have := HG.out.len; omega)
  clear hn
  have z9 : saidT l 9 0 (t : Int) = (false, 0) := by
    unfold saidT
    rw [state_none l 9 (fun u hu h => by have := HG.out.ids u hu; omega)]
    rfl
  have b1 : 0 ≤ (saidT l 9 0 (t : Int)).2 ∧ (saidT l 9 0 (t : Int)).2 ≤ 6 := by rw [z9]; decide
  have b2 := fun y => end_le l 0 y (t : Int) (by decide) (by decide)
  have b3 := said_le l bx b (t : Int) HSL.out.1 HSL.out.2
  have b4 : 0 ≤ (endT l 9 0 (t : Int)).2 ∧ (endT l 9 0 (t : Int)).2 ≤ 6 := by unfold endT; rw [z9]; split <;> decide
  have i9 : I64 9 := ⟨by decide, by decide⟩
  have i0 : I64 0 := ⟨by decide, by decide⟩
  have it : I64 (t : Int) := ⟨by omega, by omega⟩
  have ix : I64 bx := ⟨by have := HSL.out; omega, by have := HSL.out; omega⟩
  have ib : I64 b := HSB.out
  have S1 := fun (w : World) (h : RdT w (.slice ao n cap) l) => Lib.hid (sees_any 9 0 0 0 9 (t : Int) _ l w h HL.out HSF.out i9 i0 i0 i0 i9 it b1 (b2 0))
  have S2 := fun (w : World) (h : RdT w (.slice ao n cap) l) => Lib.hid (base_any 9 0 0 0 9 (t : Int) _ l w h HL.out HSF.out i9 i0 i0 i0 i9 it b1 (b2 0))
  have S3 := fun (w : World) (h : RdT w (.slice ao n cap) l) => Lib.hid (sees_any bx b 0 0 9 (t : Int) _ l w h HL.out HSF.out ix ib i0 i0 i9 it b3 (b2 0))
  have S4 := fun (w : World) (h : RdT w (.slice ao n cap) l) => Lib.hid (base_any bx b 9 0 9 (t : Int) _ l w h HL.out HSF.out ix ib i9 i0 i9 it b3 b4)
  have S5 := fun (w : World) (h : RdT w (.slice ao n cap) l) => Lib.hid (sees_any bx b 9 0 9 (t : Int) _ l w h HL.out HSF.out ix ib i9 i0 i9 it b3 b4)
  have S6 := fun (w : World) (h : RdT w (.slice ao n cap) l) => Lib.hid (may_any bx b 9 0 8 _ l w h HL.out)
  have e1 : seesT l 9 0 0 0 9 (t : Int) = (true, []) := by unfold seesT; rw [show isOfB 9 9 = true from rfl, show isOfB 0 9 = false from rfl, end_none]; rfl
  have e2 : baseT l 9 0 0 0 9 (t : Int) = (false, []) := by unfold baseT; rw [show isOfB 9 9 = true from rfl]; rfl
  have hne : isOfB bx 9 = false := isOf_far _ _ (by have := HSL.out.2; omega)
  obtain ⟨p, hp⟩ : ∃ p, p = thereT (saidT l bx b (t : Int)) (false, 0) := ⟨_, rfl⟩
  have e3 : seesT l bx b 0 0 9 (t : Int) = p := by unfold seesT; rw [hne, show isOfB 0 9 = false from rfl, end_none, hp]; rfl
  have e4 : baseT l bx b 9 0 9 (t : Int) = p := by unfold baseT; rw [hne, show isOfB 9 9 = true from rfl, hp]; rfl
  obtain ⟨p5, hp5, hp51⟩ : ∃ p5 : Bool × List Int, seesT l bx b 9 0 9 (t : Int) = p5 ∧ p5.1 = false := by
    refine ⟨_, rfl, ?_⟩
    unfold seesT
    rw [there_fst, show isOfB 9 9 = true from rfl]
    simp
  have e6 : mayT l 9 0 8 = 1 := by
    unfold mayT
    rw [state_none l 9 (fun u hu h => by have := HG.out.ids u hu; omega)]
    rfl
  rw [e1] at S1
  rw [e2] at S2
  rw [e3] at S3
  rw [e4] at S4
  rw [hp5] at S5
  rw [e6] at S6
  have HPL := Lib.hid (show p.2.length ≤ 1000000 by
    rw [hp]; unfold thereT hangL
    repeat' split
    all_goals simp)
  clear e1 e2 e3 e4 e6 hne hp hp5 z9 b1 b2 b3 b4 i9 i0 it ix ib
  obtain ⟨p1, p2⟩ := p
  obtain ⟨q1, q2⟩ := p5
  simp only at hp51
  subst hp51
  unfold spanV at S1 S2 S3 S4 S5 S6
  simp only at S1 S2 S3 S4 S5 HPL
  go_wp2_with fail
  refine (S1 _ (HT.out.kept (below_alloc _ _))).out.mono ?_
  rintro z w2 ⟨u1, rfl, hu1, hb⟩
  obtain ⟨oa1, oc1, hs1⟩ := rdI_shape hu1
  simp only [List.length_nil] at hs1
  subst hs1
  have hx := (hb.block w1.heap.size (by simp)).trans (heap_alloc_new w1 _)
  have HT2 := Lib.hid ((HT.out.kept (below_alloc w1 _)).kept hb)
  have HB2 := Lib.hid (below_then (below_lay HB.out _) hb)
  obtain ⟨c0, c1, c2, c3⟩ := cells4 hx
  clear hb hx hu1 S1
  go_wp2_with fail
  refine (S2 _ HT2.out).out.mono ?_
  rintro z w3 ⟨u2, rfl, hu2, hb⟩
  have HT3 := Lib.hid (HT2.out.kept hb)
  have HB3 := Lib.hid (below_then HB2.out hb)
  clear hb hu2 c0 c1 c2 c3 S2
  go_wp2_with fail
  refine (HST _).out.mono ?_
  rintro z w4 ⟨rfl, hb⟩
  have HT4 := Lib.hid (HT3.out.kept hb)
  have HB4 := Lib.hid (below_then HB3.out hb)
  clear hb
  go_wp2_with fail
  refine (HST _).out.mono ?_
  rintro z w5 ⟨rfl, hb⟩
  have hx := (hb.block w4.heap.size (by simp)).trans (heap_alloc_new w4 _)
  have HX13 := Lib.hid hx
  have h13 : w4.heap.size < w5.heap.size := by have := hb.size; simp at this; omega
  have H13 := Lib.hid h13
  have HT5 := Lib.hid ((HT4.out.kept (below_alloc w4 _)).kept hb)
  have HB5 := Lib.hid (below_then (below_lay HB4.out _) hb)
  clear hb hx h13
  go_upto_region 8 with (fail)
  have hq := (heap_alloc_old w5 (.cells #[.int .i64 bx, .int .i64 b, .int .i64 9, .int .i64 0] 33) H13.out).trans HX13.out
  obtain ⟨c0, c1, c2, c3⟩ := cells4 hq
  clear hq
  go_wp2_with fail
  refine (S3 _ (HT5.out.kept (below_alloc w5 _))).out.mono ?_
  rintro z w6 ⟨u3, rfl, hu3, hb⟩
  have hx := (hb.block w5.heap.size (by simp)).trans (heap_alloc_new w5 _)
  have HX14 := Lib.hid hx
  have H14 := Lib.hid (show w5.heap.size < w6.heap.size by have := hb.size; simp at this; omega)
  have HT6 := Lib.hid ((HT5.out.kept (below_alloc w5 _)).kept hb)
  have HB6 := Lib.hid (below_then (below_lay HB5.out _) hb)
  have HU3 := Lib.hid hu3
  obtain ⟨oa3, oc3, hs3⟩ := rdI_shape hu3
  subst hs3
  clear hb c0 c1 c2 c3 hu3
  obtain ⟨c0, c1, c2, c3⟩ := cells4 hx
  clear hx
  go_wp2_with fail
  refine (S4 _ HT6.out).out.mono ?_
  rintro z w7 ⟨u4, rfl, hu4, hb⟩
  have hx := (hb.block w5.heap.size H14.out).trans HX14.out
  have HX7 := Lib.hid hx
  have H7 := Lib.hid (show w5.heap.size < w7.heap.size by have := hb.size; have := H14.out; omega)
  have HT7 := Lib.hid (HT6.out.kept hb)
  have HB7 := Lib.hid (below_then HB6.out hb)
  have HU37 := Lib.hid (HU3.out.kept hb)
  have HU4 := Lib.hid hu4
  obtain ⟨oa4, oc4, hs4⟩ := rdI_shape hu4
  subst hs4
  clear hb c0 c1 c2 c3 hu4
  obtain ⟨c0, c1, c2, c3⟩ := cells4 hx
  clear hx
  go_wp2_with fail
  refine (S5 _ HT7.out).out.mono ?_
  rintro z w8 ⟨u5, rfl, hu5, hb⟩
  have hx := (hb.block w5.heap.size H7.out).trans HX7.out
  have HX8 := Lib.hid hx
  have H8 := Lib.hid (show w5.heap.size < w8.heap.size by have := hb.size; have := H7.out; omega)
  have HT8 := Lib.hid (HT7.out.kept hb)
  have HB8 := Lib.hid (below_then HB7.out hb)
  have HU38 := Lib.hid (HU37.out.kept hb)
  have HU48 := Lib.hid (HU4.out.kept hb)
  clear hb c0 c1 c2 c3 hu5 hx
  go_wp2_with fail
  refine (same_any _ _ p2 w8 HU38.out HU48.out HPL.out).mono ?_
  rintro z w9 ⟨rfl, hb⟩
  have hx := (hb.block w5.heap.size H8.out).trans HX8.out
  have HT9 := Lib.hid (HT8.out.kept hb)
  have HB9 := Lib.hid (below_then HB8.out hb)
  obtain ⟨c0, c1, c2, c3⟩ := cells4 hx
  clear hb hx
  go_wp2_with fail
  refine (S6 _ HT9.out).out.mono ?_
  rintro z w10 ⟨rfl, hb⟩
  have HB10 := Lib.hid (below_then HB9.out hb)
  clear hb c0 c1 c2 c3
  go_wp2_with fail
  refine (awake11_any _).mono ?_
  rintro z w11 ⟨rfl, hb⟩
  have HB11 := Lib.hid (below_then HB10.out hb)
  clear hb
  go_wp2_with fail
  go_ret
  exact ⟨rfl, HB11.out⟩

end Go.Proofs.Ytnjeoolbnanmiaa
