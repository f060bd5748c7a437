import Derived.Test.YtmpgnjhgegbdkaaGreatIcola
import Derived.Deep.DeepCutAuto
import Derived.Test.YtmpgnjhgegbdkaaGreatCodg
import Derived.Test.YtmpgnjhgegbdkaaGreatUnpack
set_option linter.unusedVariables false
set_option linter.unusedSimpArgs false
set_option maxRecDepth 100000
set_option maxHeartbeats 8000000
open Go.Lib (hid)
namespace Go.Proofs.YtmpgnjhgegbdkaaGreat
open Go.RowKit
open _root_.List renaming replicate -> Qa, range -> Qd, length_map -> Qe, mem_singleton -> Qh, length_append -> Qj, all_eq_true -> Qk, mem_of_getElem? -> Ql, getElem?_eq_none -> Qo, getD_eq_getElem?_getD -> Qp, getElem?_eq_getElem -> Qq, length_eq_zero_iff -> Qt, replicate_zero -> Qu, append_nil -> Qv, length_replicate -> Qw, countP_append -> Qy, countP_cons -> Qz, ext_getElem? -> Ja, length_range -> Jb, getElem?_map -> Jd, take_add_one -> Je, map_set -> Jf, length_take -> Jg
open _root_.Nat renaming le_refl -> Qb, zero_le -> Qg, lt_of_lt_of_le -> Qs, mul_one -> Jc
open Go.RowKit.Below renaming refl -> Qc
open Go.IntWalk renaming i64_in -> Qf, u64_in -> Qi
open _root_.Array renaming getElem?_eq_some_iff -> Qm
open _root_.Bool renaming or_false -> Qn
open _root_.Option renaming map_some -> Qr
open Go.World renaming grownBy_alloc -> Qx
open Go renaming heap_alloc_new -> Jh
theorem zCv : ∃ ei, Tryz.prog.info? 2 = some ei ∧ ei.zero = some (.int .i64 0) ∧ ei.size = 1 ∧ ei.bytes = 8 := by
 have h := zH5
 cases hq : Tryz.prog.info? 2 with
 | none => rw [hq] at h; cases h
 | some i =>
  rw [hq] at h
  simp only [Qr, Option.some.injEq, Prod.mk.injEq] at h
  exact ⟨i, rfl, h.1, h.2.1, h.2.2⟩
theorem zJs (z : Int) (w : World) : Calls Tryz.prog 156 #[.int .i64 z] w fun e w' => e = .returned (.int .i64 z) ∧ w = w' := by
 go_enter Tryz.func156, Tryz.ntmps156
 go_wp2
 go_ret
 exact ⟨rfl, rfl⟩
theorem zG8 {l : List Int} {z a : Int} (hl : 0 < l.length) (h : l[l.length - 1]? = some a) : lastIs l z = decide (a = z) := by
 unfold lastIs
 rw [List.getLast?_eq_getElem?, h]
 by_cases e : a = z
 ·subst e; simp
 ·simp [e]
theorem zEm {w0 w : World} {o : Option Nat} (h : w0.grownBy w o) : ∃ V : World, V = w := ⟨w, rfl⟩
theorem zG9 (r : Nat) (left : List Nat) (bad : Bool) (c : Nat) (w : World) (h : IsR w r left bad) (h256 : ∀ x ∈ left, x < 256) (hbig : left.length <= 1000000) (hc : c <= 65535) :
  Calls Tryz.prog 137 #[.agg #[.func (.func 154) #[] #[], .func (.func 155) #[] #[], .func (.func 153) #[] #[], .func (.func 156) #[] #[]], .pointer (some ⟨r, 0, none⟩), .int .i64 (c : Int)] w fun e w' => RetOpt w.heap.size (rdRuns c c [] left bad) e w' ∧ w.grownBy w' (some r) := by
 have hrl := h.lt
 have H := hid h
 have H256 := hid h256
 obtain ⟨O, hO⟩ : ∃ O, O = rdRuns c c [] left bad := ⟨_, rfl⟩
 rw [<- hO]
 have HOO := hid hO
 clear h h256 hO
 go_enter Tryz.func137, Tryz.ntmps137
 go_upto_region 1 with (fail)
 obtain ⟨W1, hW1⟩ : ∃ W1 : World, W1 = w.alloc (.cells #[.func (.func 154) #[] #[], .func (.func 155) #[] #[], .func (.func 153) #[] #[], .func (.func 156) #[] #[]] 185) := ⟨_, rfl⟩
 obtain ⟨X, hX⟩ : ∃ X, X = w.heap.size := ⟨_, rfl⟩
 have hxb : W1.heap[X]? = some (.cells #[.func (.func 154) #[] #[], .func (.func 155) #[] #[], .func (.func 153) #[] #[], .func (.func 156) #[] #[]] 185 (0, 0)) := by rw [hW1, hX]; exact Jh w _
 have HB1 := hid (show Below w.heap.size w W1 by rw [hW1]; exact zAd w _)
 rw [<- hW1, <- hX]
 have HXX := hid (show X = w.heap.size ∧ X < W1.heap.size from ⟨hX, (Qm.1 hxb).1⟩)
 have HX := hid fun (w' : World) (h : Below W1.heap.size W1 w') => zAv ((h.block X HXX.out.2).trans hxb)
 clear hW1 hX hxb
 have HRB := hid (IsRB.mono (zEl (H.out.kept HB1.out)) (Qb _))
 have HX2 := hid (show ∀ wr : World, W1.grownBy wr (some r) -> wr.cell? ⟨X, 1, none⟩ = some (.func (.func 155) #[] #[]) ∧ wr.cell? ⟨X, 2, none⟩ = some (.func (.func 153) #[] #[]) ∧ wr.cell? ⟨X, 3, none⟩ = some (.func (.func 156) #[] #[]) from fun wr hg => by
  have hne : ∀ i, some ((⟨X, i, none⟩ : Addr)).block ≠ some r := fun i => by rw [HXX.out.1]; simp; omega
  have h := HX.out W1 (Qc _ _)
  exact ⟨hg.cell h.2.1 (hne 1), hg.cell h.2.2.1 (hne 2), hg.cell h.2.2.2 (hne 3)⟩)
 have hrW : r < W1.heap.size := Qs hrl HB1.out.size
 have hc0 : (0 : Int) <= (c : Int) := by omega
 obtain ⟨ei, he1, he2, he3, he4⟩ := zCv
 obtain ⟨W2, hmk, hown2, hg2⟩ := run_make_own (P := Tryz.prog) W1 W1.heap.size 130 2 ei (.int .i64 0) 1 Tryz.underlying130 he1 he2 he3 .i64 .i64 c (by rw [he4]; omega) (by unfold maxLen; omega) (Qb _)
 obtain ⟨mv, hmv⟩ : ∃ mv, mv = Value.slice (some ⟨W1.heap.size, 0, none⟩) 0 c := ⟨_, rfl⟩
 rw [<- hmv] at hmk hown2
 have HO2 := hid (show OwnI W1.heap.size W2 mv [] from hown2)
 have HG2 := hid (show W1.grownBy W2 (some r) from zB1 hg2)
 have HRB2 := hid (HRB.out.own hg2 (fun k e => by cases e) hrW)
 clear hown2 hg2 he1 he2 he3 he4 hmv
 go_upto_region 2 with (fail)
 clear hmk
 go_loopw [8] (fun v wr => ∃ (l1 : List Int) (left1 : List Nat) (bad1 : Bool), l1.length <= c ∧ OwnI W1.heap.size wr v l1 ∧ IsRB W1.heap.size wr r left1 bad1 ∧ (∀ x ∈ left1, x < 256) ∧ left1.length <= 1000000 ∧ rdRuns (c - l1.length) c l1 left1 bad1 = O ∧ W1.grownBy wr (some r)) (fun v _ => c - lenV v)
 case atStart => exact ⟨[], left, bad, Qg _, HO2.out, HRB2.out, H256.out, hbig, HOO.out.symm, HG2.out⟩
 case round =>
  obtain ⟨l1, left1, bad1, hl1, hown, hrb, hm1, hbl1, hO1, hgr⟩ := hrel
  obtain ⟨ao, cap, rfl⟩ := hown.shape
  obtain ⟨q, hq⟩ : ∃ q, q = l1.length := ⟨_, rfl⟩
  rw [<- hq] at hl1 hown hO1 ⊢
  have HO := hid hown
  have HQ := hid hq.symm
  have HRBQ := hid hrb
  have HG := hid hgr
  have HM1 := hid hm1
  have HO1 := hid hO1
  have hszr : W1.heap.size <= wr.heap.size := hgr.size
  clear hown hrb hgr hm1 hO1 hq
  by_cases hlt : q < c
  ·have hlti : (q : Int) < (c : Int) := by omega
   have hq0 : (0 : Int) <= (q : Int) := by omega
   have HNU := hid (zG7 W1.heap.size r left1 bad1 wr HRBQ.out HM1.out hbl1)
   have hult := zDs left1 bad1
   have hm2 := zEs (bad := bad1) HM1.out
   have hbl2 := zEt left1 bad1
   obtain ⟨U, hU⟩ : ∃ U, U = (numR left1 bad1).1 := ⟨_, rfl⟩
   obtain ⟨left2, hleft2⟩ : ∃ left2, left2 = (numR left1 bad1).2.1 := ⟨_, rfl⟩
   obtain ⟨bad2, hbad2⟩ : ∃ bad2, bad2 = (numR left1 bad1).2.2 := ⟨_, rfl⟩
   rw [<- hU] at hult
   rw [<- hU, <- hleft2, <- hbad2] at HNU
   rw [<- hleft2] at hm2 hbl2
   have hm3 := zB4 (bad := bad2) hm2
   have hbl3 := zB5 left2 bad2
   obtain ⟨z, hz⟩ : ∃ z, z = (takeR left2 bad2).1 := ⟨_, rfl⟩
   obtain ⟨left3, hleft3⟩ : ∃ left3, left3 = (takeR left2 bad2).2.1 := ⟨_, rfl⟩
   obtain ⟨bad3, hbad3⟩ : ∃ bad3, bad3 = (takeR left2 bad2).2.2 := ⟨_, rfl⟩
   rw [<- hleft3] at hm3 hbl3
   have HM2 := hid hm2
   have HM3 := hid hm3
   have hstep : (if bad3 = true ∨ U = 0 ∨ c - q < U ∨ lastIs l1 z = true then none else rdRuns (c - q - 1) c (l1 ++ Qa U z) left3 bad3) = O := by
    have h := HO1.out
    rw [show c - q = (c - q - 1) + 1 by omega, rdRuns, if_neg (show ¬ c <= l1.length by rw [HQ.out]; omega), HQ.out, <- hU, <- hleft2, <- hbad2, <- hz, <- hleft3, <- hbad3] at h
    exact h
   have HST := hid hstep
   have HTK := hid fun (w' : World) (h : IsRB W1.heap.size w' r left2 bad2) => (show Calls Tryz.prog 155 #[.pointer (some ⟨r, 0, none⟩)] w' fun e w'' => e = .returned (.int .i64 z) ∧ IsRB W1.heap.size w'' r left3 bad3 ∧ w'.grownBy w'' (some r) from by
    have h := zGd W1.heap.size r left2 bad2 w' h HM2.out (by omega)
    rw [<- hz, <- hleft3, <- hbad3] at h
    exact h)
   have hbig3 : left3.length <= 1000000 := by omega
   clear hU hleft2 hbad2 hz hleft3 hbad3 hstep hm2 hm3 hbl2 hbl3 HM1
   go_wp2_with fail
   refine HNU.out.mono ?_
   rintro e w3 ⟨rfl, hrb3, hg3⟩
   have HRB3 := hid hrb3
   have HO3 := hid (show OwnI W1.heap.size w3 (.slice ao l1.length cap) l1 from (show OwnI W1.heap.size wr (.slice ao l1.length cap) l1 from by rw [HQ.out]; exact HO.out).kept hg3 (.inr (fun e => by have := zAg HO.out r (by rw [<- HQ.out]; exact e); omega)))
   have HG3 := hid (show W1.grownBy w3 (some r) from zAc HG.out hg3)
   have cf := (HX2.out w3 HG3.out).1
   clear hrb3 hg3 HNU
   go_wp2_with fail
   refine (HTK.out w3 HRB3.out).mono ?_
   rintro e w4 ⟨rfl, hrb4, hg4⟩
   have HRB4 := hid hrb4
   have HO4 := hid (show OwnI W1.heap.size w4 (.slice ao l1.length cap) l1 from HO3.out.kept hg4 (.inr (fun e => by have := zAg HO3.out r e; omega)))
   have HG4 := hid (show W1.grownBy w4 (some r) from zAc HG3.out hg4)
   have cf2 := (HX2.out w4 HG4.out).2.1
   have hsz4 : W1.heap.size <= w4.heap.size := HG4.out.size
   clear hrb4 hg4 cf HTK HRB3 HO3 HG3 HRBQ HG HO hszr
   go_upto_region 5 with (fail)
   go_cut [11] (fun s wx => s = .bool (lastIs l1 z) ∧ Below w4.heap.size w4 wx)
   case first =>
    by_cases hq0' : q = 0
    ·have hgt : decide ((q : Int) > 0) = false := by rw [decide_eq_false_iff_not]; omega
     have hgt2 : decide (0 < q) = false := by rw [decide_eq_false_iff_not]; omega
     have hl0 : lastIs l1 z = false := by
      have : l1 = [] := Qt.1 (by rw [HQ.out]; exact hq0')
      rw [this]; rfl
     have HL0 := hid hl0
     clear hl0
     go_quiet (fail)
     go_wp2_with fail
     go_meet
     exact ⟨by rw [HL0.out], below_draws (Qc _ _) _⟩
    ·have hgt : decide ((q : Int) > 0) = true := by rw [decide_eq_true_iff]; omega
     have hgt2 : decide (0 < q) = true := by rw [decide_eq_true_iff]; omega
     have hqp : (0 : Int) < (q : Int) := by omega
     have hqm : IntKind.i64.wrap ((q : Int) - 1) = ((q - 1 : Nat) : Int) := by rw [Qf _ (by omega)]; omega
     have hqm2 : (((q - 1 : Nat) : Int)).toNat = q - 1 := by omega
     have hqm3 : (0 : Int) <= ((q - 1 : Nat) : Int) := by omega
     have hqm4 : ((q - 1 : Nat) : Int) < (q : Int) := by omega
     have hqm5 : (q : Int) - 1 = ((q - 1 : Nat) : Int) := by omega
     have hc4 := (zAu (by have h := HO4.out.rd; rw [HQ.out] at h; exact h)).2 (by omega)
     obtain ⟨B, off, rfl, hcell⟩ := hc4
     have hx := hcell (q - 1) (by omega)
     have hat := getD_at (l := l1) (q := q - 1) (by rw [HQ.out]; omega)
     obtain ⟨a, ha⟩ : ∃ a, a = l1.getD (q - 1) 0 := ⟨_, rfl⟩
     rw [<- ha] at hx hat
     have hlast := zG8 (z := z) (by rw [HQ.out]; omega) (by rw [HQ.out]; exact hat)
     have HL0 := hid hlast
     clear hcell ha hat hlast
     by_cases haz : a = z
     ·subst haz
      have HC := hid (zCc a a 0 (zE4 a))
      go_quiet ((go_at_call 153; exact Calls.quiet_of_same (HC.out _)))
      go_wp2_with fail
      go_meet
      exact ⟨by rw [HL0.out]; simp, below_draws (Qc _ _) _⟩
     ·obtain ⟨cc, hcc⟩ : ∃ cc, cc = cmpZ a z := ⟨_, rfl⟩
      have hcn : cc ≠ 0 := by rw [hcc]; exact zI7 haz
      have hcb : (cc == 0) = false := by rw [beq_eq_false_iff_ne]; exact hcn
      have HC := hid (zCc a z cc hcc.symm)
      clear hcc
      go_quiet ((go_at_call 153; exact Calls.quiet_of_same (HC.out _)))
      go_wp2_with fail
      go_meet
      exact ⟨by rw [HL0.out]; simp [haz], below_draws (Qc _ _) _⟩
   case rest =>
    obtain ⟨rfl, hb5⟩ := hcut
    have HB5 := hid hb5
    obtain ⟨w5, hw5⟩ := zEm (zAb hb5 none)
    clear hb5
    rw [<- hw5] at HB5 ⊢
    have HO5 := hid (zDd HO4.out HB5.out)
    have HRB5 := hid (HRB4.out.kept HB5.out hrW)
    have HG5 := hid (show W1.grownBy w5 (some r) from zAc HG4.out (zAb HB5.out _))
    obtain ⟨S, hS⟩ : ∃ S, S = lastIs l1 z := ⟨_, rfl⟩
    rw [<- hS] at HST ⊢
    have hw6 : IntKind.i64.wrap ((c : Int) - (q : Int)) = (c : Int) - (q : Int) := Qf _ (by omega)
    have hw7 : IntKind.u64.wrap ((c : Int) - (q : Int)) = (c : Int) - (q : Int) := Qi _ (by omega)
    have HOK := hid (zDh r left3 bad3 w5 HRB5.out.isR)
    have hsz5 : W1.heap.size <= w5.heap.size := HG5.out.size
    clear hS hw5 cf2 HO4 HRB4 HG4 HB5 hsz4
    go_wp2_with fail
    refine HOK.out.mono ?_
    rintro e w6 ⟨rfl, rfl⟩
    have hHW := HB1.out.size
    have HGW := hid (show w.grownBy w5 (some r) from zAc (zAb HB1.out _) HG5.out)
    by_cases hbad : bad3 = true ∨ U = 0 ∨ c - q < U ∨ S = true
    ·have HON := hid (show O = none by rw [<- HST.out, if_pos hbad])
     by_cases h1 : bad3 = true
     ·subst h1
      go_wp2_with fail
      go_ret2
      rw [HON.out]
      exact ⟨rfl, HGW.out⟩
     ·obtain rfl : bad3 = false := by simpa using h1
      by_cases h2 : U = 0
      ·subst h2
       go_wp2_with fail
       go_ret2
       rw [HON.out]
       exact ⟨rfl, HGW.out⟩
      ·have h2b : ((U : Int) == 0) = false := by rw [beq_eq_false_iff_ne]; omega
       by_cases h3 : c - q < U
       ·have h3b : decide ((U : Int) > (c : Int) - (q : Int)) = true := by rw [decide_eq_true_iff]; omega
        have h3c : (c : Int) - (q : Int) < (U : Int) := by omega
        go_wp2_with fail
        go_ret2
        rw [HON.out]
        exact ⟨rfl, HGW.out⟩
       ·have h3b : decide ((U : Int) > (c : Int) - (q : Int)) = false := by rw [decide_eq_false_iff_not]; omega
        have h3c : ¬ (c : Int) - (q : Int) < (U : Int) := by omega
        obtain rfl : S = true := by simpa [h2, h3] using hbad
        go_wp2_with fail
        go_ret2
        rw [HON.out]
        exact ⟨rfl, HGW.out⟩
    ·have HST2 := hid (show rdRuns (c - q - 1) c (l1 ++ Qa U z) left3 bad3 = O by rw [<- HST.out, if_neg hbad])
     simp only [not_or] at hbad
     obtain ⟨h1, h2, h3, h4⟩ := hbad
     obtain rfl : bad3 = false := by simpa using h1
     obtain rfl : S = false := by simpa using h4
     have h2b : ((U : Int) == 0) = false := by rw [beq_eq_false_iff_ne]; omega
     have h3b : decide ((U : Int) > (c : Int) - (q : Int)) = false := by rw [decide_eq_false_iff_not]; omega
     have h3c : ¬ (c : Int) - (q : Int) < (U : Int) := by omega
     have hUc : U <= c - q := by omega
     clear HST h1 h4 HGW
     go_wp2_with fail
     go_loopw [8, 60] (fun v i wr2 => ∃ j : Nat, j <= U ∧ i = .int .u64 (j : Int) ∧ OwnI W1.heap.size wr2 v (l1 ++ Qa j z) ∧ IsRB W1.heap.size wr2 r left3 false ∧ W1.grownBy wr2 (some r)) (fun _ i _ => U - (intOf i).toNat)
     case atStart => exact ⟨0, Qg _, rfl, (by rw [Qu, Qv]; have h := HO5.out; rw [HQ.out] at h; exact h), HRB5.out, HG5.out⟩
     case round =>
      obtain ⟨j, hj, rfl, hown, hrb, hgr⟩ := hrel
      obtain ⟨ao2, cap2, rfl⟩ := hown.shape
      have hlj : (l1 ++ Qa j z).length = q + j := by rw [Qj, HQ.out, Qw]
      rw [hlj] at hown ⊢
      have HLEN := hid hlj
      have HOJ := hid (show OwnI W1.heap.size wr (.slice ao2 (q + j) cap2) (l1 ++ Qa j z) from hown)
      have HRBJ := hid hrb
      have HGJ := hid hgr
      have hszA : W1.heap.size <= wr.heap.size := hgr.size
      clear hown hrb hgr hlj
      by_cases hlt2 : j < U
      ·have hlti2 : (j : Int) < (U : Int) := by omega
       have hj0 : (0 : Int) <= (j : Int) := by omega
       have cf := (HX2.out wr HGJ.out).2.2
       go_wp2_with fail
       refine (zJs z wr).mono ?_
       rintro e w7 ⟨rfl, rfl⟩
       clear cf
       have HOA := hid (show (wr.alloc (.cells #[.int .i64 z] 2)).ownsRow W1.heap.size 2 1 (.slice ao2 (q + j) cap2) (q + j) ((l1 ++ Qa j z).map (Value.int .i64)) from by have h := World.ownsRow.alloc HOJ.out (.cells #[.int .i64 z] 2); rw [HLEN.out] at h; exact h)
       have HLT := hid (zBa wr #[.int .i64 z] 2 1 rfl)
       have hszB : W1.heap.size <= (wr.alloc (.cells #[.int .i64 z] 2)).heap.size := zA7 hszA _
       have HONE := hid (show Ones 1 [[Value.int .i64 z]] from fun t ht => by rw [Qh.1 ht]; exact ⟨rfl, fun u hu => by rw [Qh.1 hu]; rfl⟩)
       go_wp2_with (at_builtin; go_must (refine zAf zG2 rfl _ _ rfl W1.heap.size _ _ _ rfl HOA.out _ [[Value.int .i64 z]] rfl HLT.out HONE.out (by simp; omega) hszB ((q + j) + 1) rfl ?_); intro ao9 cap9 w9 hown9 hgrow9 hnew9; have HO9 := hid hown9; have HG9 := hid hgrow9; clear hown9 hgrow9 hnew9)
       go_roundw
       case rel =>
        have hg9 : wr.grownBy w9 (Value.slice ao2 (q + j) cap2).ownBlock := zAc (zBz (Qx wr _ none)) HG9.out
        have hk9 : ∀ k, (Value.slice ao2 (q + j) cap2).ownBlock = some k -> W1.heap.size <= k := by have h := zAg HOJ.out; exact h
        refine ⟨j + 1, by omega, by go_num, ?_, HRBJ.out.own hg9 hk9 hrW, zDe (base := 0) HGJ.out hg9 hk9⟩
        have h := HO9.out
        rw [List.replicate_succ', <- List.append_assoc]
        exact OwnI.of (by simpa using h)
       case measure => simp [intOf]; omega
      ·have hjU : j = U := by omega
       subst hjU
       have hlti2 : ¬ (j : Int) < (j : Int) := by omega
       have HO6 := hid (show rdRuns (c - (l1 ++ Qa j z).length) c (l1 ++ Qa j z) left3 false = O from by
        rw [<- HST2.out]
        exact zCy _ _ _ _ _ _ (Qb _) (by rw [HLEN.out]; omega))
       go_wp2_with fail
       go_roundw
       case rel => exact ⟨l1 ++ Qa j z, left3, false, by rw [HLEN.out]; omega, (by have h := HOJ.out; rw [<- HLEN.out] at h ⊢; exact h), HRBJ.out, HM3.out, hbig3, HO6.out, HGJ.out⟩
       case measure => simp [lenV]; omega
  ·have hqc : q = c := by omega
   subst hqc
   have hlti : ¬ (q : Int) < (q : Int) := by omega
   have HW := hid (zD5 W1.heap.size r left1 bad1 l1 (.slice ao q cap) wr HRBQ.out.isR hbl1 (by have h := HO.out; exact h))
   go_wp2_with fail
   refine HW.out.mono ?_
   rintro e w5 ⟨hret, hb5⟩
   have HG5 := hid (show w.grownBy w5 (some r) from zAc (zAc (zAb HB1.out _) HG.out) (zAb hb5 _))
   have hOe : wholeT l1 left1 bad1 = O := by
    rw [<- HO1.out]
    exact (zBi _ _ _ _ _ (by rw [HQ.out]; exact Qb _)).symm
   rw [hOe] at hret
   have hHW := HB1.out.size
   clear hb5 HW hOe HOO HO1
   cases O with
   | none =>
    obtain rfl : e = .returned (.tuple #[.slice none 0 0, .bool false]) := hret
    go_wp2_with fail
    go_ret2
    exact ⟨rfl, HG5.out⟩
   | some lz =>
    obtain ⟨v5, rfl, hown5⟩ := hret
    have HO5 := hid hown5
    clear hown5
    go_wp2_with fail
    go_ret2
    exact ⟨⟨_, rfl, zAo HO5.out hHW⟩, HG5.out⟩
theorem zCp {left : List Nat} {bad : Bool} : ∀ (q n : Nat), q <= n -> rdWords q left bad = none -> rdWords n left bad = none
 | q, 0, h, hq => by
   have : q = 0 := by omega
   subst this; exact hq
 | q, n + 1, h, hq => by
  by_cases e : q = n + 1
  ·subst e; exact hq
  ·rw [rdWords, zCp q n (by omega) hq]
def RetW (base r : Nat) (o : Option (List Int × List Nat × Bool)) (e : Ending) (w' : World) : Prop := match o with
 | some p => ∃ v, e = .returned (.tuple #[v, .bool (!p.2.2)]) ∧ OwnI base w' v p.1 ∧ IsR w' r p.2.1 p.2.2 ∧ (∀ x ∈ p.2.1, x < 256) ∧ p.2.1.length <= 1000000
 | none => e = .returned (.tuple #[.slice none 0 0, .bool false])
def wordNo (ws : List Int) (z : Int) (bad : Bool) : Bool := bad || match ws.getLast? with
 | some y => decide (z <= y)
 | none => false
theorem zDm (ws : List Int) (z : Int) (bad : Bool) : wordNo ws z bad = true ↔ (bad = true ∨ ∃ y, ws.getLast? = some y ∧ z <= y) := by
 unfold wordNo
 cases h : ws.getLast? with
 | none => simp
 | some y => simp
theorem zGf (r : Nat) (left : List Nat) (bad : Bool) (c : Nat) (w : World) (h : IsR w r left bad) (h256 : ∀ x ∈ left, x < 256) (hbig : left.length <= 1000000) (hc : c <= 65535) :
  Calls Tryz.prog 182 #[.agg #[.func (.func 154) #[] #[], .func (.func 155) #[] #[], .func (.func 153) #[] #[], .func (.func 156) #[] #[]], .pointer (some ⟨r, 0, none⟩), .int .i64 (c : Int)] w fun e w' => RetW w.heap.size r (rdWords c left bad) e w' ∧ w.grownBy w' (some r) := by
 have hrl := h.lt
 have H := hid h
 have H256 := hid h256
 clear h h256
 go_enter Tryz.func182, Tryz.ntmps182
 go_upto_region 1 with (fail)
 obtain ⟨W1, hW1⟩ : ∃ W1 : World, W1 = w.alloc (.cells #[.func (.func 154) #[] #[], .func (.func 155) #[] #[], .func (.func 153) #[] #[], .func (.func 156) #[] #[]] 185) := ⟨_, rfl⟩
 obtain ⟨X, hX⟩ : ∃ X, X = w.heap.size := ⟨_, rfl⟩
 have hxb : W1.heap[X]? = some (.cells #[.func (.func 154) #[] #[], .func (.func 155) #[] #[], .func (.func 153) #[] #[], .func (.func 156) #[] #[]] 185 (0, 0)) := by rw [hW1, hX]; exact Jh w _
 have HB1 := hid (show Below w.heap.size w W1 by rw [hW1]; exact zAd w _)
 rw [<- hW1, <- hX]
 have HXX := hid (show X = w.heap.size ∧ X < W1.heap.size from ⟨hX, (Qm.1 hxb).1⟩)
 have HX := hid fun (w' : World) (h : Below W1.heap.size W1 w') => zAv ((h.block X HXX.out.2).trans hxb)
 clear hW1 hX hxb
 have HRB := hid (IsRB.mono (zEl (H.out.kept HB1.out)) (Qb _))
 have HX2 := hid (show ∀ wr : World, W1.grownBy wr (some r) -> wr.cell? ⟨X, 1, none⟩ = some (.func (.func 155) #[] #[]) ∧ wr.cell? ⟨X, 2, none⟩ = some (.func (.func 153) #[] #[]) ∧ wr.cell? ⟨X, 3, none⟩ = some (.func (.func 156) #[] #[]) from fun wr hg => by
  have hne : ∀ i, some ((⟨X, i, none⟩ : Addr)).block ≠ some r := fun i => by rw [HXX.out.1]; simp; omega
  have h := HX.out W1 (Qc _ _)
  exact ⟨hg.cell h.2.1 (hne 1), hg.cell h.2.2.1 (hne 2), hg.cell h.2.2.2 (hne 3)⟩)
 have hrW : r < W1.heap.size := Qs hrl HB1.out.size
 have hc0 : (0 : Int) <= (c : Int) := by omega
 obtain ⟨ei, he1, he2, he3, he4⟩ := zCv
 obtain ⟨W2, hmk, hown2, hg2⟩ := run_make_own (P := Tryz.prog) W1 W1.heap.size 130 2 ei (.int .i64 0) 1 Tryz.underlying130 he1 he2 he3 .i64 .i64 c (by rw [he4]; omega) (by unfold maxLen; omega) (Qb _)
 obtain ⟨mv, hmv⟩ : ∃ mv, mv = Value.slice (some ⟨W1.heap.size, 0, none⟩) 0 c := ⟨_, rfl⟩
 rw [<- hmv] at hmk hown2
 have HO2 := hid (show OwnI W1.heap.size W2 mv [] from hown2)
 have HG2 := hid (show W1.grownBy W2 (some r) from zB1 hg2)
 have HRB2 := hid (HRB.out.own hg2 (fun k e => by cases e) hrW)
 clear hown2 hg2 he1 he2 he3 he4 hmv
 go_upto_region 2 with (fail)
 clear hmk
 go_wp2_with fail
 go_loopw [8, 14] (fun v i wr => ∃ q : Nat, q <= c ∧ i = .int .i64 (q : Int) ∧ ∃ (ws : List Int) (left1 : List Nat) (bad1 : Bool), rdWords q left bad = some (ws, left1, bad1) ∧ ws.length = q ∧ OwnI W1.heap.size wr v ws ∧ IsRB W1.heap.size wr r left1 bad1 ∧ (∀ x ∈ left1, x < 256) ∧ left1.length <= 1000000 ∧ W1.grownBy wr (some r)) (fun _ i _ => c - (intOf i).toNat)
 case atStart => exact ⟨0, Qg _, rfl, [], left, bad, rfl, rfl, HO2.out, HRB2.out, H256.out, hbig, HG2.out⟩
 case round =>
  obtain ⟨q, hqc, rfl, l1, left1, bad1, hrd, hq, hown, hrb, hm1, hbl1, hgr⟩ := hrel
  obtain ⟨ao, cap, rfl⟩ := hown.shape
  rw [hq] at hown ⊢
  have HO := hid (show OwnI W1.heap.size wr (.slice ao q cap) l1 from hown)
  have HQ := hid hq
  have HRD := hid hrd
  have HRBQ := hid hrb
  have HG := hid hgr
  have HM1 := hid hm1
  have hszr : W1.heap.size <= wr.heap.size := hgr.size
  have hHW := HB1.out.size
  clear hown hrb hgr hm1 hrd hq
  by_cases hlt : q < c
  ·have hlti : (q : Int) < (c : Int) := by omega
   have hq0 : (0 : Int) <= (q : Int) := by omega
   have hm3 := zB4 (bad := bad1) HM1.out
   have hbl3 := zB5 left1 bad1
   have HTK := hid (zGd W1.heap.size r left1 bad1 wr HRBQ.out HM1.out hbl1)
   obtain ⟨z, hz⟩ : ∃ z, z = (takeR left1 bad1).1 := ⟨_, rfl⟩
   obtain ⟨left3, hleft3⟩ : ∃ left3, left3 = (takeR left1 bad1).2.1 := ⟨_, rfl⟩
   obtain ⟨bad3, hbad3⟩ : ∃ bad3, bad3 = (takeR left1 bad1).2.2 := ⟨_, rfl⟩
   rw [<- hleft3] at hm3 hbl3
   rw [<- hz, <- hleft3, <- hbad3] at HTK
   have HM3 := hid hm3
   have hbig3 : left3.length <= 1000000 := by omega
   have hstep : rdWords (q + 1) left bad = if wordNo l1 z bad3 = true then none else some (l1 ++ [z], left3, bad3) := by
    rw [rdWords, HRD.out]
    simp only
    rw [<- hz, <- hbad3]
    have e3 : (takeR left1 bad1).2 = (left3, bad3) := by rw [hleft3, hbad3]
    rw [e3]
    by_cases hw : wordNo l1 z bad3 = true
    ·rw [if_pos hw, if_pos ((zDm _ _ _).1 hw)]
    ·rw [if_neg hw, if_neg (fun h => hw ((zDm _ _ _).2 h))]
   have HST := hid hstep
   have cf := (HX2.out wr HG.out).1
   clear hz hleft3 hbad3 hstep hm3 hbl3 HM1
   go_wp2_with fail
   refine HTK.out.mono ?_
   rintro e w4 ⟨rfl, hrb4, hg4⟩
   have HRB4 := hid hrb4
   have HO4 := hid (show OwnI W1.heap.size w4 (.slice ao l1.length cap) l1 from (show OwnI W1.heap.size wr (.slice ao l1.length cap) l1 from by rw [HQ.out]; exact HO.out).kept hg4 (.inr (fun e => by have := zAg HO.out r (by rw [<- HQ.out]; exact e); omega)))
   have HG4 := hid (show W1.grownBy w4 (some r) from zAc HG.out hg4)
   have cf2 := (HX2.out w4 HG4.out).2.1
   have hsz4 : W1.heap.size <= w4.heap.size := HG4.out.size
   have HOK := hid (show ∀ nq, Calls Tryz.prog 179 #[.pointer (some ⟨r, 0, none⟩)] (w4.drewN nq) fun e w' => e = .returned (.bool (!bad3)) ∧ w' = w4.drewN nq from fun nq => by
    refine (zDh r left3 bad3 _ (HRB4.out.kept (below_draws (Qc _ _) nq) hrW).isR).mono ?_
    rintro e w' ⟨rfl, rfl⟩
    exact ⟨rfl, rfl⟩)
   clear hrb4 hg4 cf HTK HRBQ HG HO hszr
   go_upto_region 6 with (fail)
   go_cut [39] (fun s wx => s = .bool (wordNo l1 z bad3) ∧ Below w4.heap.size w4 wx)
   case first =>
    cases bad3
    ·by_cases hq0' : q = 0
     ·have hgt : decide ((q : Int) > 0) = false := by rw [decide_eq_false_iff_not]; omega
      have hgt2 : decide (0 < q) = false := by rw [decide_eq_false_iff_not]; omega
      have hl0 : wordNo l1 z false = false := by
       have : l1 = [] := Qt.1 (by rw [HQ.out]; exact hq0')
       rw [this]; rfl
      have HL0 := hid hl0
      clear hl0
      go_quiet ((go_at_call 179; exact Calls.quiet_of_same (HOK.out _)))
      go_wp2_with fail
      go_meet
      exact ⟨by rw [HL0.out], below_draws (Qc _ _) _⟩
     ·have hgt : decide ((q : Int) > 0) = true := by rw [decide_eq_true_iff]; omega
      have hgt2 : decide (0 < q) = true := by rw [decide_eq_true_iff]; omega
      have hqp : (0 : Int) < (q : Int) := by omega
      have hqm : IntKind.i64.wrap ((q : Int) - 1) = ((q - 1 : Nat) : Int) := by rw [Qf _ (by omega)]; omega
      have hqm2 : (((q - 1 : Nat) : Int)).toNat = q - 1 := by omega
      have hqm3 : (0 : Int) <= ((q - 1 : Nat) : Int) := by omega
      have hqm4 : ((q - 1 : Nat) : Int) < (q : Int) := by omega
      have hqm5 : (q : Int) - 1 = ((q - 1 : Nat) : Int) := by omega
      have hc4 := (zAu (by have h := HO4.out.rd; rw [HQ.out] at h; exact h)).2 (by omega)
      obtain ⟨B, off, rfl, hcell⟩ := hc4
      have hx := hcell (q - 1) (by omega)
      have hat := getD_at (l := l1) (q := q - 1) (by rw [HQ.out]; omega)
      obtain ⟨a, ha⟩ : ∃ a, a = l1.getD (q - 1) 0 := ⟨_, rfl⟩
      rw [<- ha] at hx hat
      have hlast : wordNo l1 z false = decide (z <= a) := by
       unfold wordNo
       rw [List.getLast?_eq_getElem?, HQ.out, hat]
       rfl
      have HL0 := hid hlast
      clear hcell ha hat hlast
      obtain ⟨cc, hcc⟩ : ∃ cc, cc = cmpZ a z := ⟨_, rfl⟩
      have HC := hid (zCc a z cc hcc.symm)
      by_cases haz : z <= a
      ·have hge : (0 : Int) <= cc := by rw [hcc]; unfold cmpZ; split <;> (try split) <;> omega
       have hgeb : decide (cc ≥ 0) = true := by rw [decide_eq_true_iff]; exact hge
       clear hcc
       go_quiet ((first | (go_at_call 153; exact Calls.quiet_of_same (HC.out _)) | (go_at_call 179; exact Calls.quiet_of_same (HOK.out _))))
       go_wp2_with fail
       go_meet
       exact ⟨by rw [HL0.out]; simp [haz], below_draws (Qc _ _) _⟩
      ·have hge : ¬ (0 : Int) <= cc := by rw [hcc]; unfold cmpZ; rw [if_pos (by omega)]; decide
       have hgeb : decide (cc ≥ 0) = false := by rw [decide_eq_false_iff_not]; exact hge
       clear hcc
       go_quiet ((first | (go_at_call 153; exact Calls.quiet_of_same (HC.out _)) | (go_at_call 179; exact Calls.quiet_of_same (HOK.out _))))
       go_wp2_with fail
       go_meet
       exact ⟨by rw [HL0.out]; simp [haz], below_draws (Qc _ _) _⟩
    ·go_quiet ((go_at_call 179; exact Calls.quiet_of_same (HOK.out _)))
     go_wp2_with fail
     go_meet
     exact ⟨rfl, below_draws (Qc _ _) _⟩
   case rest =>
    obtain ⟨rfl, hb5⟩ := hcut
    have HB5 := hid hb5
    obtain ⟨w5, hw5⟩ := zEm (zAb hb5 none)
    clear hb5
    rw [<- hw5] at HB5 ⊢
    have HO5 := hid (zDd HO4.out HB5.out)
    have HRB5 := hid (HRB4.out.kept HB5.out hrW)
    have HG5 := hid (show W1.grownBy w5 (some r) from zAc HG4.out (zAb HB5.out _))
    obtain ⟨S, hS⟩ : ∃ S, S = wordNo l1 z bad3 := ⟨_, rfl⟩
    have HSS := hid hS
    rw [<- hS] at HST ⊢
    have hszA : W1.heap.size <= w5.heap.size := HG5.out.size
    clear hS hw5 cf2 HO4 HRB4 HG4 HB5 hsz4 HOK
    cases S
    ·have HST2 := hid (show rdWords (q + 1) left bad = some (l1 ++ [z], left3, bad3) from by rw [HST.out]; rfl)
     have HLEN := hid HQ.out
     rw [HQ.out] at HO5
     have HOA := hid (show (w5.alloc (.cells #[.int .i64 z] 2)).ownsRow W1.heap.size 2 1 (.slice ao q cap) q (l1.map (Value.int .i64)) from by have h := World.ownsRow.alloc HO5.out (.cells #[.int .i64 z] 2); rw [HLEN.out] at h; exact h)
     have HLT := hid (zBa w5 #[.int .i64 z] 2 1 rfl)
     have hszB : W1.heap.size <= (w5.alloc (.cells #[.int .i64 z] 2)).heap.size := zA7 hszA _
     have HONE := hid (show Ones 1 [[Value.int .i64 z]] from fun t ht => by rw [Qh.1 ht]; exact ⟨rfl, fun u hu => by rw [Qh.1 hu]; rfl⟩)
     go_wp2_with (at_builtin; go_must (refine zAf zG2 rfl _ _ rfl W1.heap.size _ _ _ rfl HOA.out _ [[Value.int .i64 z]] rfl HLT.out HONE.out (by simp; omega) hszB (q + 1) rfl ?_); intro ao9 cap9 w9 hown9 hgrow9 hnew9; have HO9 := hid hown9; have HG9 := hid hgrow9; clear hown9 hgrow9 hnew9)
     go_roundw
     case rel =>
      have hg9 : w5.grownBy w9 (Value.slice ao q cap).ownBlock := zAc (zBz (Qx w5 _ none)) HG9.out
      have hk9 : ∀ k, (Value.slice ao q cap).ownBlock = some k -> W1.heap.size <= k := by have h := zAg HO5.out; exact h
      refine ⟨q + 1, by omega, by go_num, l1 ++ [z], left3, bad3, HST2.out, by rw [Qj, HQ.out]; rfl, ?_, HRB5.out.own hg9 hk9 hrW, HM3.out, hbig3, zDe (base := 0) HG5.out hg9 hk9⟩
      have h := HO9.out
      exact OwnI.of (by simpa using h)
     case measure => simp [intOf]; omega
    ·have HST2 := hid (zCp (q + 1) c (by omega) (show rdWords (q + 1) left bad = none from by rw [HST.out]; rfl))
     have HGW := hid (show w.grownBy w5 (some r) from zAc (zAb HB1.out _) HG5.out)
     go_wp2_with fail
     go_ret2
     rw [HST2.out]
     exact ⟨rfl, HGW.out⟩
  ·have hqc : q = c := by omega
   subst hqc
   have hlti : ¬ (q : Int) < (q : Int) := by omega
   have HGW := hid (show w.grownBy wr (some r) from zAc (zAb HB1.out _) HG.out)
   have HOK := hid (zDh r left1 bad1 wr HRBQ.out.isR)
   go_wp2_with fail
   refine HOK.out.mono ?_
   rintro e w5 ⟨rfl, rfl⟩
   go_wp2_with fail
   go_ret2
   rw [HRD.out]
   exact ⟨⟨_, rfl, zAo (by have h := HO.out; exact h) hHW, HRBQ.out.isR, HM1.out, hbl1⟩, HGW.out⟩
theorem zEd (n : Nat) (hn : n <= 100000) (w : World) : Calls Tryz.prog 166 #[.int .i64 (n : Int)] w fun e w' => e = .returned (.int .i64 (Lib.bitLen (n - 1) : Nat)) ∧ w = w' := by
 have hm : max ((n : Int) - 1) 0 = ((n - 1 : Nat) : Int) := by omega
 have hw1 : IntKind.i64.wrap ((n : Int) - 1) = (n : Int) - 1 := Qf _ (by omega)
 have hw2 : IntKind.u64.wrap ((n - 1 : Nat) : Int) = ((n - 1 : Nat) : Int) := Qi _ (by omega)
 have HW := hid (zGu (n - 1) w (by omega))
 go_enter Tryz.func166, Tryz.ntmps166
 go_wp2_with fail
 refine HW.out.mono ?_
 rintro e w2 ⟨rfl, rfl⟩
 go_wp2_with fail
 go_ret
 exact ⟨rfl, rfl⟩
def usedT (ps : List Nat) (n : Nat) : List Bool := (Qd n).map fun j => ps.contains j
def freeT (ps : List Nat) (n : Nat) : Nat := (Qd n).countP fun j => !ps.contains j
theorem zLe (P : Nat -> Bool) (p : Nat) (hP : P p = false) : ∀ n, (Qd n).countP (fun j => !(P j || j == p)) + (if p < n then 1 else 0) = (Qd n).countP (fun j => !P j)
 | 0 => by simp
 | n + 1 => by
  have ih := zLe P p hP n
  rw [List.range_succ, Qy, Qy, <- ih]
  by_cases hn : n = p
  ·subst hn
   simp [Qz, hP]
  ·have h1 : (n == p) = false := by rw [beq_eq_false_iff_ne]; exact hn
   have h2 : (p < n + 1) ↔ (p < n) := by omega
   simp only [Qz, List.countP_nil, h1, Qn, h2]
   omega
theorem zEa (ps : List Nat) (p j : Nat) : (ps ++ [p]).contains j = (ps.contains j || j == p) := by
 rw [List.contains_append]
 congr 1
 rw [List.contains_cons]
 simp
theorem zE8 (ps : List Nat) (n : Nat) : (usedT ps n).length = n := by simp [usedT]
theorem zGg (ps : List Nat) {n j : Nat} (h : j < n) : (usedT ps n)[j]? = some (ps.contains j) := by simp [usedT, h]
theorem zMn {ps : List Nat} {p n : Nat} (h : ps.contains p = true) : usedT (ps ++ [p]) n = usedT ps n ∧ freeT (ps ++ [p]) n = freeT ps n := by
 have e : ∀ j, (ps ++ [p]).contains j = ps.contains j := fun j => by
  rw [zEa]
  by_cases hj : j = p
  ·subst hj; rw [h]; rfl
  ·rw [beq_eq_false_iff_ne.2 hj, Qn]
 unfold usedT freeT
 simp only [e]
 exact ⟨trivial, trivial⟩
theorem zPl {ps : List Nat} {p n : Nat} (h : ps.contains p = false) (hp : p < n) : usedT (ps ++ [p]) n = (usedT ps n).set p true ∧ freeT (ps ++ [p]) n + 1 = freeT ps n := by
 constructor
 ·apply Ja
  intro j
  by_cases hj : j < n
  ·rw [zGg _ hj, List.getElem?_set, zE8, zGg _ hj, zEa]
   by_cases e : p = j
   ·subst e
    simp [hp]
   ·rw [if_neg e]
    rw [beq_eq_false_iff_ne.2 (fun h => e h.symm), Qn]
  ·rw [Qo (by rw [zE8]; omega), Qo (by rw [List.length_set, zE8]; omega)]
 ·have h1 := zLe (fun j => ps.contains j) p h n
  rw [if_pos hp] at h1
  unfold freeT
  simp only [zEa]
  exact h1
theorem zPm (n : Nat) : freeT [] n = n := by
 unfold freeT
 rw [List.countP_eq_length.2 (fun a _ => by simp), Jb]
theorem zNz (ps : List Nat) (n : Nat) : ((freeT ps n : Int) == 0) = (Qd n).all fun w => ps.contains w := by
 rw [Bool.eq_iff_iff, beq_iff_eq, Qk]
 unfold freeT
 rw [show (((Qd n).countP fun j => !ps.contains j : Nat) : Int) = 0 ↔ ((Qd n).countP fun j => !ps.contains j) = 0 by omega, List.countP_eq_zero]
 simp
theorem zPn : (Tryz.prog.info? 4).map (fun i => (i.zero, i.size, i.bytes)) = some (some (.bool false), 1, 1) := by kernel_rfl
theorem info_parts {t : TypeId} {z : Value} {sz b : Nat} (h : (Tryz.prog.info? t).map (fun i => (i.zero, i.size, i.bytes)) = some (some z, sz, b)) : ∃ ei, Tryz.prog.info? t = some ei ∧ ei.zero = some z ∧ ei.size = sz ∧ ei.bytes = b := by
 cases hq : Tryz.prog.info? t with
 | none => rw [hq] at h; cases h
 | some i =>
  rw [hq] at h
  simp only [Qr, Option.some.injEq, Prod.mk.injEq] at h
  exact ⟨i, rfl, h.1, h.2.1, h.2.2⟩
theorem zHx (ps : List Nat) (pv : Value) (n : Nat) (w : World) (hr : Rd w pv (ps.map u64v)) (h64 : ∀ x ∈ ps, x < 18446744073709551616) (hlp : ps.length <= 65535) (hn : n <= 65535) :
  Calls Tryz.prog 183 #[pv, .int .i64 (n : Int)] w fun e w' => e = .returned (.bool (allUsedT ps n)) ∧ Below w.heap.size w w' := by
 obtain ⟨ao, cap, rfl⟩ := zAh hr
 obtain ⟨m, hm⟩ : ∃ m, m = ps.length := ⟨_, rfl⟩
 rw [Qe, <- hm] at hr ⊢
 rw [<- hm] at hlp
 have HR := hid hr
 have H64 := hid h64
 have HM := hid hm
 obtain ⟨ei, he1, he2, he3, he4⟩ := info_parts zPn
 obtain ⟨W1, hmk, hown1, hg1⟩ := run_make_full (P := Tryz.prog) w w.heap.size 129 4 ei (.bool false) 1 Tryz.underlying129 he1 he2 he3 .i64 .i64 n (by rw [he4]; omega) (by unfold maxLen; omega) (Qb _)
 obtain ⟨G, hG⟩ : ∃ G, G = w.heap.size := ⟨_, rfl⟩
 rw [<- hG] at hmk hown1
 have hown2 : W1.ownsRow G 4 1 (.slice (some ⟨G, 0, none⟩) n n) n ((usedT [] n).map Value.bool) := by
  rw [show (Value.bool false).cells = #[Value.bool false] from rfl, Jc, toList_madeCells_one] at hown1
  have e : (usedT [] n).map Value.bool = Qa n (Value.bool false) := by
   apply Ja
   intro j
   rw [Jd, List.getElem?_replicate]
   by_cases hj : j < n
   ·rw [zGg _ hj, if_pos hj]; rfl
   ·rw [if_neg hj, Qo (by rw [zE8]; omega)]; rfl
  rw [e]
  exact hown1
 have HO1 := hid hown2
 have HB1 := hid (show Below w.heap.size w W1 from ⟨hg1.os, hg1.tape, hg1.output, hg1.size, fun i hi => hg1.block i hi (by simp)⟩)
 have HGG := hid hG
 have hmn := HM.out
 clear hr h64 hm hown1 hown2 hg1 he1 he2 he3 he4 hG hmn
 go_enter Tryz.func183, Tryz.ntmps183
 go_upto_region 2 with (fail)
 clear hmk
 go_wp2_with fail
 go_loopw [6, 14] (fun k i wr => ∃ q : Nat, q <= m ∧ i = .int .i64 (q : Int) ∧ k = .int .i64 ((freeT (ps.take q) n : Nat) : Int) ∧ (∀ x ∈ ps.take q, x < n) ∧ wr.ownsRow G 4 1 (.slice (some ⟨G, 0, none⟩) n n) n ((usedT (ps.take q) n).map Value.bool) ∧ Below w.heap.size w wr) (fun _ i _ => m - (intOf i).toNat)
 case atStart => exact ⟨0, Qg _, rfl, by rw [List.take_zero, zPm], (fun x hx => by simp at hx), HO1.out, HB1.out⟩
 case round =>
  obtain ⟨q, hq, rfl, rfl, hlt9, hown, hbel⟩ := hrel
  have HLT := hid hlt9
  have HO := hid hown
  have HBL := hid hbel
  have hfr := List.countP_le_length (l := Qd n) (p := fun j => !(ps.take q).contains j)
  obtain ⟨F, hF⟩ : ∃ F, F = freeT (ps.take q) n := ⟨_, rfl⟩
  have hFn : F <= n := by rw [hF]; unfold freeT; rw [Jb] at hfr; exact hfr
  rw [<- hF]
  have HF := hid hF
  clear hlt9 hown hbel hfr hF
  by_cases hlt : q < m
  ·have hlti : (q : Int) < (m : Int) := by omega
   have hq0 : (0 : Int) <= (q : Int) := by omega
   have hc := (zBq (HR.out.kept HBL.out)).2
   obtain ⟨b, off, rfl, hcell⟩ := hc (by omega)
   have hx := hcell q hlt
   obtain ⟨p, hp⟩ : ∃ p, p = ps.getD q 0 := ⟨_, rfl⟩
   rw [<- hp] at hx
   have hat : ps[q]? = some p := by rw [hp, Qp, Qq (by rw [<- HM.out]; exact hlt)]; rfl
   have hp64 : p < 18446744073709551616 := H64.out p (Ql hat)
   have htk : ps.take (q + 1) = ps.take q ++ [p] := by rw [Je, hat]; rfl
   have HTK := hid htk
   have HAT := hid hat
   have hw1 : IntKind.u64.wrap (n : Int) = (n : Int) := Qi _ (by omega)
   clear hc hcell hp hat htk
   by_cases hpn : p < n
   ·have hpb : decide ((p : Int) ≥ (n : Int)) = false := by rw [decide_eq_false_iff_not]; omega
    have hpc : ¬ (n : Int) <= (p : Int) := by omega
    have hpi : (p : Int) < (n : Int) := by omega
    have hp0 : (0 : Int) <= (p : Int) := by omega
    have hcu := HO.out.cellAt p (by omega)
    rw [Jd, zGg _ hpn] at hcu
    have hfz := HO.out.frozenAt p
    obtain ⟨B, hB⟩ : ∃ B, B = (ps.take q).contains p := ⟨_, rfl⟩
    rw [<- hB] at hcu
    have hcu2 : wr.cell? ⟨G, p, none⟩ = some (.bool B) := hcu
    have HBB := hid hB.symm
    have HLT2 := hid (show ∀ x ∈ ps.take (q + 1), x < n from fun x hx => by
     rw [HTK.out, List.mem_append] at hx
     rcases hx with hx | hx
     ·exact HLT.out x hx
     ·rw [Qh.1 hx]; exact hpn)
    clear hB hcu
    cases B
    ·obtain ⟨h1, h2⟩ := zPl HBB.out hpn
     have hF1 : 0 < F := by rw [HF.out]; omega
     have hwf : IntKind.i64.wrap ((F : Int) - 1) = ((F - 1 : Nat) : Int) := by rw [Qf _ (by omega)]; omega
     have hwf2 : (F : Int) - 1 = ((F - 1 : Nat) : Int) := by omega
     have HU := hid h1
     have HF2 := hid h2
     have hst := HO.out.stored p (.bool true)
     have HST := hid hst
     clear h1 h2 hst
     go_wp2_with fail
     go_roundw
     case rel =>
      refine ⟨q + 1, by omega, by go_num, ?_, HLT2.out, ?_, ?_⟩
      ·have := HF2.out
       have := HF.out
       rw [HTK.out]
       congr 1
       omega
      ·have h := HST.out.1
       rw [HTK.out, HU.out, Jf]
       exact h
      ·exact HBL.out.setCell (p := ⟨G, p, none⟩) (by show _ <= G; rw [HGG.out]; exact Qb _) _
     case measure => simp [intOf]; omega
    ·obtain ⟨h1, h2⟩ := zMn (n := n) HBB.out
     have HU := hid h1
     have HF2 := hid h2
     clear h1 h2
     go_wp2_with fail
     go_roundw
     case rel =>
      refine ⟨q + 1, by omega, by go_num, ?_, HLT2.out, ?_, HBL.out⟩
      ·rw [HTK.out, HF2.out, HF.out]
      ·rw [HTK.out, HU.out]
       exact HO.out
     case measure => simp [intOf]; omega
   ·have hpb : decide ((p : Int) ≥ (n : Int)) = true := by rw [decide_eq_true_iff]; omega
    have hpc : (n : Int) <= (p : Int) := by omega
    have HNO := hid (show allUsedT ps n = false from by
     unfold allUsedT
     rw [Bool.and_eq_false_iff]
     left
     rw [<- Bool.not_eq_true, Qk]
     intro h
     have := h p (Ql HAT.out)
     rw [decide_eq_true_iff] at this
     exact hpn this)
    go_wp2_with fail
    go_ret
    exact ⟨by rw [HNO.out]; rfl, HBL.out⟩
  ·have hqm : q = m := by omega
   subst hqm
   have hlti : ¬ (q : Int) < (q : Int) := by omega
   have htk : ps.take q = ps := by rw [HM.out, List.take_length]
   have HYES := hid (show ((F : Int) == 0) = allUsedT ps n from by
    rw [HF.out, htk, zNz]
    unfold allUsedT
    have : ps.all (fun p => decide (p < n)) = true := by
     rw [Qk]
     intro x hx
     rw [decide_eq_true_iff]
     have h := HLT.out x
     rw [htk] at h
     exact h hx
    rw [this, Bool.true_and])
   clear htk
   go_wp2_with fail
   go_ret
   exact ⟨by rw [<- HYES.out]; first | rfl | simp, HBL.out⟩
theorem zDy {bs us : List Nat} {n count : Int} (h : unpackB bs n count = some us) : us.length = count.toNat ∧ (∀ x ∈ us, x < 18446744073709551616) := by
 unfold unpackB at h
 split at h
 ·simp only [Option.some.injEq] at h
  subst h
  refine ⟨by simp, fun x hx => ?_⟩
  obtain ⟨i, _, rfl⟩ := List.mem_map.1 hx
  have h1 := zIz bs (i * heldN n) (heldN n)
  have h2 : (2 : Nat) ^ heldN n <= 2 ^ 64 := Nat.pow_le_pow_right (by decide) (zF3 n)
  have e : (2 : Nat) ^ 64 = 18446744073709551616 := by decide
  omega
 ·cases h
theorem zDt {bs : List Nat} (h : ∀ x ∈ bs, x < 256) (i : Nat) : bs.getD i 0 < 256 := by
 rw [Qp]
 cases hq : bs[i]? with
 | none => decide
 | some x => exact h x (Ql hq)
def dictU (ws : List Int) (o : Option (List Nat)) : Option (List Int) := match o with
 | none => none
 | some ps => if allUsedT ps ws.length = true then some (ps.map fun p => ws.getD p 0) else none
def dictW (c : Nat) (o : Option (List Int × List Nat × Bool)) : Option (List Int) := match o with
 | none => none
 | some p => if p.2.2 = true then none else dictU p.1 (unpackB p.2.1 (Lib.bitLen (p.1.length - 1) : Nat) (c : Int))
theorem zHa (c : Nat) (left : List Nat) (bad : Bool) : rdDict c left bad = if c < (numR left bad).1 then none else dictW c (rdWords (numR left bad).1 (numR left bad).2.1 (numR left bad).2.2) := by
 unfold rdDict
 split
 ·rfl
 ·cases rdWords (numR left bad).1 (numR left bad).2.1 (numR left bad).2.2 with
  | none => rfl
  | some p =>
   obtain ⟨ws, l2, b2⟩ := p
   show _ = if b2 = true then none else dictU ws (unpackB l2 (Lib.bitLen (ws.length - 1) : Nat) (c : Int))
   simp only
   split
   ·rfl
   ·cases unpackB l2 (Lib.bitLen (ws.length - 1) : Nat) (c : Int) with
    | none => rfl
    | some ps => rfl
def dictTo (ws : List Int) (ps : List Nat) (c q : Nat) : List Int := (ps.take q).map (fun p => ws.getD p 0) ++ Qa (c - q) 0
theorem zGh (ws : List Int) {ps : List Nat} {c : Nat} (hc : ps.length = c) {q : Nat} (hq : q <= c) : (dictTo ws ps c q).length = c := by
 unfold dictTo
 rw [Qj, Qe, Jg, Qw]
 omega
theorem zFn (ws : List Int) {ps : List Nat} {c : Nat} (hc : ps.length = c) {q p : Nat} (hq : q < c) (hp : ps[q]? = some p) : dictTo ws ps c (q + 1) = (dictTo ws ps c q).set q (ws.getD p 0) := by
 unfold dictTo
 rw [Je, hp, List.set_append, Qe, Jg, if_neg (by omega), show q - min q ps.length = 0 by omega, show c - q = (c - (q + 1)) + 1 by omega, List.replicate_succ, List.set_cons_zero]
 simp
theorem zC3 {left : List Nat} {bad : Bool} : ∀ (k : Nat) (ws : List Int) (l1 : List Nat) (b1 : Bool), rdWords k left bad = some (ws, l1, b1) -> ws.length = k
 | 0, ws, l1, b1, h => by rw [rdWords] at h; simp only [Option.some.injEq, Prod.mk.injEq] at h; rw [<- h.1]; rfl
 | k + 1, ws, l1, b1, h => by
  rw [rdWords] at h
  cases hk : rdWords k left bad with
  | none => rw [hk] at h; cases h
  | some p =>
   obtain ⟨ws0, l0, b0⟩ := p
   rw [hk] at h
   simp only at h
   split at h
   ·cases h
   ·simp only [Option.some.injEq, Prod.mk.injEq] at h
    rw [<- h.1, Qj, zC3 k ws0 l0 b0 hk]
    rfl
theorem zHb (r : Nat) (left : List Nat) (bad : Bool) (c : Nat) (w : World) (h : IsR w r left bad) (h256 : ∀ x ∈ left, x < 256) (hbig : left.length <= 1000000) (hc : c <= 65535) :
  Calls Tryz.prog 139 #[.agg #[.func (.func 154) #[] #[], .func (.func 155) #[] #[], .func (.func 153) #[] #[], .func (.func 156) #[] #[]], .pointer (some ⟨r, 0, none⟩), .int .i64 (c : Int)] w fun e w' => RetOpt w.heap.size (rdDict c left bad) e w' ∧ w.grownBy w' (some r) := by
 have hrl := h.lt
 have H := hid h
 have H256 := hid h256
 obtain ⟨O, hO⟩ : ∃ O, O = rdDict c left bad := ⟨_, rfl⟩
 rw [<- hO]
 have HOO := hid hO
 have hult := zDs left bad
 have hm2 := zEs (bad := bad) h256
 have hbl2 := zEt left bad
 obtain ⟨U, hU⟩ : ∃ U, U = (numR left bad).1 := ⟨_, rfl⟩
 obtain ⟨left2, hleft2⟩ : ∃ left2, left2 = (numR left bad).2.1 := ⟨_, rfl⟩
 obtain ⟨bad2, hbad2⟩ : ∃ bad2, bad2 = (numR left bad).2.2 := ⟨_, rfl⟩
 rw [<- hU] at hult
 rw [<- hleft2] at hm2 hbl2
 have HST := hid (show O = (if c < U then none else dictW c (rdWords U left2 bad2)) from by rw [hO, zHa, <- hU, <- hleft2, <- hbad2])
 have HNU := hid fun (w' : World) (h' : IsR w' r left bad) => (show Calls Tryz.prog 50 #[.pointer (some ⟨r, 0, none⟩)] w' fun e w'' => e = .returned (.int .u64 (U : Nat)) ∧ IsR w'' r left2 bad2 ∧ w'.grownBy w'' (some r) from by
  have h1 := zG3 r left bad w' h' h256 hbig
  rw [<- hU, <- hleft2, <- hbad2] at h1
  exact h1)
 have HM2 := hid hm2
 have hbig2 : left2.length <= 1000000 := by omega
 clear h h256 hO hU hleft2 hbad2 hm2 hbl2
 go_enter Tryz.func139, Tryz.ntmps139
 go_upto_region 1 with (fail)
 obtain ⟨W1, hW1⟩ : ∃ W1 : World, W1 = w.alloc (.cells #[.func (.func 154) #[] #[], .func (.func 155) #[] #[], .func (.func 153) #[] #[], .func (.func 156) #[] #[]] 185) := ⟨_, rfl⟩
 obtain ⟨X, hX⟩ : ∃ X, X = w.heap.size := ⟨_, rfl⟩
 have hxb : W1.heap[X]? = some (.cells #[.func (.func 154) #[] #[], .func (.func 155) #[] #[], .func (.func 153) #[] #[], .func (.func 156) #[] #[]] 185 (0, 0)) := by rw [hW1, hX]; exact Jh w _
 have HB1 := hid (show Below w.heap.size w W1 by rw [hW1]; exact zAd w _)
 rw [<- hW1, <- hX]
 have HXX := hid (show X = w.heap.size ∧ X < W1.heap.size from ⟨hX, (Qm.1 hxb).1⟩)
 have HX := hid fun (w' : World) (h : Below W1.heap.size W1 w') => zAv ((h.block X HXX.out.2).trans hxb)
 clear hW1 hX hxb
 have HX2 := hid (show ∀ wr : World, W1.grownBy wr (some r) -> wr.cell? ⟨X, 0, none⟩ = some (.func (.func 154) #[] #[]) ∧ wr.cell? ⟨X, 1, none⟩ = some (.func (.func 155) #[] #[]) ∧ wr.cell? ⟨X, 2, none⟩ = some (.func (.func 153) #[] #[]) ∧ wr.cell? ⟨X, 3, none⟩ = some (.func (.func 156) #[] #[]) from fun wr hg => by
  have hne : ∀ i, some ((⟨X, i, none⟩ : Addr)).block ≠ some r := fun i => by rw [HXX.out.1]; simp; omega
  have h := HX.out W1 (Qc _ _)
  exact ⟨hg.cell h.1 (hne 0), hg.cell h.2.1 (hne 1), hg.cell h.2.2.1 (hne 2), hg.cell h.2.2.2 (hne 3)⟩)
 have HR1 := hid (H.out.kept HB1.out)
 have hc0 : (0 : Int) <= (c : Int) := by omega
 have hwc : IntKind.u64.wrap (c : Int) = (c : Int) := Qi _ (by omega)
 have hHW := HB1.out.size
 go_wp2_with fail
 refine (HNU.out W1 HR1.out).mono ?_
 rintro e w2 ⟨rfl, hr2, hg2⟩
 have HR2 := hid hr2
 have HG2 := hid hg2
 clear hr2 hg2 HNU
 by_cases hcU : c < U
 ·have hcb : decide ((U : Int) > (c : Int)) = true := by rw [decide_eq_true_iff]; omega
  have hcb2 : (c : Int) < (U : Int) := by omega
  have HON := hid (show O = none by rw [HST.out, if_pos hcU])
  have HGW := hid (show w.grownBy w2 (some r) from zAc (zAb HB1.out _) HG2.out)
  go_wp2_with fail
  go_ret2
  rw [HON.out]
  exact ⟨rfl, HGW.out⟩
 ·have hcb : decide ((U : Int) > (c : Int)) = false := by rw [decide_eq_false_iff_not]; omega
  have hcb2 : ¬ (c : Int) < (U : Int) := by omega
  have hwU : IntKind.i64.wrap (U : Int) = (U : Int) := Qf _ (by omega)
  have HST2 := hid (show O = dictW c (rdWords U left2 bad2) by rw [HST.out, if_neg hcU])
  have HRW := hid (zGf r left2 bad2 U w2 HR2.out HM2.out hbig2 (by omega))
  obtain ⟨OW, hOW⟩ : ∃ OW, OW = rdWords U left2 bad2 := ⟨_, rfl⟩
  have hlenW := fun ws l1 b1 => zC3 (left := left2) (bad := bad2) U ws l1 b1
  rw [<- hOW] at HRW HST2 hlenW
  have HLW := hid hlenW
  obtain ⟨cf0, cf1, cf2, cf3⟩ := HX2.out w2 HG2.out
  clear hOW HST hlenW
  go_wp2_with fail
  refine HRW.out.mono ?_
  rintro e w3 ⟨hret, hg3⟩
  have HG3 := hid (show W1.grownBy w3 (some r) from zAc HG2.out hg3)
  have HGW3 := hid (show w.grownBy w3 (some r) from zAc (zAb HB1.out _) HG3.out)
  have hsz23 : W1.heap.size <= w2.heap.size := HG2.out.size
  clear hg3 HRW cf0 cf1 cf2 cf3
  cases OW with
  | none =>
   obtain rfl : e = .returned (.tuple #[.slice none 0 0, .bool false]) := hret
   have HON := hid (show O = none from HST2.out)
   go_wp2_with fail
   go_ret2
   rw [HON.out]
   exact ⟨rfl, HGW3.out⟩
  | some p =>
   obtain ⟨ws, l2, b2⟩ := p
   obtain ⟨v3, rfl, hown3, hr3, hm3, hbl3⟩ := hret
   have hwl := HLW.out ws l2 b2 rfl
   simp only at hown3 hr3 hm3 hbl3
   have HW3 := hid (show OwnI W1.heap.size w3 v3 ws from zAo hown3 hsz23)
   have HR3 := hid hr3
   have HM3 := hid hm3
   obtain ⟨ao, cap, rfl⟩ := OwnI.shape HW3.out
   have HWL := hid hwl
   rw [hwl] at HW3 ⊢
   clear hown3 hr3 hm3 hwl HLW
   cases b2
   ·have HST3 := hid (show O = dictU ws (unpackB l2 (Lib.bitLen (U - 1) : Nat) (c : Int)) from by
      rw [HST2.out, <- HWL.out]
      rfl)
    have HRE := hid (zCj r l2 false w3 HR3.out (by omega))
    have hb64 := (bitLen_le (U - 1) (by omega)).1
    clear HST2
    go_wp2_with fail
    refine HRE.out.mono ?_
    rintro e w4 ⟨ao4, cap4, rfl, hown4, hb4⟩
    have HR4 := hid (show Rd w4 (.slice ao4 l2.length cap4) (l2.map u8v) from by have h := Rd.of_owns hown4; rw [Qe] at h; exact h)
    have HB4 := hid (show Below w3.heap.size w3 w4 from hb4)
    have HW4 := hid (show OwnI W1.heap.size w4 (.slice ao ws.length cap) ws from zDd (by rw [HWL.out]; exact HW3.out) hb4)
    have HPW := hid (zEd U (by omega) w4)
    rw [Qe]
    clear hown4 hb4 HRE HW3
    go_wp2_with fail
    refine HPW.out.mono ?_
    rintro e w5 ⟨rfl, rfl⟩
    obtain ⟨wd, hwd⟩ : ∃ wd, wd = Lib.bitLen (U - 1) := ⟨_, rfl⟩
    rw [<- hwd] at HST3 hb64 ⊢
    obtain ⟨OU, hOU⟩ : ∃ OU, OU = unpackB l2 (wd : Nat) (c : Int) := ⟨_, rfl⟩
    have HOU := hid hOU.symm
    have HGW4 := hid (show w.grownBy w4 (some r) from zAc HGW3.out (zAb HB4.out _))
    rw [<- hOU] at HST3
    clear hwd hOU HPW
    cases OU with
    | none =>
     have HON := hid (show O = none from HST3.out)
     have HUN := hid (zE2 (wd : Int) (c : Int) ao4 l2.length cap4 l2 w4 HR4.out (zDt HM3.out) (by omega) HOU.out)
     go_wp2_with fail
     refine HUN.out.mono ?_
     rintro e w6 ⟨rfl, k6, rfl⟩
     have HGW6 := hid (show w.grownBy (w4.drewN k6) (some r) from zAc HGW4.out (zA2 _ _ _))
     go_wp2_with fail
     go_ret2
     rw [HON.out]
     exact ⟨rfl, HGW6.out⟩
    | some ps =>
     obtain ⟨hpl, hp64⟩ := zDy HOU.out
     rw [Int.toNat_natCast] at hpl
     have HPL := hid hpl
     have HP64 := hid hp64
     have HUN := hid (zEc (wd : Int) c ao4 l2.length cap4 l2 ps w4 HR4.out (zDt HM3.out) (by omega) HOU.out)
     clear hpl hp64
     go_wp2_with fail
     refine HUN.out.mono ?_
     rintro e w6 ⟨ao6, cap6, rfl, hown6, hb6⟩
     have HP6 := hid (show Rd w6 (.slice ao6 c cap6) (ps.map u64v) from by have h := Rd.of_owns hown6; rw [Qe, HPL.out] at h; exact h)
     have HW6 := hid (zDd HW4.out hb6)
     have HGW6 := hid (show w.grownBy w6 (some r) from zAc HGW4.out (zAb hb6 _))
     have HG6 := hid (show W1.grownBy w6 (some r) from zAc (zAc HG3.out (zAb HB4.out _)) (zAb hb6 _))
     rw [Qe, HPL.out]
     have HAU := hid (zHx ps (.slice ao6 c cap6) U w6 HP6.out HP64.out (by rw [HPL.out]; exact hc) (by omega))
     obtain ⟨A, hA⟩ : ∃ A, A = allUsedT ps U := ⟨_, rfl⟩
     have HA := hid hA.symm
     have HST4 := hid (show O = if A = true then some (ps.map fun p => ws.getD p 0) else none from by rw [HST3.out, hA, <- HWL.out]; rfl)
     rw [<- hA] at HAU
     clear hown6 hb6 hA HUN HST3 HR4 HB4 HW4 HGW4
     go_wp2_with fail
     refine HAU.out.mono ?_
     rintro e w7 ⟨rfl, hb7⟩
     have HP7 := hid (HP6.out.kept hb7)
     have HW7 := hid (zDd HW6.out hb7)
     have HGW7 := hid (show w.grownBy w7 (some r) from zAc HGW6.out (zAb hb7 _))
     have HG7 := hid (show W1.grownBy w7 (some r) from zAc HG6.out (zAb hb7 _))
     clear hb7 HAU HP6 HW6 HGW6 HG6
     cases A
     ·have HON := hid (show O = none from HST4.out)
      go_wp2_with fail
      go_ret2
      rw [HON.out]
      exact ⟨rfl, HGW7.out⟩
     ·have HON := hid (show O = some (ps.map fun p => ws.getD p 0) from HST4.out)
      have HLTU := hid (show ∀ p ∈ ps, p < U from by
       have h := HA.out
       unfold allUsedT at h
       rw [Bool.and_eq_true, Qk] at h
       intro p hp
       have := h.1 p hp
       rw [decide_eq_true_iff] at this
       exact this)
      obtain ⟨ei, he1, he2, he3, he4⟩ := zCv
      obtain ⟨W8, hmk, hown8, hg8⟩ := run_make_full (P := Tryz.prog) w7 w7.heap.size 130 2 ei (.int .i64 0) 1 Tryz.underlying130 he1 he2 he3 .i64 .i64 c (by rw [he4]; omega) (by unfold maxLen; omega) (Qb _)
      obtain ⟨G, hG⟩ : ∃ G, G = w7.heap.size := ⟨_, rfl⟩
      rw [<- hG] at hmk hown8
      have hown9 : W8.ownsRow G 2 1 (.slice (some ⟨G, 0, none⟩) c c) c ((dictTo ws ps c 0).map (Value.int .i64)) := by
       rw [show (Value.int .i64 0).cells = #[Value.int .i64 0] from rfl, Jc, toList_madeCells_one] at hown8
       have e : (dictTo ws ps c 0).map (Value.int .i64) = Qa c (Value.int .i64 0) := by
        unfold dictTo
        simp
       rw [e]
       exact hown8
      have HO8 := hid hown9
      have HB8 := hid (show Below w7.heap.size w7 W8 from ⟨hg8.os, hg8.tape, hg8.output, hg8.size, fun i hi => hg8.block i hi (by simp)⟩)
      have HGG := hid hG
      have hsz7 : W1.heap.size <= w7.heap.size := HG7.out.size
      clear hown8 hown9 hg8 he1 he2 he3 he4 hG HST4 HA HOU
      go_upto_region 11 with (fail)
      clear hmk
      go_wp2_with fail
      go_loopw [54] (fun i wr => ∃ q : Nat, q <= c ∧ i = .int .i64 (q : Int) ∧ wr.ownsRow G 2 1 (.slice (some ⟨G, 0, none⟩) c c) c ((dictTo ws ps c q).map (Value.int .i64)) ∧ Below w7.heap.size w7 wr) (fun i _ => c - (intOf i).toNat)
      case atStart => exact ⟨0, Qg _, rfl, HO8.out, HB8.out⟩
      case round =>
       obtain ⟨q, hq, rfl, hown, hbel⟩ := hrel
       have HO := hid hown
       have HBL := hid hbel
       clear hown hbel
       by_cases hlt : q < c
       ·have hlti : (q : Int) < (c : Int) := by omega
        have hq0 : (0 : Int) <= (q : Int) := by omega
        have hcp := (zBq (HP7.out.kept HBL.out)).2
        obtain ⟨b, off, rfl, hcell⟩ := hcp (by omega)
        have hx := hcell q hlt
        obtain ⟨p, hp⟩ : ∃ p, p = ps.getD q 0 := ⟨_, rfl⟩
        rw [<- hp] at hx
        have hat : ps[q]? = some p := by rw [hp, Qp, Qq (by rw [HPL.out]; exact hlt)]; rfl
        have hpU := HLTU.out p (Ql hat)
        have hpi : (p : Int) < (U : Int) := by omega
        have hp0 : (0 : Int) <= (p : Int) := by omega
        have hcw := (zAu (by have h := (HW7.out.rd).kept HBL.out; rw [HWL.out] at h; exact h)).2
        obtain ⟨b3, off3, rfl, hcell3⟩ := hcw (by omega)
        have hx3 := hcell3 p hpU
        obtain ⟨z, hz⟩ : ∃ z, z = ws.getD p 0 := ⟨_, rfl⟩
        rw [<- hz] at hx3
        have HD := hid (show dictTo ws ps c (q + 1) = (dictTo ws ps c q).set q z from by rw [hz]; exact zFn ws HPL.out hlt hat)
        have cf := (HX2.out wr (show W1.grownBy wr (some r) from zAc HG7.out (zAb HBL.out _))).2.2.2
        have hcG := HO.out.cellAt q (by omega)
        have hcG2 : ∃ u, wr.cell? ⟨G, q, none⟩ = some u := by
         rw [hcG]
         exact ⟨_, Qq (by rw [Qe, zGh ws HPL.out hq]; exact hlt)⟩
        obtain ⟨uG, hcG3⟩ := hcG2
        have hfG := HO.out.frozenAt q
        have hst := HO.out.stored q (.int .i64 z)
        have HST := hid hst
        clear hcp hcw hcell hcell3 hp hat hz hcG hst
        go_wp2_with fail
        go_region_law
         (first
          | (go_simp; go_at_call 156; refine (zJs z _).mono ?_; rintro e w10 ⟨rfl, rfl⟩)
          | fail)
        all_goals
         go_wp2_with fail
         go_roundw
         case rel =>
          refine ⟨q + 1, by omega, by go_num, ?_, ?_⟩
          ·rw [HD.out, Jf]
           have h := HST.out.1
           exact h
          ·exact (HBL.out.trans (zAm _ _)).setCell (p := ⟨G, q, none⟩) (by show _ <= G; rw [HGG.out]; exact Qb _) _
         case measure => simp [intOf]; omega
       ·have hqc : q = c := by omega
        subst hqc
        have hlti : ¬ (q : Int) < (q : Int) := by omega
        have HGW8 := hid (show w.grownBy wr (some r) from zAc HGW7.out (zAb HBL.out _))
        have HRES := hid (show OwnI w.heap.size wr (.slice (some ⟨G, 0, none⟩) q q) (ps.map fun p => ws.getD p 0) from by
         have h := HO.out
         have e : dictTo ws ps q q = ps.map fun p => ws.getD p 0 := by
          unfold dictTo
          rw [Nat.sub_self, Qu, Qv, List.take_of_length_le (by rw [HPL.out]; exact Qb _)]
         rw [e] at h
         exact OwnI.of (zAo h (by rw [HGG.out]; exact Nat.le_trans hHW hsz7)))
        go_wp2_with fail
        go_ret2
        rw [HON.out]
        exact ⟨⟨_, rfl, HRES.out⟩, HGW8.out⟩
   ·have HON := hid (show O = none from HST2.out)
    go_wp2_with fail
    go_ret2
    rw [HON.out]
    exact ⟨rfl, HGW3.out⟩
end Go.Proofs.YtmpgnjhgegbdkaaGreat
