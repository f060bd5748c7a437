/-
  The walk of GropRefuses.
-/
import Derived.Test.YtmpgnjhgegbdkaaGreatGmg
import Derived.Test.YtmpgnjhgegbdkaaGreatGmi
set_option linter.unusedVariables false
set_option linter.unusedSimpArgs false
set_option maxRecDepth 100000
set_option maxHeartbeats 3200000
namespace Go.Proofs.YtmpgnjhgegbdkaaGreat
open Go.RowKit
open _root_.List renaming length_map -> Qa, getElem?_eq_getElem -> Qb, length_set -> Qd, mem_or_eq_of_mem_set -> Qe, getElem?_of_mem -> Qg, mem_map -> Qh, getElem?_map -> Qi, mem_of_getElem? -> Qj, getElem?_set_ne -> Qk, getElem?_set_self -> Ql, mem_cons -> Qn
open _root_.Bool renaming true_and -> Qc, false_and -> Qo
open Go.IntWalk renaming i64_in -> Qf
open Go.RowKit.Below renaming refl -> Qm
def rowG (cols : List Co) (i : Nat) : List Vc := (rowOf cols ((i : Int) * 7)).set 0 ⟨false, 1, (i : Nat), []⟩
theorem rowG_head {cols : List Co} (h : ColsOk cols) (n : Int) : ∃ r, rowOf cols n = ⟨false, 1, n % 16, []⟩ :: r ∧ ∃ c0, cols[0]? = some c0 ∧ c0.k = 1 ∧ c0.u = false := by
 have h0 : cols[0]? = some (cols[0]'h.ne) := Qb _
 have h1 := zJ3 cols n 0
 rw [h0] at h1
 cases hr : rowOf cols n with
 | nil => rw [hr] at h1; cases h1
 | cons t r =>
  rw [hr] at h1
  simp only [List.getElem?_cons_zero, Option.map_some, Option.some.injEq] at h1
  refine ⟨r, ?_, _, h0, h.hd _ h0⟩
  rw [h1]
  rfl
theorem rowG_fits {cols : List Co} (h : ColsOk cols) (i : Nat) : fitsR cols (rowG cols i) = true := by
 obtain ⟨r, hr, c0, hc0, hk, hu⟩ := rowG_head h ((i : Int) * 7)
 unfold rowG
 rw [zMr cols _ 0 c0 _ (zPe h _) hc0]
 unfold fitsT
 simp [hk]
theorem rowG_small {cols : List Co} (i : Nat) (hi : I64 (i : Int)) : ∀ v ∈ rowG cols i, I64 v.n ∧ v.b.length <= 8 := fun v hv => by
 rcases Qe hv with h | rfl
 ·exact zPk _ v h
 ·exact ⟨hi, by simp⟩
def VerG (cols : List Co) (L : List Ver) : Prop := ∀ (k : Nat) (x : Ver), L[k]? = some x -> x.id = (k : Int) + 1 ∧ x.row = rowG cols k ∧ x.sp4 = (0, 0, 0, 0)
theorem VerG.add {cols : List Co} {L : List Ver} {x : Ver} (h : VerG cols L) (h1 : x.id = (L.length : Int) + 1) (h2 : x.row = rowG cols L.length) (h3 : x.sp4 = (0, 0, 0, 0)) : VerG cols (L ++ [x]) := fun k y hk => by
 by_cases hl : k < L.length
 ·rw [List.getElem?_append_left hl] at hk
  exact h k y hk
 ·rw [List.getElem?_append_right (by omega)] at hk
  by_cases he : k = L.length
  ·subst he
   have : x = y := by simpa using hk
   rw [<- this]
   exact ⟨h1, h2, h3⟩
  ·have hz : k - L.length ≠ 0 := by omega
   obtain ⟨z, hz⟩ : ∃ z, k - L.length = z + 1 := ⟨k - L.length - 1, by omega⟩
   rw [hz] at hk
   simp at hk
theorem elmVersionG : Elm Tryz.prog 75 81 6 64 := zG6 Tryz.underlying75 (show (Tryz.prog.info? 81).map (fun i => (i.zero, i.size, i.bytes)) = some (some (.agg #[.int .i64 0, .slice none 0 0, .int .i64 0, .int .i64 0, .int .i64 0, .int .i64 0]), 6, 64) by kernel_rfl) rfl (by decide) (by decide)
theorem walk_GropRefuses (a0 a1 a2 a3 : Int) (w : World) (w0 : (Lit.int .i64 a0).wf = true) (w1 : (Lit.int .i64 a1).wf = true) (w2 : (Lit.int .i64 a2).wf = true) (w3 : (Lit.int .i64 a3).wf = true) :
  Calls Tryz.prog 10 #[.int .i64 a0, .int .i64 a1, .int .i64 a2, .int .i64 a3] w fun e w' => e = .returned (.bool true) ∧ Below w.heap.size w w' := by
 clear w0 w1 w2 w3
 have HS := Lib.hid (zSv a0 w)
 have HSC := Lib.hid (zLz a0)
 have HOK := Lib.hid (zHx a0)
 have HAW := Lib.hid awake13_any
 obtain ⟨c, hcn, hc127⟩ : ∃ c : Nat, bits .and .i64 a1 127 = (c : Int) ∧ c <= 127 := ⟨(a1 % 128).toNat, by rw [zG3 a1 7 (by decide) 127 rfl]; omega, by omega⟩
 have b3 : bits .and .i64 a2 3 = a2 % 4 := zG3 a2 2 (by decide) 3 rfl
 have hcw : IntKind.i64.wrap ((c : Int) + 1) = ((c + 1 : Nat) : Int) := by rw [Qf _ (by omega)]; omega
 obtain ⟨d, hd, hd255⟩ : ∃ d : Nat, bits .and .i64 a3 255 = (d : Int) ∧ d <= 255 := ⟨(a3 % 256).toNat, by rw [zG3 a3 8 (by decide) 255 rfl]; omega, by omega⟩
 go_enter Tryz.func10, Tryz.ntmps10
 go_wp2_with fail
 refine HS.out.mono ?_
 rintro e W1 ⟨so, sc, rfl, hs1, hb1⟩
 obtain ⟨sn, hsn⟩ : ∃ sn, sn = (colsN a0).length := ⟨_, rfl⟩
 have hc1 : RdC W1 _ (colsN a0) := hs1.rd
 rw [<- hsn] at hs1 hc1 ⊢
 have hs0 : 0 < sn := by rw [hsn]; exact HOK.out.ne
 have hs0i : (0 : Int) < (sn : Int) := by omega
 have HSN := Lib.hid hsn
 clear hsn
 go_upto_region 2 with (fail)
 obtain ⟨W2, hW2⟩ : ∃ W2 : World, W2 = W1.alloc (.cells #[.slice so sn sc] 24) := ⟨_, rfl⟩
 obtain ⟨SB, hSB⟩ : ∃ SB, SB = W1.heap.size := ⟨_, rfl⟩
 rw [<- hW2, <- hSB]
 have HSB := Lib.hid (show W2.heap[SB]? = some (.cells #[.slice so sn sc] 24 (0, 0)) by rw [hW2, hSB]; exact heap_alloc_new W1 _)
 have hb12 : Below W1.heap.size W1 W2 := by rw [hW2]; exact zAd W1 _
 have HB2 := Lib.hid (zAa hb1 hb12)
 have HC2 := Lib.hid (RdC.kept hc1 hb12)
 have HSBL := Lib.hid (show SB < W2.heap.size from (Array.getElem?_eq_some_iff.1 HSB.out).1)
 clear hs1 hc1 hb1 hb12 hW2 hSB
 go_wp2_with fail
 obtain ⟨C, hC⟩ : ∃ C, C = c + 1 := ⟨_, rfl⟩
 have hCi : (c : Int) + 1 = (C : Int) := by omega
 rw [hCi]
 have hC1 : 1 <= C := by omega
 have hC128 : C <= 128 := by omega
 clear hC hCi hcw hc127
 go_loopw [10, 11] (fun o i wr => ∃ (q : Nat) (L : List Ver) (ao : Option Addr) (cap : Nat), q <= C ∧ i = .int .i64 (q : Int) ∧ o = .slice ao q cap ∧ L.length = q ∧ VerG (colsN a0) L ∧ VersB W2.heap.size wr (.slice ao q cap) L ∧ Below W2.heap.size W2 wr) (fun _ i _ => C - (intOf i).toNat)
 case atStart => exact ⟨0, [], none, 0, Nat.zero_le _, rfl, rfl, rfl, (fun k x h => by cases h), versB_nil _ _, Qm _ _⟩
 case round =>
  obtain ⟨q, L, ao, cap, hq, rfl, rfl, hll, hlm, hrb, hb⟩ := hrel
  have HLL := Lib.hid hll
  have HLM := Lib.hid hlm
  have HRB := Lib.hid hrb
  have HB := Lib.hid hb
  have hsb := (hb.block SB HSBL.out).trans HSB.out
  have cs0 : wr.cell? ⟨SB, 0, none⟩ = some (.slice so sn sc) := by rw [cell_of_row wr SB 0 _ _ _ hsb]; rfl
  clear hll hlm hrb hb hsb
  by_cases hlt : q < C
  ·have hlti : (q : Int) < (C : Int) := by omega
   have hw7 : IntKind.i64.wrap ((q : Int) * 7) = (q : Int) * 7 := Qf _ (by omega)
   have hq1 : IntKind.i64.wrap ((q : Int) + 1) = (q : Int) + 1 := Qf _ (by omega)
   have HROW := Lib.hid (zVz (.slice so sn sc) (colsN a0) HOK.out.ne ((q : Int) * 7) wr (RdC.kept HC2.out HB.out) HOK.out.le)
   rw [<- HSN.out] at HROW
   go_wp2_with fail
   refine HROW.out.mono ?_
   rintro e w2 ⟨rg, rc, rl, rfl, hrl, hrown, hrv, hb2⟩
   have hrg : wr.heap.size <= rg := (hrown.lt rg rfl).1
   have hrc2 : ∃ u, w2.cell? ⟨rg, 2, none⟩ = some u := ⟨_, (hrown.cellAt 2 (by omega)).trans (Qb (by have := hrown.1; omega))⟩
   obtain ⟨ru, hrc3⟩ := hrc2
   have hrf := hrown.frozenAt 2
   have HRL := Lib.hid hrl
   have HRO := Lib.hid hrown
   have HRV := Lib.hid hrv
   have HB2r := Lib.hid hb2
   clear hrl hrown hrv hb2 cs0
   go_upto_region 9 with (fail)
   obtain ⟨w3, hw3⟩ : ∃ w3, w3 = w2.setCell ⟨rg, 2, none⟩ (.int .i64 (q : Int)) := ⟨_, rfl⟩
   rw [<- hw3]
   obtain ⟨r0, hr0, _⟩ := rowG_head HOK.out ((q : Int) * 7)
   obtain ⟨t0, rr, hl0c, ht0, hrr⟩ : ∃ t0 rr, rl = t0 :: rr ∧ t0.1 = ⟨false, 1, (q : Int) * 7 % 16, []⟩ ∧ rr.map Prod.fst = r0 := by
    have h := HRL.out
    rw [hr0] at h
    match rl, h with
    | t :: r, h => exact ⟨t, r, rfl, by simpa using (List.cons.inj h).1, (List.cons.inj h).2⟩
   obtain ⟨L2, hL2⟩ : ∃ L2, L2 = ((⟨t0.1.u, t0.1.k, (q : Int), t0.1.b⟩, t0.2) :: rr : List (Vc × Value)) := ⟨_, rfl⟩
   have HB3 := Lib.hid (show Below wr.heap.size wr w3 by rw [hw3]; exact HB2r.out.setCell (p := ⟨rg, 2, none⟩) hrg _)
   have hL2n : L2.length = sn := by
    have := congrArg List.length HRL.out
    rw [hl0c, Qa, zE2, <- HSN.out] at this
    rw [hL2, <- this]
    rfl
   have HROW3 := Lib.hid (show w3.ownsRow wr.heap.size 31 4 (.slice (some ⟨rg, 0, none⟩) sn rc) L2.length (L2.map cellsV).flatten from by
    have hst := (HRO.out.stored 2 (.int .i64 (q : Int))).1
    rw [hl0c, zSw, <- hw3] at hst
    rw [hL2n, hL2]
    exact hst)
   have HV3 := Lib.hid (show ∀ t ∈ L2, RdB wr.heap.size w3 t.2 t.1.b ∧ (∀ x ∈ t.1.b, x < 256) ∧ FarV rg t from fun t ht => by
    rw [hL2] at ht
    rcases Qn.1 ht with rfl | h
    ·obtain ⟨h1, h2, h3⟩ := HRV.out t0 (by rw [hl0c]; exact List.mem_cons_self)
     rw [hw3]
     exact ⟨zPw h1 h3, h2, h3⟩
    ·obtain ⟨h1, h2, h3⟩ := HRV.out t (by rw [hl0c]; exact List.mem_cons_of_mem _ h)
     rw [hw3]
     exact ⟨zPw h1 h3, h2, h3⟩)
   obtain ⟨X, hX⟩ : ∃ X : Ver, X = ⟨(q : Int) + 1, .slice (some ⟨rg, 0, none⟩) sn rc, L2, 0, 0, 0, 0⟩ := ⟨_, rfl⟩
   have HPL := Lib.hid (show VerG (colsN a0) (L ++ [X]) from VerG.add HLM.out (by rw [hX, HLL.out]) (by
    rw [hX, HLL.out]
    unfold Ver.row rowG
    rw [hr0, List.set_cons_zero, hL2, List.map_cons, ht0, hrr]) (by rw [hX]; rfl))
   have HXC := Lib.hid (show X.cells = [.int .i64 ((q : Int) + 1), .slice (some ⟨rg, 0, none⟩) sn rc, .int .i64 0, .int .i64 0, .int .i64 0, .int .i64 0] by rw [hX]; rfl)
   have HXR := Lib.hid (show ∀ w', Above wr.heap.size w3 w' -> RdP w' X.s X.l by rw [hX]; exact rdP_far HROW3.out rfl fun t ht => ⟨(HV3.out t ht).1, (HV3.out t ht).2.1⟩)
   have HRD := Lib.hid (zBb w3 #[.int .i64 ((q : Int) + 1), .slice (some ⟨rg, 0, none⟩) sn rc, .int .i64 0, .int .i64 0, .int .i64 0, .int .i64 0] 81 6 rfl)
   have HON := Lib.hid (show Ones 6 [[.int .i64 ((q : Int) + 1), .slice (some ⟨rg, 0, none⟩) sn rc, .int .i64 0, .int .i64 0, .int .i64 0, .int .i64 0]] from fun t ht => by rw [List.mem_singleton.1 ht]; exact ⟨rfl, fun u hu => by simp only [Qn, List.not_mem_nil, or_false] at hu; rcases hu with rfl | rfl | rfl | rfl | rfl | rfl <;> rfl⟩)
   have HOWN := Lib.hid (show (w3.alloc (.cells #[.int .i64 ((q : Int) + 1), .slice (some ⟨rg, 0, none⟩) sn rc, .int .i64 0, .int .i64 0, .int .i64 0, .int .i64 0] 81)).ownsRow W2.heap.size 81 6 (.slice ao q cap) q (L.map Ver.cells).flatten from by
    have h := (HRB.out.keptB HB3.out).own
    rw [HLL.out] at h
    exact h.alloc _)
   have HSZ := Lib.hid (show W2.heap.size <= (w3.alloc (.cells #[.int .i64 ((q : Int) + 1), .slice (some ⟨rg, 0, none⟩) sn rc, .int .i64 0, .int .i64 0, .int .i64 0, .int .i64 0] 81)).heap.size by have := HB.out.size; have := HB3.out.size; simp; omega)
   clear hw3 hrg hl0c hL2 hL2n hrc3 hrf hr0 ht0 hrr hX
   go_wp2_with (at_builtin; go_must (refine zAg elmVersionG rfl _ _ rfl W2.heap.size _ _ _ rfl HOWN.out _ [[.int .i64 ((q : Int) + 1), .slice (some ⟨rg, 0, none⟩) sn rc, .int .i64 0, .int .i64 0, .int .i64 0, .int .i64 0]] rfl HRD.out HON.out (by simp; omega) HSZ.out (q + 1) rfl ?_); intro ao4 cap4 w4 hown4 hgrow4 hnew4; have HO4 := Lib.hid hown4; have HG4 := Lib.hid hgrow4; have HN4 := Lib.hid hnew4; clear hown4 hgrow4 hnew4)
   go_roundw
   case rel =>
    refine ⟨q + 1, L ++ [X], ao4, cap4, by omega, by go_num, rfl, by rw [List.length_append, HLL.out]; rfl, HPL.out, ?_, ?_⟩
    ·refine VersB.add HRB.out HB3.out HXR.out HG4.out HN4.out ?_
     rw [HLL.out, HXC.out]
     simpa using HO4.out
    ·exact (zAa HB.out HB3.out).alloc (Nat.le_trans HB.out.size HB3.out.size) _ |>.grown HG4.out HSZ.out (zAh HOWN.out)
   case measure => simp [intOf]; omega
  ·have hqc : q = C := by omega
   subst hqc
   have hlti : ¬ (q : Int) < (q : Int) := by omega
   obtain ⟨k, hkm⟩ : ∃ k, k = d % q := ⟨_, rfl⟩
   have hkq : k < q := by rw [hkm]; exact Nat.mod_lt _ (by omega)
   have hrm : (d : Int) % (q : Int) = (k : Int) := by rw [hkm]; rfl
   have hrm2 : (d : Int).tmod (q : Int) = (k : Int) := by rw [hkm]; rfl
   have hqne : (q : Int) ≠ 0 := by omega
   obtain ⟨ga, hga⟩ : ∃ g, ao = some ⟨g, 0, none⟩ := own_isAt (by have h := HRB.out.own; rw [HLL.out] at h; exact h) (by omega)
   subst hga
   clear hkm
   have HMK := Lib.hid (show ∀ (wx : World) (L' : List Ver) (lv : Value), Below W2.heap.size W2 wx -> VersB W2.heap.size wx lv L' -> L'.length = q -> (∀ x ∈ L', x.row = [] ∨ ∃ i, i < q ∧ x.row = rowG (colsN a0) i) ->
     Calls Tryz.prog 33 #[.agg #[.slice so sn sc], lv] wx fun e w' =>
      (((risT L' && rowsB (colsN a0) (L'.map Ver.row)) = true ∧ ∃ G, e = .returned (.tuple #[.pointer (some ⟨G, 0, none⟩), .bool true]) ∧ GrpAt wx.heap.size w' G (colsN a0) (L'.map Ver.row) (L'.map Ver.id) (L'.map Ver.sp4)) ∨
       ((risT L' && rowsB (colsN a0) (L'.map Ver.row)) = false ∧ e = .returned (.tuple #[.pointer none, .bool false]))) ∧ Below wx.heap.size wx w' from fun wx L' lv hb hv hn hs => by
    have hrow : ∀ x ∈ L', x.l.length <= 6 ∧ ∀ t ∈ x.l, I64 t.1.n ∧ t.1.b.length <= 8 := fun x hx => by
     rcases hs x hx with h | ⟨i, hi, h⟩
     ·have h1 : x.l = [] := List.map_eq_nil_iff.1 h
      rw [h1]
      exact ⟨by simp, fun t ht => by cases ht⟩
     ·have h1 : x.l.length = (rowG (colsN a0) i).length := by rw [<- h]; unfold Ver.row; rw [Qa]
      refine ⟨?_, fun t ht => ?_⟩
      ·rw [h1]
       unfold rowG
       rw [Qd, zE2]
       exact HOK.out.le
      ·exact rowG_small i (by unfold I64; omega) t.1 (by rw [<- h]; exact List.mem_map_of_mem ht)
    exact gmake_any (colsN a0) HSC.out L' (by omega) (fun x hx => by have := (hrow x hx).1; omega) (fun x hx t ht => ((hrow x hx).2 t ht).1) (fun x hx t ht => by have := ((hrow x hx).2 t ht).2; omega) _ lv wx (RdC.kept HC2.out hb) hv.rd)
   have HIDS := Lib.hid (show ∀ (k : Nat) (x : Ver), L[k]? = some x -> x.id = (k : Int) + 1 from fun k x h => (HLM.out k x h).1)
   have HROWS := Lib.hid (show ∀ x ∈ L, x.row = [] ∨ ∃ i, i < q ∧ x.row = rowG (colsN a0) i from fun x hx => by
    obtain ⟨j, hj⟩ := Qg hx
    exact .inr ⟨j, by rw [<- HLL.out]; exact (List.getElem?_eq_some_iff.1 hj).1, (HLM.out j x hj).2.1⟩)
   have HFIT := Lib.hid (show rowsB (colsN a0) (L.map Ver.row) = decide (q <= 64) from by
    rw [rowsB_good fun r hr => by
     obtain ⟨x, hx, rfl⟩ := Qh.1 hr
     obtain ⟨j, hj⟩ := Qg hx
     rw [(HLM.out j x hj).2.1]
     exact rowG_fits HOK.out j, Qa, HLL.out, decide_eq_true (show 0 < q by omega), Qc])
   have HBX := HB
   obtain hh | hh | hh | hh : a2 % 4 = 0 ∨ a2 % 4 = 1 ∨ a2 % 4 = 2 ∨ a2 % 4 = 3 := by omega
   ·have b3w : bits .and .i64 a2 3 = 0 := by rw [b3, hh]
    clear b3 hh
    by_cases hkz : k = 0
    ·have hkpos : ¬ (0 : Int) < (k : Int) := by omega
     by_cases h64 : q <= 64
     ·have hgt : decide ((q : Int) <= 64) = true := decide_eq_true (by omega)
      have hgi : (q : Int) <= 64 := by omega
      have HT := Lib.hid (show (risT L && rowsB (colsN a0) (L.map Ver.row)) = true by rw [risT_all HIDS.out, HFIT.out, Qc]; first | exact decide_eq_true h64 | exact decide_eq_false h64)
      clear h64
      go_wp2_with fail
      refine (HMK.out wr L _ HB.out HRB.out HLL.out HROWS.out).mono ?_
      rintro e w5 ⟨h, hb5⟩
      rw [HT.out] at h
      obtain ⟨_, G, rfl, hg⟩ := h.resolve_right fun hh => by cases hh.1
      clear h
      have HB5 := Lib.hid (show Below w.heap.size w w5 from zAa (zAa HB2.out HB.out) hb5)
      have HID := Lib.hid (gIDs_any (by rw [Qa, HLL.out]; omega) w5 hg)
      have HG5 := Lib.hid hg
      have HLI := Lib.hid (show ∀ w', Below w5.heap.size w5 w' -> Calls Tryz.prog 36 #[.pointer (some ⟨G, 0, none⟩)] w' fun e w'' => e = .returned (.int .i64 ((q : Nat) : Int)) ∧ Below w'.heap.size w' w'' from fun w' hw => by
       have h := gLive_any (by rw [Qa, HLL.out]; omega) w' (HG5.out.kept hw)
       rw [liveT_zero _ (fun s hs => by obtain ⟨x, hx, rfl⟩ := Qh.1 hs; obtain ⟨j, hj⟩ := Qg hx; exact (HLM.out j x hj).2.2), Qa, HLL.out] at h
       exact h)
      clear hg hb5
      go_wp2_with fail
      refine HID.out.mono ?_
      rintro e w6 ⟨v, rfl, ho, hb6⟩
      rw [Qa, HLL.out] at ho
      obtain ⟨va, vc, rfl⟩ := own_isSlice ho
      have HB6 := Lib.hid (zAa HB5.out hb6)
      have HL6 := Lib.hid (HLI.out w6 hb6)
      clear ho hb6
      go_wp2_with fail
      refine HL6.out.mono ?_
      rintro e w7 ⟨rfl, hb7⟩
      have HB7 := Lib.hid (zAa HB6.out hb7)
      clear hb7
      go_wp2_with fail
      refine (HAW.out w7).mono ?_
      rintro e w8 ⟨rfl, hb8⟩
      have HB8 := Lib.hid (zAa HB7.out hb8)
      clear hb8
      go_wp2_with fail
      go_ret
      exact ⟨rfl, HB8.out⟩
     ·have hgt : decide ((q : Int) <= 64) = false := decide_eq_false (by omega)
      have hgi : ¬ (q : Int) <= 64 := by omega
      have HT := Lib.hid (show (risT L && rowsB (colsN a0) (L.map Ver.row)) = false by rw [risT_all HIDS.out, HFIT.out, Qc]; first | exact decide_eq_true h64 | exact decide_eq_false h64)
      clear h64
      go_wp2_with fail
      refine (HMK.out wr L _ HB.out HRB.out HLL.out HROWS.out).mono ?_
      rintro e w5 ⟨h, hb5⟩
      rw [HT.out] at h
      obtain ⟨_, rfl⟩ := h.resolve_left fun hh => by cases hh.1
      clear h
      have HB5 := Lib.hid (show Below w.heap.size w w5 from zAa (zAa HB2.out HBX.out) hb5)
      clear hb5
      go_wp2_with fail
      refine (HAW.out w5).mono ?_
      rintro e w8 ⟨rfl, hb8⟩
      have HB8 := Lib.hid (zAa HB5.out hb8)
      clear hb8
      go_wp2_with fail
      go_ret
      exact ⟨rfl, HB8.out⟩
    ·have hown := HRB.out.own
     rw [HLL.out] at hown
     have hga : W2.heap.size <= ga := zAh hown ga rfl
     have hne : SB ≠ ga := by have := HSBL.out; omega
     have hne2 : ga ≠ SB := fun e => hne e.symm
     obtain ⟨b, hb⟩ : ∃ b, L[k]? = some b := ⟨_, Qb (by rw [HLL.out]; exact hkq)⟩
     have hfl : (L.map Ver.cells).flatten.length = q * 6 := hown.1
     obtain ⟨_, _, he, hck⟩ := HRB.out.rd.1.at (k := k) (t := b.cells) (by rw [Qi, hb]; rfl)
     cases he
     have hki : (k : Int) < (q : Int) := by omega
     have hk0 : (0 : Int) <= (k : Int) := by omega
     have ck : wr.cell? ⟨ga, k * 6, none⟩ = some (.int .i64 b.id) := by have h := hck 0 _ rfl; simpa using h
     have fk : wr.frozen? ⟨ga, k * 6, none⟩ = false := hown.frozenAt (k * 6)
     obtain ⟨p, hkp⟩ : ∃ p, k = p + 1 := ⟨k - 1, by omega⟩
     obtain ⟨a, ha⟩ : ∃ a, L[p]? = some a := ⟨_, Qb (by rw [HLL.out]; omega)⟩
     obtain ⟨_, _, he, hcp⟩ := HRB.out.rd.1.at (k := p) (t := a.cells) (by rw [Qi, ha]; rfl)
     cases he
     have cp : wr.cell? ⟨ga, p * 6, none⟩ = some (.int .i64 a.id) := by have h := hcp 0 _ rfl; simpa using h
     have fp : wr.frozen? ⟨ga, p * 6, none⟩ = false := hown.frozenAt (p * 6)
     have hw1 : IntKind.i64.wrap ((k : Int) - 1) = (p : Int) := by rw [Qf _ (by omega)]; omega
     have hp0 : (0 : Int) <= (p : Int) := by omega
     have hpi : (p : Int) < (q : Int) := by omega
     have hkpos : (0 : Int) < (k : Int) := by omega
     have HIA := Lib.hid (HLM.out p a ha).1
     have HIBb := Lib.hid (HLM.out k b hb).1
     have HKP := Lib.hid hkp
     have HA := Lib.hid ha
     have HBk := Lib.hid hb
     have HBX := Lib.hid (show Below W2.heap.size W2 (wr.setCell ⟨ga, k * 6, none⟩ (.int .i64 a.id)) from HB.out.setCell (p := ⟨ga, k * 6, none⟩) hga _)
     have HVX := Lib.hid (show VersB W2.heap.size (wr.setCell ⟨ga, k * 6, none⟩ (.int .i64 a.id)) (.slice (some ⟨ga, 0, none⟩) q cap) (L.set k { b with id := a.id }) from HRB.out.id HLL.out hb _)
     have HRX := Lib.hid (show ∀ x ∈ L.set k { b with id := a.id }, x.row = [] ∨ ∃ i, i < q ∧ x.row = rowG (colsN a0) i from fun x hx => by
      rcases Qe hx with h | h
      ·exact HROWS.out x h
      ·rw [h]
       exact HROWS.out b (Qj hb))
     have HT := Lib.hid (show (risT (L.set k { b with id := a.id }) && rowsB (colsN a0) ((L.set k { b with id := a.id }).map Ver.row)) = false from by
      rw [risT_bad (p := p) (a := a) (b := { b with id := a.id }) (by rw [Qk (by omega)]; exact ha) (by rw [<- hkp, Ql (by rw [HLL.out]; exact hkq)]) (by simp), Qo])
     clear hown hfl hck hcp ha hb hkp hkz
     go_wp2_with fail
     refine (HMK.out _ (L.set k { b with id := a.id }) _ HBX.out HVX.out (by simp only [Qd]; exact HLL.out) HRX.out).mono ?_
     rintro e w5 ⟨h, hb5⟩
     rw [HT.out] at h
     obtain ⟨_, rfl⟩ := h.resolve_left fun hh => by cases hh.1
     clear h
     have HB5 := Lib.hid (show Below w.heap.size w w5 from zAa (zAa HB2.out HBX.out) hb5)
     clear hb5
     go_wp2_with fail
     refine (HAW.out w5).mono ?_
     rintro e w8 ⟨rfl, hb8⟩
     have HB8 := Lib.hid (zAa HB5.out hb8)
     clear hb8
     go_wp2_with fail
     go_ret
     exact ⟨rfl, HB8.out⟩
   ·have b3w : bits .and .i64 a2 3 = 1 := by rw [b3, hh]
    clear b3 hh
    have hown := HRB.out.own
    rw [HLL.out] at hown
    have hga : W2.heap.size <= ga := zAh hown ga rfl
    have hne : SB ≠ ga := by have := HSBL.out; omega
    have hne2 : ga ≠ SB := fun e => hne e.symm
    obtain ⟨b, hb⟩ : ∃ b, L[k]? = some b := ⟨_, Qb (by rw [HLL.out]; exact hkq)⟩
    have hfl : (L.map Ver.cells).flatten.length = q * 6 := hown.1
    obtain ⟨_, _, he, hck⟩ := HRB.out.rd.1.at (k := k) (t := b.cells) (by rw [Qi, hb]; rfl)
    cases he
    have hki : (k : Int) < (q : Int) := by omega
    have hk0 : (0 : Int) <= (k : Int) := by omega
    have ck : wr.cell? ⟨ga, k * 6 + 1, none⟩ = some b.s := by have h := hck 1 _ rfl; simpa using h
    have fk : wr.frozen? ⟨ga, k * 6 + 1, none⟩ = false := hown.frozenAt (k * 6 + 1)
    have HBX := Lib.hid (show Below W2.heap.size W2 (wr.setCell ⟨ga, k * 6 + 1, none⟩ (.slice none 0 0)) from HB.out.setCell (p := ⟨ga, k * 6 + 1, none⟩) hga _)
    have HVX := Lib.hid (show VersB W2.heap.size (wr.setCell ⟨ga, k * 6 + 1, none⟩ (.slice none 0 0)) (.slice (some ⟨ga, 0, none⟩) q cap) (L.set k { b with s := .slice none 0 0, l := [] }) from HRB.out.norow HLL.out hb)
    have HRX := Lib.hid (show ∀ x ∈ L.set k { b with s := .slice none 0 0, l := [] }, x.row = [] ∨ ∃ i, i < q ∧ x.row = rowG (colsN a0) i from fun x hx => by
     rcases Qe hx with h | h
     ·exact HROWS.out x h
     ·rw [h]
      exact .inl rfl)
    have HT := Lib.hid (show (risT (L.set k { b with s := .slice none 0 0, l := [] }) && rowsB (colsN a0) ((L.set k { b with s := .slice none 0 0, l := [] }).map Ver.row)) = false from by
     rw [rowsB_bad (r := []) (Qh.2 ⟨_, List.mem_set (by rw [HLL.out]; exact hkq) _, rfl⟩) (by
      have hne := HOK.out.ne
      match hc : colsN a0, hne with
      | c :: r, _ => rfl), Bool.and_false])
    clear hown hfl hck hb
    go_wp2_with fail
    refine (HMK.out _ (L.set k { b with s := .slice none 0 0, l := [] }) _ HBX.out HVX.out (by simp only [Qd]; exact HLL.out) HRX.out).mono ?_
    rintro e w5 ⟨h, hb5⟩
    rw [HT.out] at h
    obtain ⟨_, rfl⟩ := h.resolve_left fun hh => by cases hh.1
    clear h
    have HB5 := Lib.hid (show Below w.heap.size w w5 from zAa (zAa HB2.out HBX.out) hb5)
    clear hb5
    go_wp2_with fail
    refine (HAW.out w5).mono ?_
    rintro e w8 ⟨rfl, hb8⟩
    have HB8 := Lib.hid (zAa HB5.out hb8)
    clear hb8
    go_wp2_with fail
    go_ret
    exact ⟨rfl, HB8.out⟩
   ·have b3w : bits .and .i64 a2 3 = 2 := by rw [b3, hh]
    clear b3 hh
    by_cases hkz : k = 0
    ·have hkpos : ¬ (0 : Int) < (k : Int) := by omega
     by_cases h64 : q <= 64
     ·have hgt : decide ((q : Int) <= 64) = true := decide_eq_true (by omega)
      have hgi : (q : Int) <= 64 := by omega
      have HT := Lib.hid (show (risT L && rowsB (colsN a0) (L.map Ver.row)) = true by rw [risT_all HIDS.out, HFIT.out, Qc]; first | exact decide_eq_true h64 | exact decide_eq_false h64)
      clear h64
      go_wp2_with fail
      refine (HMK.out wr L _ HB.out HRB.out HLL.out HROWS.out).mono ?_
      rintro e w5 ⟨h, hb5⟩
      rw [HT.out] at h
      obtain ⟨_, G, rfl, hg⟩ := h.resolve_right fun hh => by cases hh.1
      clear h
      have HB5 := Lib.hid (show Below w.heap.size w w5 from zAa (zAa HB2.out HB.out) hb5)
      have HID := Lib.hid (gIDs_any (by rw [Qa, HLL.out]; omega) w5 hg)
      have HG5 := Lib.hid hg
      have HLI := Lib.hid (show ∀ w', Below w5.heap.size w5 w' -> Calls Tryz.prog 36 #[.pointer (some ⟨G, 0, none⟩)] w' fun e w'' => e = .returned (.int .i64 ((q : Nat) : Int)) ∧ Below w'.heap.size w' w'' from fun w' hw => by
       have h := gLive_any (by rw [Qa, HLL.out]; omega) w' (HG5.out.kept hw)
       rw [liveT_zero _ (fun s hs => by obtain ⟨x, hx, rfl⟩ := Qh.1 hs; obtain ⟨j, hj⟩ := Qg hx; exact (HLM.out j x hj).2.2), Qa, HLL.out] at h
       exact h)
      clear hg hb5
      go_wp2_with fail
      refine HID.out.mono ?_
      rintro e w6 ⟨v, rfl, ho, hb6⟩
      rw [Qa, HLL.out] at ho
      obtain ⟨va, vc, rfl⟩ := own_isSlice ho
      have HB6 := Lib.hid (zAa HB5.out hb6)
      have HL6 := Lib.hid (HLI.out w6 hb6)
      clear ho hb6
      go_wp2_with fail
      refine HL6.out.mono ?_
      rintro e w7 ⟨rfl, hb7⟩
      have HB7 := Lib.hid (zAa HB6.out hb7)
      clear hb7
      go_wp2_with fail
      refine (HAW.out w7).mono ?_
      rintro e w8 ⟨rfl, hb8⟩
      have HB8 := Lib.hid (zAa HB7.out hb8)
      clear hb8
      go_wp2_with fail
      go_ret
      exact ⟨rfl, HB8.out⟩
     ·have hgt : decide ((q : Int) <= 64) = false := decide_eq_false (by omega)
      have hgi : ¬ (q : Int) <= 64 := by omega
      have HT := Lib.hid (show (risT L && rowsB (colsN a0) (L.map Ver.row)) = false by rw [risT_all HIDS.out, HFIT.out, Qc]; first | exact decide_eq_true h64 | exact decide_eq_false h64)
      clear h64
      go_wp2_with fail
      refine (HMK.out wr L _ HB.out HRB.out HLL.out HROWS.out).mono ?_
      rintro e w5 ⟨h, hb5⟩
      rw [HT.out] at h
      obtain ⟨_, rfl⟩ := h.resolve_left fun hh => by cases hh.1
      clear h
      have HB5 := Lib.hid (show Below w.heap.size w w5 from zAa (zAa HB2.out HBX.out) hb5)
      clear hb5
      go_wp2_with fail
      refine (HAW.out w5).mono ?_
      rintro e w8 ⟨rfl, hb8⟩
      have HB8 := Lib.hid (zAa HB5.out hb8)
      clear hb8
      go_wp2_with fail
      go_ret
      exact ⟨rfl, HB8.out⟩
    ·have hown := HRB.out.own
     rw [HLL.out] at hown
     have hga : W2.heap.size <= ga := zAh hown ga rfl
     have hne : SB ≠ ga := by have := HSBL.out; omega
     have hne2 : ga ≠ SB := fun e => hne e.symm
     obtain ⟨b, hb⟩ : ∃ b, L[k]? = some b := ⟨_, Qb (by rw [HLL.out]; exact hkq)⟩
     have hfl : (L.map Ver.cells).flatten.length = q * 6 := hown.1
     obtain ⟨_, _, he, hck⟩ := HRB.out.rd.1.at (k := k) (t := b.cells) (by rw [Qi, hb]; rfl)
     cases he
     have hki : (k : Int) < (q : Int) := by omega
     have hk0 : (0 : Int) <= (k : Int) := by omega
     have ck : wr.cell? ⟨ga, k * 6, none⟩ = some (.int .i64 b.id) := by have h := hck 0 _ rfl; simpa using h
     have fk : wr.frozen? ⟨ga, k * 6, none⟩ = false := hown.frozenAt (k * 6)
     obtain ⟨p, hkp⟩ : ∃ p, k = p + 1 := ⟨k - 1, by omega⟩
     obtain ⟨a, ha⟩ : ∃ a, L[p]? = some a := ⟨_, Qb (by rw [HLL.out]; omega)⟩
     obtain ⟨_, _, he, hcp⟩ := HRB.out.rd.1.at (k := p) (t := a.cells) (by rw [Qi, ha]; rfl)
     cases he
     have cp : wr.cell? ⟨ga, p * 6, none⟩ = some (.int .i64 a.id) := by have h := hcp 0 _ rfl; simpa using h
     have fp : wr.frozen? ⟨ga, p * 6, none⟩ = false := hown.frozenAt (p * 6)
     have hw1 : IntKind.i64.wrap ((k : Int) - 1) = (p : Int) := by rw [Qf _ (by omega)]; omega
     have hp0 : (0 : Int) <= (p : Int) := by omega
     have hpi : (p : Int) < (q : Int) := by omega
     have hkpos : (0 : Int) < (k : Int) := by omega
     have HIA := Lib.hid (HLM.out p a ha).1
     have HIBb := Lib.hid (HLM.out k b hb).1
     have HKP := Lib.hid hkp
     have HA := Lib.hid ha
     have HBk := Lib.hid hb
     have HBX := Lib.hid (show Below W2.heap.size W2 ((wr.setCell ⟨ga, k * 6, none⟩ (.int .i64 a.id)).setCell ⟨ga, p * 6, none⟩ (.int .i64 b.id)) from (HB.out.setCell (p := ⟨ga, k * 6, none⟩) hga _).setCell (p := ⟨ga, p * 6, none⟩) hga _)
     have HVX := Lib.hid (show VersB W2.heap.size ((wr.setCell ⟨ga, k * 6, none⟩ (.int .i64 a.id)).setCell ⟨ga, p * 6, none⟩ (.int .i64 b.id)) (.slice (some ⟨ga, 0, none⟩) q cap) ((L.set k { b with id := a.id }).set p { a with id := b.id }) from (HRB.out.id HLL.out hb _).id (by rw [Qd]; exact HLL.out) (by rw [Qk (by omega)]; exact ha) _)
     have HRX := Lib.hid (show ∀ x ∈ (L.set k { b with id := a.id }).set p { a with id := b.id }, x.row = [] ∨ ∃ i, i < q ∧ x.row = rowG (colsN a0) i from fun x hx => by
      rcases Qe hx with h | h
      ·rcases Qe h with h | h
       ·exact HROWS.out x h
       ·rw [h]
        exact HROWS.out b (Qj hb)
      ·rw [h]
       exact HROWS.out a (Qj ha))
     have HT := Lib.hid (show (risT ((L.set k { b with id := a.id }).set p { a with id := b.id }) && rowsB (colsN a0) (((L.set k { b with id := a.id }).set p { a with id := b.id }).map Ver.row)) = false from by
      rw [risT_bad (p := p) (a := { a with id := b.id }) (b := { b with id := a.id }) (by rw [Ql (by rw [Qd, HLL.out]; omega)]) (by rw [<- hkp, Qk (by omega), Ql (by rw [HLL.out]; exact hkq)]) (by show ¬ b.id < a.id; rw [HIA.out, HIBb.out]; omega), Qo])
     have cps : (wr.setCell ⟨ga, k * 6, none⟩ (.int .i64 a.id)).cell? ⟨ga, p * 6, none⟩ = some (.int .i64 a.id) := (World.cell?_setCell_other _ _ _ _ (by simp)).trans cp
     clear hown hfl hck hcp ha hb hkp hkz
     go_upto_region 22 with (fail)
     go_region
     go_wp2_with fail
     refine (HMK.out _ ((L.set k { b with id := a.id }).set p { a with id := b.id }) _ (below_draws HBX.out _) (HVX.out.keptB (below_draws (Qm _ _) _)) (by simp only [Qd]; exact HLL.out) HRX.out).mono ?_
     rintro e w5 ⟨h, hb5⟩
     rw [HT.out] at h
     obtain ⟨_, rfl⟩ := h.resolve_left fun hh => by cases hh.1
     clear h
     have HB5 := Lib.hid (show Below w.heap.size w w5 from zAa (zAa HB2.out (below_draws HBX.out _)) hb5)
     clear hb5
     go_wp2_with fail
     refine (HAW.out w5).mono ?_
     rintro e w8 ⟨rfl, hb8⟩
     have HB8 := Lib.hid (zAa HB5.out hb8)
     clear hb8
     go_wp2_with fail
     go_ret
     exact ⟨rfl, HB8.out⟩
   ·have b3w : bits .and .i64 a2 3 = 3 := by rw [b3, hh]
    clear b3 hh
    by_cases h64 : q <= 64
    ·have hgt : decide ((q : Int) <= 64) = true := decide_eq_true (by omega)
     have hgi : (q : Int) <= 64 := by omega
     have HT := Lib.hid (show (risT L && rowsB (colsN a0) (L.map Ver.row)) = true by rw [risT_all HIDS.out, HFIT.out, Qc]; first | exact decide_eq_true h64 | exact decide_eq_false h64)
     clear h64
     go_wp2_with fail
     refine (HMK.out wr L _ HB.out HRB.out HLL.out HROWS.out).mono ?_
     rintro e w5 ⟨h, hb5⟩
     rw [HT.out] at h
     obtain ⟨_, G, rfl, hg⟩ := h.resolve_right fun hh => by cases hh.1
     clear h
     have HB5 := Lib.hid (show Below w.heap.size w w5 from zAa (zAa HB2.out HB.out) hb5)
     have HID := Lib.hid (gIDs_any (by rw [Qa, HLL.out]; omega) w5 hg)
     have HG5 := Lib.hid hg
     have HLI := Lib.hid (show ∀ w', Below w5.heap.size w5 w' -> Calls Tryz.prog 36 #[.pointer (some ⟨G, 0, none⟩)] w' fun e w'' => e = .returned (.int .i64 ((q : Nat) : Int)) ∧ Below w'.heap.size w' w'' from fun w' hw => by
      have h := gLive_any (by rw [Qa, HLL.out]; omega) w' (HG5.out.kept hw)
      rw [liveT_zero _ (fun s hs => by obtain ⟨x, hx, rfl⟩ := Qh.1 hs; obtain ⟨j, hj⟩ := Qg hx; exact (HLM.out j x hj).2.2), Qa, HLL.out] at h
      exact h)
     clear hg hb5
     go_wp2_with fail
     refine HID.out.mono ?_
     rintro e w6 ⟨v, rfl, ho, hb6⟩
     rw [Qa, HLL.out] at ho
     obtain ⟨va, vc, rfl⟩ := own_isSlice ho
     have HB6 := Lib.hid (zAa HB5.out hb6)
     have HL6 := Lib.hid (HLI.out w6 hb6)
     clear ho hb6
     go_wp2_with fail
     refine HL6.out.mono ?_
     rintro e w7 ⟨rfl, hb7⟩
     have HB7 := Lib.hid (zAa HB6.out hb7)
     clear hb7
     go_wp2_with fail
     refine (HAW.out w7).mono ?_
     rintro e w8 ⟨rfl, hb8⟩
     have HB8 := Lib.hid (zAa HB7.out hb8)
     clear hb8
     go_wp2_with fail
     go_ret
     exact ⟨rfl, HB8.out⟩
    ·have hgt : decide ((q : Int) <= 64) = false := decide_eq_false (by omega)
     have hgi : ¬ (q : Int) <= 64 := by omega
     have HT := Lib.hid (show (risT L && rowsB (colsN a0) (L.map Ver.row)) = false by rw [risT_all HIDS.out, HFIT.out, Qc]; first | exact decide_eq_true h64 | exact decide_eq_false h64)
     clear h64
     go_wp2_with fail
     refine (HMK.out wr L _ HB.out HRB.out HLL.out HROWS.out).mono ?_
     rintro e w5 ⟨h, hb5⟩
     rw [HT.out] at h
     obtain ⟨_, rfl⟩ := h.resolve_left fun hh => by cases hh.1
     clear h
     have HB5 := Lib.hid (show Below w.heap.size w w5 from zAa (zAa HB2.out HBX.out) hb5)
     clear hb5
     go_wp2_with fail
     refine (HAW.out w5).mono ?_
     rintro e w8 ⟨rfl, hb8⟩
     have HB8 := Lib.hid (zAa HB5.out hb8)
     clear hb8
     go_wp2_with fail
     go_ret
     exact ⟨rfl, HB8.out⟩
end Go.Proofs.YtmpgnjhgegbdkaaGreat
