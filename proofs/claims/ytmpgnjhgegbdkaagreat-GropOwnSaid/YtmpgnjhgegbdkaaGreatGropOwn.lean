/-
  The walk of GropOwn.
-/
import Derived.Test.YtmpgnjhgegbdkaaGreatGmj
import Derived.Test.YtmpgnjhgegbdkaaGreatGmg
import Derived.Test.YtmpgnjhgegbdkaaGreatGmd
import Derived.Test.YtmpgnjhgegbdkaaGreatSgp
import Derived.Test.YtmpgnjhgegbdkaaGreatIsr
import Derived.Deep.RegionHeld3
set_option linter.unusedVariables false
set_option linter.unusedSimpArgs false
set_option maxRecDepth 100000
set_option maxHeartbeats 8000000
namespace Go.Proofs.YtmpgnjhgegbdkaaGreat
open Go.RowKit
open _root_.List renaming getElem?_eq_getElem -> Qa, getElem?_map -> Qd, length_map -> Qe, mem_of_getElem? -> Qf, mem_map -> Qh, getElem?_set_ne -> Qj, mem_map_of_mem -> Qk, getElem?_of_mem -> Qm, getElem?_eq_some_iff -> Qn, length_take -> Qo, length_set -> Qq, take_zero -> Qs, take_add_one -> Qu, map_append -> Qv, mem_singleton -> Qw, mem_cons -> Qx, not_mem_nil -> Qy, flatten_append -> Qz, take_of_length_le -> Ja, getElem?_eq_none_iff -> Jc
open Go.World renaming block_lt_of_cell? -> Qb
open _root_.Nat renaming zero_le -> Qc, le_refl -> Qi, lt_of_lt_of_le -> Jb
open Go.RowKit.Below renaming refl -> Qg
open _root_.Option renaming map_some -> Ql
open _root_.Bool renaming and_true -> Qp
open _root_.Array renaming getElem?_eq_some_iff -> Qr
open Go.IntWalk renaming i64_in -> Qt
open Go renaming cell_of_row -> Jd, heap_alloc_new -> Je
theorem rows9_memG {cols : List Co} {l : List Int} {r : List Vc} (h : r ∈ rows9 cols l) : ∃ (i : Nat) (n : Int), i < 40 ∧ r = (rowOf cols n).set 0 ⟨false, 1, (i : Int) * 3 + n % 2, []⟩ := by
 obtain ⟨i, hi⟩ := Qm h
 unfold rows9 at hi
 rw [List.getElem?_mapIdx] at hi
 cases hq : (l.take 40)[i]? with
 | none => rw [hq] at hi; cases hi
 | some n =>
  rw [hq] at hi
  have := (Qn.1 hq).1
  rw [Qo] at this
  exact ⟨i, n, by omega, (Option.some.inj hi).symm⟩
theorem rows9_leG (cols : List Co) (l : List Int) : (rows9 cols l).length <= 40 := by
 unfold rows9
 rw [List.length_mapIdx, Qo]
 omega
theorem row9_fitsG {cols : List Co} (h : ColsOk cols) (n x : Int) : fitsR cols ((rowOf cols n).set 0 ⟨false, 1, x, []⟩) = true := by
 obtain ⟨c0, hc0⟩ : ∃ c0, cols[0]? = some c0 := ⟨_, Qa h.ne⟩
 have hk := (h.hd _ hc0).1
 rw [zJ1 cols _ 0 c0 _ (zMt h n) hc0]
 unfold fitsT
 simp [hk]
theorem rows9_BG {cols : List Co} (h : ColsOk cols) (l : List Int) : rowsB cols (rows9 cols l) = decide (0 < (rows9 cols l).length) := by
 have h1 := rows9_leG cols l
 have h2 : (rows9 cols l).all (fitsR cols) = true := by
  rw [List.all_eq_true]
  intro r hr
  obtain ⟨i, n, _, rfl⟩ := rows9_memG hr
  exact row9_fitsG h _ _
 unfold rowsB
 rw [h2, decide_eq_true (show (rows9 cols l).length <= 64 by omega), Qp, Qp]
theorem row9_lenG {cols : List Co} {l : List Int} {r : List Vc} (h : r ∈ rows9 cols l) : r.length = cols.length := by
 obtain ⟨i, n, _, rfl⟩ := rows9_memG h
 rw [Qq, zDa]
theorem row9_smallG {cols : List Co} {l : List Int} {r : List Vc} (h : r ∈ rows9 cols l) : ∀ v ∈ r, I64 v.n ∧ v.b.length <= 8 := fun v hv => by
 obtain ⟨i, n, hi, rfl⟩ := rows9_memG h
 rcases List.mem_or_eq_of_mem_set hv with h | rfl
 ·exact zMv n v h
 ·exact ⟨by unfold I64; simp only; omega, Qc _⟩
theorem elmVersionO : Elm Tryz.prog 75 81 6 64 := zFw Tryz.underlying75 (show (Tryz.prog.info? 81).map (fun i => (i.zero, i.size, i.bytes)) = some (some (.agg #[.int .i64 0, .slice none 0 0, .int .i64 0, .int .i64 0, .int .i64 0, .int .i64 0]), 6, 64) by kernel_rfl) rfl (by decide) (by decide)
theorem verL_flat {VL : List Ver} {k j : Nat} {x : Ver} {u : Value} (hx : VL[k]? = some x) (hu : x.cells[j]? = some u) : (VL.map Ver.cells).flatten[k * 6 + j]? = some u :=
 zDi (VL.map Ver.cells) 6 (fun t ht => by obtain ⟨c, _, rfl⟩ := Qh.1 ht; rfl) k x.cells j u (by rw [Qd, hx]; rfl) hu
theorem walk_GropOwn (a0 : Int) (a1 : Option Addr) (len1 cap1 : Nat) (z1 : List Int) (w : World) (w0 : (Lit.int .i64 a0).wf = true) (w1 : IsRow .i64 w a1 len1 cap1 z1) :
  Calls Tryz.prog 11 #[.int .i64 a0, .slice a1 len1 cap1] w fun e w' => e = .returned (.bool true) ∧ Below w.heap.size w w' := by
 obtain ⟨la, hla, h1, _⟩ := isRow_rd w1
 have HLA := Lib.hid hla
 have HR1 := Lib.hid h1
 have HS := Lib.hid (zP0 a0 w)
 have HSC := Lib.hid (zNc a0)
 have HOK := Lib.hid (zIf a0)
 have HAW := Lib.hid zMx
 clear hla h1 w0 w1
 go_enter Tryz.func11, Tryz.ntmps11
 go_wp2_with fail
 refine HS.out.mono ?_
 rintro e W1 ⟨so, sc, rfl, hs1, hb1⟩
 obtain ⟨m, hm⟩ : ∃ m, m = (colsN a0).length := ⟨_, rfl⟩
 have hc1 : RdC W1 _ (colsN a0) := hs1.rd
 rw [<- hm] at hs1 hc1 ⊢
 have hm0 : 0 < m := by rw [hm]; exact HOK.out.ne
 have hm6 : m <= 6 := by rw [hm]; exact HOK.out.le
 have HM := Lib.hid hm
 clear hm
 go_upto_region 2 with (fail)
 obtain ⟨W2, hW2⟩ : ∃ W2 : World, W2 = W1.alloc (.cells #[.slice so m sc] 24) := ⟨_, rfl⟩
 obtain ⟨SB, hSB⟩ : ∃ SB, SB = W1.heap.size := ⟨_, rfl⟩
 rw [<- hW2, <- hSB]
 have HSB := Lib.hid (show W2.heap[SB]? = some (.cells #[.slice so m sc] 24 (0, 0)) by rw [hW2, hSB]; exact Je W1 _)
 have hb12 : Below W1.heap.size W1 W2 := by rw [hW2]; exact zAd W1 _
 have HB2 := Lib.hid (zAa hb1 hb12)
 have HC2 := Lib.hid (RdC.kept hc1 hb12)
 have HCS := Lib.hid (show ∀ w', Below W2.heap.size W2 w' -> w'.cell? ⟨SB, 0, none⟩ = some (.slice so m sc) from fun w' h => by rw [Jd w' SB 0 _ _ _ ((h.block SB (Qr.1 HSB.out).1).trans HSB.out)]; rfl)
 have HRW := Lib.hid (show ∀ w', Below W2.heap.size W2 w' -> Calls Tryz.prog 18 #[.agg #[.slice so m sc], .slice a1 len1 cap1] w' fun e w'' => ∃ (ao : Option Addr) (cap : Nat) (sls : List Value) (L : List (List (Vc × Value))) (B : Nat), e = .returned (.slice ao L.length cap) ∧ L.map (fun x => x.map Prod.fst) = rows9 (colsN a0) la ∧ w'.heap.size <= B ∧ B <= w''.heap.size ∧ RowsB B w'' (.slice ao L.length cap) sls L ∧ Below w'.heap.size w' w'' from fun w' h => by
  refine (zS6 (colsN a0) HOK.out la (.slice so m sc) a1 len1 cap1 HLA.out.symm w' (RdC.kept HC2.out h) (HR1.out.kept (zAa HB2.out h))).mono ?_
  rintro e w'' ⟨ao, cap, sls, L, rfl, h1, h2, h3, h4⟩
  exact ⟨ao, cap, sls, L, w'.heap.size + 1, rfl, h1, by omega, by omega, h2, h4⟩)
 obtain ⟨R, hR⟩ : ∃ R, R = rows9 (colsN a0) la := ⟨_, rfl⟩
 rw [<- hR] at HRW
 have HRE := Lib.hid hR
 have hn40 : R.length <= 40 := by rw [hR]; exact rows9_leG _ _
 obtain ⟨n, hn⟩ : ∃ n, n = R.length := ⟨_, rfl⟩
 rw [<- hn] at hn40
 have HNR := Lib.hid hn
 have cs2 : W2.cell? ⟨SB, 0, none⟩ = some (.slice so m sc) := HCS.out _ (Qg _ _)
 clear hs1 hc1 hb1 hb12 hW2 hSB hR hn
 go_wp2_with fail
 refine (HRW.out _ (Qg _ _)).mono ?_
 rintro e wA1 ⟨ao1, cap1, sls1, L1, B1, rfl, hLm, hB, hBw, hrb, hbA⟩
 have HLM1 := Lib.hid hLm
 have hLn : L1.length = n := by rw [HNR.out, <- hLm, Qe]
 rw [hLn] at hrb ⊢
 have HLN1 := Lib.hid hLn
 have HRB1 := Lib.hid hrb
 have HBA1 := Lib.hid hB
 have HBB1 := Lib.hid hBw
 have HBW1 := Lib.hid (zAa (Qg _ _) hbA)
 have HSA1 := Lib.hid hbA
 have HLL1 := Lib.hid (show ∀ l ∈ L1, l.map Prod.fst ∈ R ∧ l.length = m from fun l hl => by
  have h : l.map Prod.fst ∈ R := by rw [<- HLM1.out]; exact Qk (f := fun x : List (Vc × Value) => x.map Prod.fst) hl
  refine ⟨h, ?_⟩
  rw [HRE.out] at h
  have := row9_lenG h
  rw [Qe] at this
  rw [this, HM.out])
 obtain ⟨VL1, hVL⟩ : ∃ VL, VL = verL sls1 L1 := ⟨_, rfl⟩
 have HVL1 := Lib.hid hVL
 have hVLn : VL1.length = n := by rw [hVL, verL_len (by have := hrb.len; rw [this]), hLn]
 have HVN1 := Lib.hid hVLn
 clear hLm hLn hB hBw hrb hbA hVL hVLn cs2
 go_wp2_with fail
 go_loopw [6, 30] (fun o i wr => ∃ (q : Nat) (ao : Option Addr) (cap : Nat), q <= n ∧ i = .int .i64 (q : Int) ∧ o = .slice ao q cap ∧ wr.ownsRow wA1.heap.size 81 6 (.slice ao q cap) q ((VL1.take q).map Ver.cells).flatten ∧ Below wA1.heap.size wA1 wr) (fun _ i _ => n - (intOf i).toNat)
 case atStart => exact ⟨0, none, 0, Qc _, rfl, rfl, by rw [Qs]; exact World.ownsRow_nil .., Qg _ _⟩
 case round =>
  obtain ⟨q, ao, cap, hq, rfl, rfl, hown, hb⟩ := hrel
  have HO := Lib.hid hown
  have HB := Lib.hid hb
  clear hown hb
  by_cases hlt : q < n
  ·have hlti : (q : Int) < (n : Int) := by omega
   have hq0 : (0 : Int) <= (q : Int) := by omega
   have hq1 : IntKind.i64.wrap ((q : Int) + 1) = (q : Int) + 1 := Qt _ (by omega)
   have HRBr := Lib.hid (HRB1.out.kept HB.out)
   obtain ⟨G, capG, hov⟩ := Joins.ownsRow_form HRBr.out.own (by rw [HLN1.out]; omega)
   rw [HLN1.out] at hov
   simp only [Value.slice.injEq] at hov
   obtain ⟨rfl, _, rfl⟩ := hov
   obtain ⟨s, hs⟩ : ∃ s, sls1[q]? = some s := ⟨_, Qa (by rw [HRBr.out.len, HLN1.out]; exact hlt)⟩
   obtain ⟨l, hl⟩ : ∃ l, L1[q]? = some l := ⟨_, Qa (by rw [HLN1.out]; exact hlt)⟩
   obtain ⟨sa, sac, hsv⟩ := zB2 (HRBr.out.row q s l hs hl)
   have hlm := (HLL1.out l (Qf hl)).2
   rw [hlm] at hsv
   subst hsv
   have hown1 : wr.ownsRow B1 27 1 (.slice (some ⟨G, 0, none⟩) n cap1) n sls1 := by have h := HRBr.out.own; rw [HLN1.out] at h; exact h
   have cR : wr.cell? ⟨G, q, none⟩ = some (.slice sa m sac) := (hown1.cellAt q (by omega)).trans hs
   have HXC := Lib.hid (show (VL1.take (q + 1)).map Ver.cells = (VL1.take q).map Ver.cells ++ [[.int .i64 ((q : Int) + 1), .slice sa m sac, .int .i64 0, .int .i64 (q : Int), .int .i64 0, .int .i64 0]] from by
    rw [Qu, Qv, HVL1.out, verL_at hs hl]
    rfl)
   have HRD := Lib.hid (zBa wr #[.int .i64 ((q : Int) + 1), .slice sa m sac, .int .i64 0, .int .i64 (q : Int), .int .i64 0, .int .i64 0] 81 6 rfl)
   have HON := Lib.hid (show Ones 6 [[.int .i64 ((q : Int) + 1), .slice sa m sac, .int .i64 0, .int .i64 (q : Int), .int .i64 0, .int .i64 0]] from fun t ht => by rw [Qw.1 ht]; exact ⟨rfl, fun u hu => by simp only [Qx, Qy, or_false] at hu; rcases hu with rfl | rfl | rfl | rfl | rfl | rfl <;> rfl⟩)
   have HOWN := Lib.hid (show (wr.alloc (.cells #[.int .i64 ((q : Int) + 1), .slice sa m sac, .int .i64 0, .int .i64 (q : Int), .int .i64 0, .int .i64 0] 81)).ownsRow wA1.heap.size 81 6 (.slice ao q cap) q ((VL1.take q).map Ver.cells).flatten from HO.out.alloc _)
   have HSZ := Lib.hid (show wA1.heap.size <= (wr.alloc (.cells #[.int .i64 ((q : Int) + 1), .slice sa m sac, .int .i64 0, .int .i64 (q : Int), .int .i64 0, .int .i64 0] 81)).heap.size by have := HB.out.size; simp; omega)
   clear hs hl hlm hown1
   go_wp2_with (at_builtin; go_must (refine zAf elmVersionO rfl _ _ rfl wA1.heap.size _ _ _ rfl HOWN.out _ [[.int .i64 ((q : Int) + 1), .slice sa m sac, .int .i64 0, .int .i64 (q : Int), .int .i64 0, .int .i64 0]] rfl HRD.out HON.out (by simp; omega) HSZ.out (q + 1) rfl ?_); intro ao4 cap4 w4 hown4 hgrow4 hnew4; have HO4 := Lib.hid hown4; have HG4 := Lib.hid hgrow4; clear hown4 hgrow4 hnew4)
   go_roundw
   case rel =>
    refine ⟨q + 1, ao4, cap4, by omega, by go_num, rfl, ?_, ?_⟩
    ·rw [HXC.out, Qz]
     exact HO4.out
    ·exact (HB.out.alloc HB.out.size _).grown HG4.out HSZ.out (zAg HOWN.out)
   case measure => simp [intOf]; omega
  ·have hqc : q = n := by omega
   have hlti : ¬ (q : Int) < (n : Int) := by omega
   rw [hqc] at HO ⊢
   rw [Ja (by rw [HVN1.out]; exact Qi _)] at HO
   obtain ⟨wl1, hwl⟩ : ∃ wl : World, wl = wr := ⟨_, rfl⟩
   rw [<- hwl] at HO HB ⊢
   have HOL1 := HO
   have HBL1 := HB
   have hnn : ¬ (n : Int) < (n : Int) := by omega
   obtain ⟨la1, hla⟩ : ∃ x, x = ao := ⟨_, rfl⟩
   obtain ⟨lc1, hlc⟩ : ∃ x, x = cap := ⟨_, rfl⟩
   rw [<- hla, <- hlc] at HOL1 ⊢
   have HBX1 := Lib.hid (zAa HBW1.out HBL1.out)
   have cs2 : wl1.cell? ⟨SB, 0, none⟩ = some (.slice so m sc) := HCS.out _ HBX1.out
   clear hwl hqc hlti hla hlc HO HB hlt
   go_wp2_with fail
   refine (HRW.out _ HBX1.out).mono ?_
   rintro e wA2 ⟨ao2, cap2, sls2, L2, B2, rfl, hLm, hB, hBw, hrb, hbA⟩
   have HLM2 := Lib.hid hLm
   have hLn : L2.length = n := by rw [HNR.out, <- hLm, Qe]
   rw [hLn] at hrb ⊢
   have HLN2 := Lib.hid hLn
   have HRB2 := Lib.hid hrb
   have HBA2 := Lib.hid hB
   have HBB2 := Lib.hid hBw
   have HBW2 := Lib.hid (zAa HBX1.out hbA)
   have HSA2 := Lib.hid hbA
   have HLL2 := Lib.hid (show ∀ l ∈ L2, l.map Prod.fst ∈ R ∧ l.length = m from fun l hl => by
    have h : l.map Prod.fst ∈ R := by rw [<- HLM2.out]; exact Qk (f := fun x : List (Vc × Value) => x.map Prod.fst) hl
    refine ⟨h, ?_⟩
    rw [HRE.out] at h
    have := row9_lenG h
    rw [Qe] at this
    rw [this, HM.out])
   obtain ⟨VL2, hVL⟩ : ∃ VL, VL = verL sls2 L2 := ⟨_, rfl⟩
   have HVL2 := Lib.hid hVL
   have hVLn : VL2.length = n := by rw [hVL, verL_len (by have := hrb.len; rw [this]), hLn]
   have HVN2 := Lib.hid hVLn
   clear hLm hLn hB hBw hrb hbA hVL hVLn cs2
   go_wp2_with fail
   go_loopw [7, 50] (fun o i wr => ∃ (q : Nat) (ao : Option Addr) (cap : Nat), q <= n ∧ i = .int .i64 (q : Int) ∧ o = .slice ao q cap ∧ wr.ownsRow wA2.heap.size 81 6 (.slice ao q cap) q ((VL2.take q).map Ver.cells).flatten ∧ Below wA2.heap.size wA2 wr) (fun _ i _ => n - (intOf i).toNat)
   case atStart => exact ⟨0, none, 0, Qc _, rfl, rfl, by rw [Qs]; exact World.ownsRow_nil .., Qg _ _⟩
   case round =>
    obtain ⟨q, ao, cap, hq, rfl, rfl, hown, hb⟩ := hrel
    have HO := Lib.hid hown
    have HB := Lib.hid hb
    clear hown hb
    by_cases hlt : q < n
    ·have hlti : (q : Int) < (n : Int) := by omega
     have hq0 : (0 : Int) <= (q : Int) := by omega
     have hq1 : IntKind.i64.wrap ((q : Int) + 1) = (q : Int) + 1 := Qt _ (by omega)
     have HRBr := Lib.hid (HRB2.out.kept HB.out)
     obtain ⟨G, capG, hov⟩ := Joins.ownsRow_form HRBr.out.own (by rw [HLN2.out]; omega)
     rw [HLN2.out] at hov
     simp only [Value.slice.injEq] at hov
     obtain ⟨rfl, _, rfl⟩ := hov
     obtain ⟨s, hs⟩ : ∃ s, sls2[q]? = some s := ⟨_, Qa (by rw [HRBr.out.len, HLN2.out]; exact hlt)⟩
     obtain ⟨l, hl⟩ : ∃ l, L2[q]? = some l := ⟨_, Qa (by rw [HLN2.out]; exact hlt)⟩
     obtain ⟨sa, sac, hsv⟩ := zB2 (HRBr.out.row q s l hs hl)
     have hlm := (HLL2.out l (Qf hl)).2
     rw [hlm] at hsv
     subst hsv
     have hown1 : wr.ownsRow B2 27 1 (.slice (some ⟨G, 0, none⟩) n cap2) n sls2 := by have h := HRBr.out.own; rw [HLN2.out] at h; exact h
     have cR : wr.cell? ⟨G, q, none⟩ = some (.slice sa m sac) := (hown1.cellAt q (by omega)).trans hs
     have HXC := Lib.hid (show (VL2.take (q + 1)).map Ver.cells = (VL2.take q).map Ver.cells ++ [[.int .i64 ((q : Int) + 1), .slice sa m sac, .int .i64 0, .int .i64 (q : Int), .int .i64 0, .int .i64 0]] from by
      rw [Qu, Qv, HVL2.out, verL_at hs hl]
      rfl)
     have HRD := Lib.hid (zBa wr #[.int .i64 ((q : Int) + 1), .slice sa m sac, .int .i64 0, .int .i64 (q : Int), .int .i64 0, .int .i64 0] 81 6 rfl)
     have HON := Lib.hid (show Ones 6 [[.int .i64 ((q : Int) + 1), .slice sa m sac, .int .i64 0, .int .i64 (q : Int), .int .i64 0, .int .i64 0]] from fun t ht => by rw [Qw.1 ht]; exact ⟨rfl, fun u hu => by simp only [Qx, Qy, or_false] at hu; rcases hu with rfl | rfl | rfl | rfl | rfl | rfl <;> rfl⟩)
     have HOWN := Lib.hid (show (wr.alloc (.cells #[.int .i64 ((q : Int) + 1), .slice sa m sac, .int .i64 0, .int .i64 (q : Int), .int .i64 0, .int .i64 0] 81)).ownsRow wA2.heap.size 81 6 (.slice ao q cap) q ((VL2.take q).map Ver.cells).flatten from HO.out.alloc _)
     have HSZ := Lib.hid (show wA2.heap.size <= (wr.alloc (.cells #[.int .i64 ((q : Int) + 1), .slice sa m sac, .int .i64 0, .int .i64 (q : Int), .int .i64 0, .int .i64 0] 81)).heap.size by have := HB.out.size; simp; omega)
     clear hs hl hlm hown1
     go_wp2_with (at_builtin; go_must (refine zAf elmVersionO rfl _ _ rfl wA2.heap.size _ _ _ rfl HOWN.out _ [[.int .i64 ((q : Int) + 1), .slice sa m sac, .int .i64 0, .int .i64 (q : Int), .int .i64 0, .int .i64 0]] rfl HRD.out HON.out (by simp; omega) HSZ.out (q + 1) rfl ?_); intro ao4 cap4 w4 hown4 hgrow4 hnew4; have HO4 := Lib.hid hown4; have HG4 := Lib.hid hgrow4; clear hown4 hgrow4 hnew4)
     go_roundw
     case rel =>
      refine ⟨q + 1, ao4, cap4, by omega, by go_num, rfl, ?_, ?_⟩
      ·rw [HXC.out, Qz]
       exact HO4.out
      ·exact (HB.out.alloc HB.out.size _).grown HG4.out HSZ.out (zAg HOWN.out)
     case measure => simp [intOf]; omega
    ·have hqc : q = n := by omega
     have hlti : ¬ (q : Int) < (n : Int) := by omega
     rw [hqc] at HO ⊢
     rw [Ja (by rw [HVN2.out]; exact Qi _)] at HO
     obtain ⟨wl2, hwl⟩ : ∃ wl : World, wl = wr := ⟨_, rfl⟩
     rw [<- hwl] at HO HB ⊢
     have HOL2 := HO
     have HBL2 := HB
     have hnn : ¬ (n : Int) < (n : Int) := by omega
     obtain ⟨la2, hla⟩ : ∃ x, x = ao := ⟨_, rfl⟩
     obtain ⟨lc2, hlc⟩ : ∃ x, x = cap := ⟨_, rfl⟩
     rw [<- hla, <- hlc] at HOL2 ⊢
     have HBX2 := Lib.hid (zAa HBW2.out HBL2.out)
     have cs2 : wl2.cell? ⟨SB, 0, none⟩ = some (.slice so m sc) := HCS.out _ HBX2.out
     clear hwl hqc hlti hla hlc HO HB hlt
     have hb12w : Below wl1.heap.size wl1 wl2 := zAa HSA2.out HBL2.out
     have HO1w := Lib.hid (zB7 HOL1.out hb12w)
     have HRBw := Lib.hid ((HRB1.out.kept HBL1.out).kept hb12w)
     have HRB2w := Lib.hid (HRB2.out.kept HBL2.out)
     have HSML := Lib.hid (show ∀ x ∈ VL1, x.l.length = m ∧ (∀ t ∈ x.l, I64 t.1.n ∧ t.1.b.length <= 8) ∧ RdP wl2 x.s x.l from fun x hx => by
      obtain ⟨k, hk⟩ := Qm hx
      rw [HVL1.out] at hk
      obtain ⟨s, l, hs, hl, rfl⟩ := verL_inv hk
      obtain ⟨h1, h2⟩ := HLL1.out l (Qf hl)
      rw [HRE.out] at h1
      exact ⟨h2, fun t ht => row9_smallG h1 t.1 (Qk ht), HRBw.out.rdp hs hl wl2 (Above.refl _ _)⟩)
     have HRDV := Lib.hid (show RdVs wl2 (.slice la1 n lc1) VL1 from ⟨zHm (ls := VL1.map Ver.cells) HO1w.out (by rw [Qe, HVN1.out]) (fun t ht => by obtain ⟨x, _, rfl⟩ := Qh.1 ht; rfl), fun x hx => (HSML.out x hx).2.2⟩)
     have HMK := Lib.hid (zJ4 (colsN a0) HSC.out VL1 (by rw [HVN1.out]; omega) (fun x hx => by rw [(HSML.out x hx).1]; omega) (fun x hx t ht => ((HSML.out x hx).2.1 t ht).1) (fun x hx t ht => by have := ((HSML.out x hx).2.1 t ht).2; omega) (.slice so m sc) (.slice la1 n lc1) wl2 (RdC.kept HC2.out HBX2.out) HRDV.out)
     have HROW := Lib.hid (show VL1.map Ver.row = R by rw [HVL1.out, verL_row (by rw [HRB1.out.len, HLN1.out]), HLM1.out])
     have HIDL := Lib.hid (show ∀ (k : Nat) (x : Ver), VL1[k]? = some x -> x.id = (k : Int) + 1 ∧ x.sp4 = (0, (k : Int), 0, 0) from fun k x hk => by
      rw [HVL1.out] at hk
      obtain ⟨s, l, hs, hl, rfl⟩ := verL_inv hk
      exact ⟨rfl, rfl⟩)
     rw [zDw fun k x hk => (HIDL.out k x hk).1, Bool.true_and, HROW.out, HRE.out, rows9_BG HOK.out, <- HRE.out, <- HNR.out] at HMK
     obtain ⟨ids, hids⟩ : ∃ ids, ids = VL1.map Ver.id := ⟨_, rfl⟩
     obtain ⟨sps, hsps⟩ : ∃ sps, sps = VL1.map Ver.sp4 := ⟨_, rfl⟩
     rw [<- hids, <- hsps] at HMK
     have HIDE := Lib.hid hids
     have HSPE := Lib.hid hsps
     clear hb12w hids hsps cs2
     go_upto_region 13 with (fail)
     have cs2 : wl2.cell? ⟨SB, 0, none⟩ = some (.slice so m sc) := HCS.out _ HBX2.out
     go_wp2_with fail
     refine HMK.out.mono ?_
     rintro e w5 ⟨⟨hyes, G, rfl, hg⟩ | ⟨hno, rfl⟩, hb5⟩
     case inr =>
      rw [decide_eq_false_iff_not] at hno
      obtain rfl : n = 0 := by omega
      have HB5 := Lib.hid (zAa (zAa HB2.out HBX2.out) hb5)
      clear hb5 hno cs2
      go_wp2_with fail
      refine (HAW.out _).mono ?_
      rintro e w6 ⟨rfl, hb6⟩
      have HB6 := Lib.hid (zAa HB5.out hb6)
      clear hb6
      go_wp2_with fail
      go_ret
      exact ⟨rfl, HB6.out⟩
     rw [decide_eq_true_eq] at hyes
     have HG := Lib.hid hg
     have HB5 := Lib.hid hb5
     have HBW5 := Lib.hid (zAa (zAa HB2.out HBX2.out) hb5)
     have hn0 : 0 < n := hyes
     have HLW := Lib.hid (zB7 HO1w.out hb5)
     have HRWW := Lib.hid (show RowsV B1 w5 (.slice ao1 n cap1) sls1 n m from by
      have h := (HRBw.out.kept hb5).rowsV (fun l hl => (HLL1.out l hl).2)
      rw [HLN1.out] at h
      exact h)
     obtain ⟨lg, hlg⟩ := zE1 HLW.out hn0
     subst hlg
     have HLG := Lib.hid (show wA1.heap.size <= lg ∧ lg < B2 from ⟨(HOL1.out.lt lg rfl).1, Jb (HOL1.out.lt lg rfl).2 HBA2.out⟩)
     have HBK := Lib.hid (show ∀ u ∈ (Value.slice ao1 n cap1) :: sls1, ∀ b, u.ownBlock = some b -> B1 <= b ∧ b < wA1.heap.size from fun u hu b hb => HRB1.out.blocks u hu b hb)
     have HBO := Lib.hid (show w.heap.size <= B1 ∧ B1 <= wA1.heap.size ∧ wA1.heap.size <= B2 ∧ B2 <= wl2.heap.size from by
      have h1 := HBA1.out
      have h2 := HBB1.out
      have h3 := HB2.out.size
      have h4 := HBL1.out.size
      have h5 := HBA2.out
      have h6 := HBB2.out
      have h7 := HBL2.out.size
      exact ⟨by omega, by omega, by omega, by omega⟩)
     have HXS := Lib.hid (show ∀ k s, sls1[k]? = some s -> ((VL1.map Ver.cells).flatten)[k * 6 + 1]? = some s from fun k s hs => by
      have hk : k < L1.length := by rw [<- HRB1.out.len]; exact (Qn.1 hs).1
      have hx := verL_at hs (Qa hk)
      rw [<- HVL1.out] at hx
      exact verL_flat hx rfl)
     have HGA := Lib.hid (show ∀ wr, Agree (fun b => B1 <= b ∧ b < B2) w5 wr -> GrpAt wl2.heap.size wr G (colsN a0) R ids sps from fun wr ag => HG.out.above (fun b h1 h2 => ag.block b h2 (fun e => by have := HBO.out; omega)) ag.size)
     clear hg hb5 hyes cs2 HMK
     go_wp2_with fail
     go_loopw [86] (fun i wr => ∃ (q : Nat), q <= n ∧ i = .int .i64 (q : Int) ∧ (∃ xs, wr.ownsRow wA1.heap.size 81 6 (.slice (some ⟨lg, 0, none⟩) n lc1) n xs ∧ ∀ k s, sls1[k]? = some s -> xs[k * 6 + 1]? = some s) ∧ RowsV B1 wr (.slice ao1 n cap1) sls1 n m ∧ Agree (fun b => B1 <= b ∧ b < B2) w5 wr) (fun i _ => n - (intOf i).toNat)
     case atStart => exact ⟨0, Qc _, rfl, ⟨_, HLW.out, HXS.out⟩, HRWW.out, Agree.refl _ _⟩
     case round =>
      obtain ⟨q, hq, rfl, ⟨xs, hxo, hxs⟩, hrw, hag⟩ := hrel
      have HXO := Lib.hid hxo
      have HXX := Lib.hid hxs
      have HRW' := Lib.hid hrw
      have HAG := Lib.hid hag
      clear hxo hxs hrw hag
      by_cases hlt : q < n
      ·have hlti : (q : Int) < (n : Int) := by omega
       have hq0 : (0 : Int) <= (q : Int) := by omega
       obtain ⟨s, hs⟩ : ∃ s, sls1[q]? = some s := ⟨_, Qa (by rw [HRW'.out.len]; exact hlt)⟩
       obtain ⟨ys, hy⟩ := HRW'.out.row q s hs
       obtain ⟨sg, sgc, hsv⟩ := Joins.ownsRow_form hy hm0
       subst hsv
       have hxl : xs.length = n * 6 := HXO.out.1
       obtain ⟨u0, c0⟩ : ∃ u, wr.cell? ⟨lg, q * 6, none⟩ = some u := ⟨_, (HXO.out.cellAt (q * 6) (by omega)).trans (Qa (by omega))⟩
       obtain ⟨u2, c2⟩ : ∃ u, wr.cell? ⟨lg, q * 6 + 2, none⟩ = some u := ⟨_, (HXO.out.cellAt (q * 6 + 2) (by omega)).trans (Qa (by omega))⟩
       obtain ⟨u3, c3⟩ : ∃ u, wr.cell? ⟨lg, q * 6 + 3, none⟩ = some u := ⟨_, (HXO.out.cellAt (q * 6 + 3) (by omega)).trans (Qa (by omega))⟩
       obtain ⟨u4, c4⟩ : ∃ u, wr.cell? ⟨lg, q * 6 + 4, none⟩ = some u := ⟨_, (HXO.out.cellAt (q * 6 + 4) (by omega)).trans (Qa (by omega))⟩
       obtain ⟨u5, c5⟩ : ∃ u, wr.cell? ⟨lg, q * 6 + 5, none⟩ = some u := ⟨_, (HXO.out.cellAt (q * 6 + 5) (by omega)).trans (Qa (by omega))⟩
       have f0 := HXO.out.frozenAt (q * 6)
       have f2 := HXO.out.frozenAt (q * 6 + 2)
       have f3 := HXO.out.frozenAt (q * 6 + 3)
       have f4 := HXO.out.frozenAt (q * 6 + 4)
       have f5 := HXO.out.frozenAt (q * 6 + 5)
       have HSQ := Lib.hid hs
       clear hs hy hxl
       go_upto_region 20 with (fail)
       obtain ⟨w6, hw6⟩ : ∃ w6 : World, w6 = ((((wr.setCell ⟨lg, q * 6, none⟩ (.int .i64 99)).setCell ⟨lg, q * 6 + 2, none⟩ (.int .i64 0)).setCell ⟨lg, q * 6 + 3, none⟩ (.int .i64 0)).setCell ⟨lg, q * 6 + 4, none⟩ (.int .i64 0)).setCell ⟨lg, q * 6 + 5, none⟩ (.int .i64 1) := ⟨_, rfl⟩
       rw [<- hw6]
       have HX6 := Lib.hid (show ∃ xs, w6.ownsRow wA1.heap.size 81 6 (.slice (some ⟨lg, 0, none⟩) n lc1) n xs ∧ ∀ k s, sls1[k]? = some s -> xs[k * 6 + 1]? = some s from by
        refine ⟨_, by rw [hw6]; exact (((((HXO.out.stored (q * 6) (.int .i64 99)).1.stored (q * 6 + 2) (.int .i64 0)).1.stored (q * 6 + 3) (.int .i64 0)).1.stored (q * 6 + 4) (.int .i64 0)).1.stored (q * 6 + 5) (.int .i64 1)).1, fun k s hs => ?_⟩
        rw [Qj (by omega), Qj (by omega), Qj (by omega), Qj (by omega), Qj (by omega)]
        exact HXX.out k s hs)
       have HA6 := Lib.hid (show Agree (fun b => b = lg) wr w6 from by
        rw [hw6]
        exact (((((Agree.refl (fun b => b = lg) wr).set ⟨lg, q * 6, none⟩ _ (.inl rfl)).set ⟨lg, q * 6 + 2, none⟩ _ (.inl rfl)).set ⟨lg, q * 6 + 3, none⟩ _ (.inl rfl)).set ⟨lg, q * 6 + 4, none⟩ _ (.inl rfl)).set ⟨lg, q * 6 + 5, none⟩ _ (.inl rfl))
       have HR6 := Lib.hid (HRW'.out.other HA6.out fun u hu e => by have h1 := HBK.out u hu lg e; have h2 := HLG.out; omega)
       have HAG6 := Lib.hid (show Agree (fun b => B1 <= b ∧ b < B2) w5 w6 from HAG.out.then HA6.out fun i _ e => by rw [e]; have h2 := HLG.out; have h3 := HBO.out; omega)
       obtain ⟨xs6, hx6, hx6s⟩ := HX6.out
       have c1 : w6.cell? ⟨lg, q * 6 + 1, none⟩ = some (.slice (some ⟨sg, 0, none⟩) m sgc) := (hx6.cellAt (q * 6 + 1) (by omega)).trans (hx6s q _ HSQ.out)
       clear hw6 c0 c2 c3 c4 c5 f0 f2 f3 f4 f5 hx6 hx6s
       go_wp2_with fail
       go_loopw [105] (fun i wr => ∃ (k : Nat), k <= m ∧ i = .int .i64 (k : Int) ∧ (∃ xs, wr.ownsRow wA1.heap.size 81 6 (.slice (some ⟨lg, 0, none⟩) n lc1) n xs ∧ ∀ k s, sls1[k]? = some s -> xs[k * 6 + 1]? = some s) ∧ RowsV B1 wr (.slice ao1 n cap1) sls1 n m ∧ Agree (fun b => B1 <= b ∧ b < B2) w5 wr) (fun i _ => m - (intOf i).toNat)
       case atStart => exact ⟨0, Qc _, rfl, HX6.out, HR6.out, HAG6.out⟩
       case round =>
        obtain ⟨k, hk, rfl, ⟨xs, hxo, hxs⟩, hrw, hag⟩ := hrel
        have HXOi := Lib.hid hxo
        have HXXi := Lib.hid hxs
        have HRWi := Lib.hid hrw
        have HAGi := Lib.hid hag
        clear hxo hxs hrw hag c1
        by_cases hlk : k < m
        ·have hlki : (k : Int) < (m : Int) := by omega
         have hk0 : (0 : Int) <= (k : Int) := by omega
         obtain ⟨ys, hx⟩ := HRWi.out.row q _ HSQ.out
         have hxl : ys.length = m * 4 := hx.1
         have c1 : wr.cell? ⟨lg, q * 6 + 1, none⟩ = some (.slice (some ⟨sg, 0, none⟩) m sgc) := (HXOi.out.cellAt (q * 6 + 1) (by omega)).trans (HXXi.out q _ HSQ.out)
         obtain ⟨u0, c0⟩ : ∃ u, wr.cell? ⟨sg, k * 4, none⟩ = some u := ⟨_, (hx.cellAt (k * 4) (by omega)).trans (Qa (by omega))⟩
         obtain ⟨u1, d1⟩ : ∃ u, wr.cell? ⟨sg, k * 4 + 1, none⟩ = some u := ⟨_, (hx.cellAt (k * 4 + 1) (by omega)).trans (Qa (by omega))⟩
         obtain ⟨u2, c2⟩ : ∃ u, wr.cell? ⟨sg, k * 4 + 2, none⟩ = some u := ⟨_, (hx.cellAt (k * 4 + 2) (by omega)).trans (Qa (by omega))⟩
         obtain ⟨u3, c3⟩ : ∃ u, wr.cell? ⟨sg, k * 4 + 3, none⟩ = some u := ⟨_, (hx.cellAt (k * 4 + 3) (by omega)).trans (Qa (by omega))⟩
         have f0 := hx.frozenAt (k * 4)
         have f1 := hx.frozenAt (k * 4 + 1)
         have f2 := hx.frozenAt (k * 4 + 2)
         have f3 := hx.frozenAt (k * 4 + 3)
         have HX := Lib.hid hx
         clear hx hxl
         go_wp2_with fail
         go_roundw
         case rel =>
          have hsb := HBK.out _ (List.mem_cons_of_mem _ (Qf HSQ.out)) sg rfl
          have hlb := HLG.out
          have hbo := HBO.out
          have hag : Agree (fun b => b = sg) wr ((((wr.setCell ⟨sg, k * 4, none⟩ (.bool false)).setCell ⟨sg, k * 4 + 1, none⟩ (.int .i64 0)).setCell ⟨sg, k * 4 + 2, none⟩ (.int .i64 0)).setCell ⟨sg, k * 4 + 3, none⟩ (.slice none 0 0)) :=
           ((((Agree.refl (fun b => b = sg) wr).set ⟨sg, k * 4, none⟩ (.bool false) (.inl rfl)).set ⟨sg, k * 4 + 1, none⟩ (.int .i64 0) (.inl rfl)).set ⟨sg, k * 4 + 2, none⟩ (.int .i64 0) (.inl rfl)).set ⟨sg, k * 4 + 3, none⟩ (.slice none 0 0) (.inl rfl)
          exact ⟨k + 1, by omega, by go_num, ⟨_, zAe HXOi.out hag (fun b hb e => by cases hb; have e2 : lg = sg := e; omega), HXXi.out⟩, HRWi.out.store HSQ.out rfl hag ⟨_, ((((HX.out.stored (k * 4) (.bool false)).1.stored (k * 4 + 1) (.int .i64 0)).1.stored (k * 4 + 2) (.int .i64 0)).1.stored (k * 4 + 3) (.slice none 0 0)).1⟩, HAGi.out.then hag (fun i _ e => by rw [e]; omega)⟩
         case measure => simp [intOf]; omega
        ·have hkm : k = m := by omega
         subst hkm
         have hlki : ¬ (k : Int) < (k : Int) := by omega
         go_wp2_with fail
         go_roundw
         case rel => exact ⟨q + 1, by omega, by go_num, ⟨xs, HXOi.out, HXXi.out⟩, HRWi.out, HAGi.out⟩
         case measure => simp [intOf]; omega
      ·have hqn : q = n := by omega
       obtain rfl : n = q := by omega
       have hlti : ¬ (n : Int) < (n : Int) := by omega
       obtain ⟨w6, hw6⟩ : ∃ w6 : World, w6 = wr := ⟨_, rfl⟩
       rw [<- hw6] at HAG ⊢
       have HG6 := Lib.hid (HGA.out w6 HAG.out)
       have HB6 := Lib.hid (show Below w.heap.size w w6 from HBW5.out.trans (HAG.out.below (fun i hi e => by have := HBO.out; omega) HBW5.out.size))
       have HA2 := Lib.hid (show B2 <= wA2.heap.size from HBB2.out)
       have HWO := Lib.hid (show w6.ownsRow wA2.heap.size 81 6 (.slice la2 n lc2) n (VL2.map Ver.cells).flatten from zAe (zB7 HOL2.out HB5.out) HAG.out fun b hb e => by have h1 := (HOL2.out.lt b hb).1; have h2 := HA2.out; omega)
       have HWR := Lib.hid (show ∀ k s l, sls2[k]? = some s -> L2[k]? = some l -> ∀ w', Above B2 w6 w' -> RdP w' s l from fun k s l hs hl w' ha => (HRB2w.out.kept HB5.out).rdp hs hl w' fun b h1 h2 => (ha b h1 (Jb h2 HAG.out.size)).trans (HAG.out.block b h2 fun e => by omega))
       have HRC := Lib.hid (zLy (cols := colsN a0) (rows := R) (by rw [HRE.out, rows9_BG HOK.out, <- HRE.out, <- HNR.out]; exact decide_eq_true hn0) (fun r hr v hv => by
        rw [<- HLM1.out] at hr
        obtain ⟨l, hl, rfl⟩ := Qh.1 hr
        obtain ⟨t, ht, rfl⟩ := Qh.1 hv
        have h1 := (HLL1.out l hl).1
        rw [HRE.out] at h1
        exact ⟨(row9_smallG h1 t.1 (Qk ht)).1, HRB1.out.lt l hl t ht⟩))
       have HNE := Lib.hid (show 0 < (colsN a0).length by rw [<- HM.out]; exact hm0)
       have HM6 := Lib.hid (show (colsN a0).length <= 6 by rw [<- HM.out]; exact hm6)
       have hidl : ids.length = n := by rw [HIDE.out, Qe, HVN1.out]
       have HIL := Lib.hid hidl
       have HRL := Lib.hid (show R.length = ids.length by rw [hidl, HNR.out])
       have HI1000 := Lib.hid (show ids.length <= 1000 by omega)
       have HIDS := Lib.hid (zGn HI1000.out w6 HG6.out)
       have HB2S := Lib.hid (show B2 <= w6.heap.size by have := HBO.out; have := HB5.out.size; have := HAG.out.size; omega)
       have HWG := Lib.hid (zE1 HWO.out hn0)
       clear hw6 hidl hlt HXO HXX HRW' HLW HRWW HXS HGA
       go_wp2_with fail
       refine HIDS.out.mono ?_
       rintro e w7 ⟨iv, rfl, hio, hb7⟩
       rw [HIL.out] at hio
       obtain ⟨a7, c7, hiv⟩ := zCh hio
       subst hiv
       have HIO := Lib.hid hio
       have HB7 := Lib.hid hb7
       clear hio hb7
       go_wp2_with fail
       go_loopw [122] (fun i wr => ∃ (p : Nat) (zs : List Int), p <= n ∧ i = .int .i64 (p : Int) ∧ wr.ownsRow w6.heap.size 3 1 (.slice a7 n c7) n (zs.map (Value.int .i64)) ∧ Below w6.heap.size w6 wr) (fun i _ => n - (intOf i).toNat)
       case atStart => exact ⟨0, _, Qc _, rfl, HIO.out, HB7.out⟩
       case round =>
        obtain ⟨p, zs, hp, rfl, hoz, hbz⟩ := hrel
        have hzl : zs.length = n := by have := hoz.1; simpa using this
        have HOZ := Lib.hid hoz
        have HBZ := Lib.hid hbz
        clear hoz hbz
        by_cases hlp : p < n
        ·have hlpi : (p : Int) < (n : Int) := by omega
         have hp0 : (0 : Int) <= (p : Int) := by omega
         obtain ⟨xg, xc, hxv⟩ := Joins.ownsRow_form HOZ.out (by omega)
         simp only [Value.slice.injEq] at hxv
         obtain ⟨rfl, _, rfl⟩ := hxv
         obtain ⟨z, hz⟩ : ∃ z, zs[p]? = some z := ⟨_, Qa (by omega)⟩
         have cz : wr.cell? ⟨xg, p, none⟩ = some (.int .i64 z) := (HOZ.out.cellAt p (by omega)).trans (by rw [Qd, hz]; rfl)
         have fz := HOZ.out.frozenAt p
         have HXG := Lib.hid (HOZ.out.lt xg rfl).1
         clear hz hzl
         go_wp2_with fail
         go_roundw
         case rel =>
          refine ⟨p + 1, zs.set p 99, by omega, by go_num, ?_, HBZ.out.setCell (p := ⟨xg, p, none⟩) HXG.out _⟩
          rw [List.map_set]
          exact (HOZ.out.stored p _).1
         case measure => simp [intOf]; omega
        ·obtain rfl : n = p := by omega
         clear hzl hlp
         have HBZ8 := HBZ
         obtain ⟨w8, hw8⟩ : ∃ w8 : World, w8 = wr := ⟨_, rfl⟩
         rw [<- hw8] at HBZ8 ⊢
         clear hw8 HOZ HBZ
         go_wp2_with fail
         go_loopw [131] (fun i wr => ∃ (q : Nat), q <= n ∧ i = .int .i64 (q : Int) ∧ Below w6.heap.size w6 wr) (fun i _ => n - (intOf i).toNat)
         case atStart => exact ⟨0, Qc _, rfl, HBZ8.out⟩
         case round =>
          obtain ⟨q, hq, rfl, hb⟩ := hrel
          obtain ⟨wq, rfl⟩ : ∃ wq : World, wq = wr := ⟨_, rfl⟩
          have HB := Lib.hid hb
          have HGr := Lib.hid (HG6.out.kept hb)
          obtain ⟨wg, hwg⟩ := HWG.out
          subst hwg
          by_cases hlq : q < n
          ·have hlti : (q : Int) < (n : Int) := by omega
           have hq0 : (0 : Int) <= (q : Int) := by omega
           have HVER := Lib.hid (zL4 HRC.out HNE.out HM6.out HRL.out HI1000.out (q : Int) wq HGr.out)
           clear hb
           go_wp2_with fail
           refine HVER.out.mono ?_
           rintro e w9 ⟨⟨k, r, id, sp, v, l, hk, hr, hidx, hsp, rfl, hl, how⟩ | ⟨hno, _⟩, hb9⟩
           case inr =>
            exfalso
            unfold rowAt at hno
            rw [if_pos (by omega), Int.toNat_natCast, Jc] at hno
            have := HNR.out
            omega
           obtain rfl : q = k := by omega
           obtain ⟨x, hx⟩ : ∃ x, VL1[q]? = some x := ⟨_, Qa (by rw [HVN1.out]; exact hlq)⟩
           obtain ⟨hxi, hxs⟩ := HIDL.out q x hx
           rw [HIDE.out, Qd, hx] at hidx
           rw [HSPE.out, Qd, hx] at hsp
           simp only [Ql, Option.some.injEq] at hidx hsp
           rw [hxi] at hidx
           rw [hxs] at hsp
           subst hidx hsp
           have hlm : l.length = m := by
            have h1 := Qf hr
            rw [HRE.out] at h1
            have h2 := row9_lenG h1
            rw [<- hl, Qe] at h2
            rw [h2, HM.out]
           have hrow := how.row
           rw [hlm] at hrow
           obtain ⟨yg, yc, hyv⟩ := Joins.ownsRow_form hrow hm0
           subst hyv
           obtain ⟨s2, hs2⟩ : ∃ s, sls2[q]? = some s := ⟨_, Qa (by rw [HRB2.out.len, HLN2.out]; exact hlq)⟩
           obtain ⟨l2, hl2⟩ : ∃ l, L2[q]? = some l := ⟨_, Qa (by rw [HLN2.out]; exact hlq)⟩
           have hl2m := (HLL2.out l2 (Qf hl2)).2
           obtain ⟨sa2, sc2, hsv⟩ := zB2 (HRB2.out.row q s2 l2 hs2 hl2)
           rw [hl2m] at hsv
           subst hsv
           have hlr : l.map Prod.fst = l2.map Prod.fst := by
            have h := congrArg (fun x => x[q]?) HLM2.out
            simp only [Qd] at h
            rw [hl2, hr] at h
            rw [hl]
            simpa using h.symm
           obtain ⟨w10, hw10⟩ : ∃ w10 : World, w10 = w9.alloc (.cells #[.int .i64 ((q : Int) + 1), .slice (some ⟨yg, 0, none⟩) m yc, .int .i64 0, .int .i64 (q : Int), .int .i64 0, .int .i64 0] 81) := ⟨_, rfl⟩
           obtain ⟨VB, hVB⟩ : ∃ VB, VB = w9.heap.size := ⟨_, rfl⟩
           have HVB := Lib.hid (show w10.heap[VB]? = some (.cells #[.int .i64 ((q : Int) + 1), .slice (some ⟨yg, 0, none⟩) m yc, .int .i64 0, .int .i64 (q : Int), .int .i64 0, .int .i64 0] 81 (0, 0)) by rw [hw10, hVB]; exact Je _ _)
           have hb10 : Below wq.heap.size wq w10 := by rw [hw10]; exact zAl hb9 _
           have hb610 := zAa HB.out hb10
           have HB10 := Lib.hid hb610
           have HYV := Lib.hid (show wq.heap.size <= yg ∧ yg < VB from by rw [hVB]; exact how.row.lt yg rfl)
           have HOW := Lib.hid (show OwnW wq.heap.size w10 (.slice (some ⟨yg, 0, none⟩) m yc) l from how.above (by rw [hw10]; exact zFm (zAd w9 _)) (Qi _))
           have HWX := Lib.hid (show (VL2)[q]? = some ⟨(q : Int) + 1, .slice sa2 m sc2, l2, 0, (q : Int), 0, 0⟩ by rw [HVL2.out]; exact verL_at hs2 hl2)
           have HWK := Lib.hid (show ∀ w', Below w6.heap.size w6 w' -> ∀ j u, j < 6 -> ([.int .i64 ((q : Int) + 1), .slice sa2 m sc2, .int .i64 0, .int .i64 (q : Int), .int .i64 0, .int .i64 0] : List Value)[j]? = some u -> w'.cell? ⟨wg, q * 6 + j, none⟩ = some u from fun w' h j u hj hu => ((zB7 HWO.out h).cellAt (q * 6 + j) (by omega)).trans (verL_flat HWX.out hu))
           have HSV := Lib.hid (show ∀ w', Below w10.heap.size w10 w' -> Calls Tryz.prog 38 #[.agg #[.int .i64 ((q : Int) + 1), .slice (some ⟨yg, 0, none⟩) m yc, .int .i64 0, .int .i64 (q : Int), .int .i64 0, .int .i64 0], .agg #[.int .i64 ((q : Int) + 1), .slice sa2 m sc2, .int .i64 0, .int .i64 (q : Int), .int .i64 0, .int .i64 0]] w' fun e w'' => e = .returned (.bool true) ∧ Below w'.heap.size w' w'' from fun w' h => by
            refine sver_any _ _ _ _ _ _ _ l l2 w' (HOW.out.rdpG.kept h) (HWR.out q _ l2 hs2 hl2 w' ?_) hlr (by rw [hlm]; omega)
            exact (zFm (zAa hb610 h)).mono (Qc _))
           have b0 : w10.cell? ⟨VB, 0, none⟩ = some (.int .i64 ((q : Int) + 1)) := by rw [Jd w10 VB 0 _ _ _ HVB.out]; rfl
           have b1 : w10.cell? ⟨VB, 1, none⟩ = some (.slice (some ⟨yg, 0, none⟩) m yc) := by rw [Jd w10 VB 1 _ _ _ HVB.out]; rfl
           have b2 : w10.cell? ⟨VB, 2, none⟩ = some (.int .i64 0) := by rw [Jd w10 VB 2 _ _ _ HVB.out]; rfl
           have b3 : w10.cell? ⟨VB, 3, none⟩ = some (.int .i64 (q : Int)) := by rw [Jd w10 VB 3 _ _ _ HVB.out]; rfl
           have b4 : w10.cell? ⟨VB, 4, none⟩ = some (.int .i64 0) := by rw [Jd w10 VB 4 _ _ _ HVB.out]; rfl
           have b5 : w10.cell? ⟨VB, 5, none⟩ = some (.int .i64 0) := by rw [Jd w10 VB 5 _ _ _ HVB.out]; rfl
           have k0 : w10.cell? ⟨wg, q * 6, none⟩ = some (.int .i64 ((q : Int) + 1)) := HWK.out w10 hb610 0 _ (by decide) rfl
           have k1 : w10.cell? ⟨wg, q * 6 + 1, none⟩ = some (.slice sa2 m sc2) := HWK.out w10 hb610 1 _ (by decide) rfl
           have k2 : w10.cell? ⟨wg, q * 6 + 2, none⟩ = some (.int .i64 0) := HWK.out w10 hb610 2 _ (by decide) rfl
           have k3 : w10.cell? ⟨wg, q * 6 + 3, none⟩ = some (.int .i64 (q : Int)) := HWK.out w10 hb610 3 _ (by decide) rfl
           have k4 : w10.cell? ⟨wg, q * 6 + 4, none⟩ = some (.int .i64 0) := HWK.out w10 hb610 4 _ (by decide) rfl
           have k5 : w10.cell? ⟨wg, q * 6 + 5, none⟩ = some (.int .i64 0) := HWK.out w10 hb610 5 _ (by decide) rfl
           have HLMl := Lib.hid hlm
           clear hb9 hb10 hb610 how hrow hlm hl hr hk hlr hs2 hl2 hl2m hx hxi hxs hq
           go_upto_region 36 with (fail)
           rw [<- hw10, <- hVB]
           clear hw10 hVB
           have hS := Qg w10.heap.size w10
           set_option maxRecDepth 1000000 in
           go_region_held3 (fun w' => w'.cell? ⟨VB, 0, none⟩ = some (.int .i64 ((q : Int) + 1)) ∧ w'.cell? ⟨VB, 1, none⟩ = some (.slice (some ⟨yg, 0, none⟩) m yc) ∧ w'.cell? ⟨VB, 2, none⟩ = some (.int .i64 0) ∧ w'.cell? ⟨VB, 3, none⟩ = some (.int .i64 (q : Int)) ∧ w'.cell? ⟨VB, 4, none⟩ = some (.int .i64 0) ∧ w'.cell? ⟨VB, 5, none⟩ = some (.int .i64 0) ∧
             w'.cell? ⟨wg, q * 6, none⟩ = some (.int .i64 ((q : Int) + 1)) ∧ w'.cell? ⟨wg, q * 6 + 1, none⟩ = some (.slice sa2 m sc2) ∧ w'.cell? ⟨wg, q * 6 + 2, none⟩ = some (.int .i64 0) ∧ w'.cell? ⟨wg, q * 6 + 3, none⟩ = some (.int .i64 (q : Int)) ∧ w'.cell? ⟨wg, q * 6 + 4, none⟩ = some (.int .i64 0) ∧ w'.cell? ⟨wg, q * 6 + 5, none⟩ = some (.int .i64 0) ∧ Below w10.heap.size w10 w')
            (first | assumption | exact ⟨b0, b1, b2, b3, b4, b5, k0, k1, k2, k3, k4, k5, zAm _ _⟩ | exact HKX.out)
            (first | (go_at_call 38; refine (HSV.out _ (zAm _ _)).mono ?_; rintro e w11 ⟨rfl, hb11⟩; have HB11 := Lib.hid (show Below w10.heap.size w10 w11 from zAa (zAm _ _) hb11); have HKX := Lib.hid (And.intro ((HB11.out.cell (Qb _ _ b0)).trans b0) (And.intro ((HB11.out.cell (Qb _ _ b1)).trans b1) (And.intro ((HB11.out.cell (Qb _ _ b2)).trans b2) (And.intro ((HB11.out.cell (Qb _ _ b3)).trans b3) (And.intro ((HB11.out.cell (Qb _ _ b4)).trans b4) (And.intro ((HB11.out.cell (Qb _ _ b5)).trans b5) (And.intro ((HB11.out.cell (Qb _ _ k0)).trans k0) (And.intro ((HB11.out.cell (Qb _ _ k1)).trans k1) (And.intro ((HB11.out.cell (Qb _ _ k2)).trans k2) (And.intro ((HB11.out.cell (Qb _ _ k3)).trans k3) (And.intro ((HB11.out.cell (Qb _ _ k4)).trans k4) (And.intro ((HB11.out.cell (Qb _ _ k5)).trans k5) HB11.out)))))))))))); clear hb11))
           have c1 : w11.cell? ⟨VB, 1, none⟩ = some (.slice (some ⟨yg, 0, none⟩) m yc) := HKX.out.2.1
           clear b0 b1 b2 b3 b4 b5 k0 k1 k2 k3 k4 k5 hS
           have HV11 := Lib.hid ((HB11.out.block VB (Qr.1 HVB.out).1).trans HVB.out)
           have HO11 := Lib.hid (HOW.out.above (zFm HB11.out) (Qi _))
           have HB611 := Lib.hid (zAa HB10.out HB11.out)
           go_wp2_with fail
           go_loopw [154] (fun i wq' => ∃ (k : Nat) (l' : List (Vc × Value)), k <= m ∧ i = .int .i64 (k : Int) ∧ l'.length = m ∧ OwnW wq.heap.size wq' (.slice (some ⟨yg, 0, none⟩) m yc) l' ∧ wq'.heap[VB]? = some (.cells #[.int .i64 ((q : Int) + 1), .slice (some ⟨yg, 0, none⟩) m yc, .int .i64 0, .int .i64 (q : Int), .int .i64 0, .int .i64 0] 81 (0, 0)) ∧ Below w6.heap.size w6 wq') (fun i _ => m - (intOf i).toNat)
           case atStart => exact ⟨0, l, Qc _, rfl, HLMl.out, HO11.out, HV11.out, HB611.out⟩
           case round =>
            obtain ⟨k, l3, hk, rfl, hl3, how, hvb, hb⟩ := hrel
            have HL3 := Lib.hid hl3
            have HOWk := Lib.hid how
            have HVBk := Lib.hid hvb
            have HBK := Lib.hid hb
            have c1 : wr.cell? ⟨VB, 1, none⟩ = some (.slice (some ⟨yg, 0, none⟩) m yc) := by rw [Jd wr VB 1 _ _ _ hvb]; rfl
            clear hl3 how hvb hb
            by_cases hlk : k < m
            ·have hlki : (k : Int) < (m : Int) := by omega
             have hk0 : (0 : Int) <= (k : Int) := by omega
             obtain ⟨t, ht⟩ : ∃ t, l3[k]? = some t := ⟨_, Qa (by rw [HL3.out]; exact hlk)⟩
             have c2 := (HOWk.out.at_ HL3.out ht).2.2.1
             have f2 : wr.frozen? ⟨yg, k * 4 + 2, none⟩ = false := by
              have h := HOWk.out.row
              rw [HL3.out] at h
              exact h.frozenAt _
             have HT := Lib.hid ht
             have hyv := HYV.out
             have hne : yg ≠ VB := by omega
             have HNE2 := Lib.hid hne
             have HYW := Lib.hid (show w6.heap.size <= yg by have := HB.out.size; omega)
             clear ht hyv hne
             go_wp2_with fail
             go_roundw
             case rel =>
              exact ⟨k + 1, _, by omega, by go_num, by rw [Qq]; exact HL3.out, HOWk.out.int HL3.out HT.out _, (heap_setCell_other wr ⟨yg, k * 4 + 2, none⟩ VB _ (Ne.symm HNE2.out)).trans HVBk.out, HBK.out.setCell (p := ⟨yg, k * 4 + 2, none⟩) HYW.out _⟩
             case measure => simp [intOf]; omega
            ·have hkm : k = m := by omega
             have hlki : ¬ (k : Int) < (m : Int) := by omega
             clear c1
             go_wp2_with fail
             go_roundw
             case rel => exact ⟨q + 1, by omega, by go_num, HBK.out⟩
             case measure => simp [intOf]; omega
          ·have hlti : ¬ (q : Int) < (n : Int) := by omega
           have HVER := Lib.hid (zL4 HRC.out HNE.out HM6.out HRL.out HI1000.out 0 wq HGr.out)
           clear hb hlq
           go_wp2_with fail
           refine HVER.out.mono ?_
           rintro e w9 ⟨⟨k, r, id, sp, v, l, hk, hr, hidx, hsp, rfl, hl, how⟩ | ⟨hno, _⟩, hb9⟩
           case inr =>
            exfalso
            unfold rowAt at hno
            rw [if_pos (by omega), Jc] at hno
            have := HNR.out
            have h0 : (0 : Int).toNat = 0 := rfl
            rw [h0] at hno
            omega
           obtain rfl : k = 0 := by omega
           obtain ⟨x, hx⟩ : ∃ x, VL1[0]? = some x := ⟨_, Qa (by rw [HVN1.out]; exact hn0)⟩
           obtain ⟨hxi, hxs⟩ := HIDL.out 0 x hx
           rw [HIDE.out, Qd, hx] at hidx
           rw [HSPE.out, Qd, hx] at hsp
           simp only [Ql, Option.some.injEq] at hidx hsp
           obtain rfl : id = 1 := by rw [<- hidx, hxi]; rfl
           obtain rfl : sp = (0, 0, 0, 0) := by rw [<- hsp, hxs]; rfl
           have hlm : l.length = m := by
            have h1 := Qf hr
            rw [HRE.out] at h1
            have h2 := row9_lenG h1
            rw [<- hl, Qe] at h2
            rw [h2, HM.out]
           have hrow := how.row
           rw [hlm] at hrow
           obtain ⟨yg, yc, hyv⟩ := Joins.ownsRow_form hrow hm0
           subst hyv
           obtain ⟨s2, hs2⟩ : ∃ s, sls2[0]? = some s := ⟨_, Qa (by rw [HRB2.out.len, HLN2.out]; exact hn0)⟩
           obtain ⟨l2, hl2⟩ : ∃ l, L2[0]? = some l := ⟨_, Qa (by rw [HLN2.out]; exact hn0)⟩
           have hl2m := (HLL2.out l2 (Qf hl2)).2
           obtain ⟨sa2, sc2, hsv⟩ := zB2 (HRB2.out.row 0 s2 l2 hs2 hl2)
           rw [hl2m] at hsv
           subst hsv
           have hlr : l.map Prod.fst = l2.map Prod.fst := by
            have h := congrArg (fun x => x[0]?) HLM2.out
            simp only [Qd] at h
            rw [hl2, hr] at h
            rw [hl]
            simpa using h.symm
           obtain ⟨w10, hw10⟩ : ∃ w10 : World, w10 = w9.alloc (.cells #[.int .i64 1, .slice (some ⟨yg, 0, none⟩) m yc, .int .i64 0, .int .i64 0, .int .i64 0, .int .i64 0] 81) := ⟨_, rfl⟩
           obtain ⟨VB, hVB⟩ : ∃ VB, VB = w9.heap.size := ⟨_, rfl⟩
           have HVB := Lib.hid (show w10.heap[VB]? = some (.cells #[.int .i64 1, .slice (some ⟨yg, 0, none⟩) m yc, .int .i64 0, .int .i64 0, .int .i64 0, .int .i64 0] 81 (0, 0)) by rw [hw10, hVB]; exact Je _ _)
           have hb10 : Below wq.heap.size wq w10 := by rw [hw10]; exact zAl hb9 _
           have hb610 := zAa HB.out hb10
           have HB10 := Lib.hid hb610
           have HOW := Lib.hid (show OwnW wq.heap.size w10 (.slice (some ⟨yg, 0, none⟩) m yc) l from how.above (by rw [hw10]; exact zFm (zAd w9 _)) (Qi _))
           have HWX := Lib.hid (show (VL2)[0]? = some ⟨((0 : Nat) : Int) + 1, .slice sa2 m sc2, l2, 0, ((0 : Nat) : Int), 0, 0⟩ by rw [HVL2.out]; exact verL_at hs2 hl2)
           have HWK := Lib.hid (show ∀ w', Below w6.heap.size w6 w' -> ∀ j u, j < 6 -> ([.int .i64 1, .slice sa2 m sc2, .int .i64 0, .int .i64 0, .int .i64 0, .int .i64 0] : List Value)[j]? = some u -> w'.cell? ⟨wg, j, none⟩ = some u from fun w' h j u hj hu => by
            have h1 := ((zB7 HWO.out h).cellAt (0 * 6 + j) (by omega)).trans (verL_flat HWX.out hu)
            rw [Nat.zero_mul, Nat.zero_add] at h1
            exact h1)
           have HSV := Lib.hid (show ∀ w', Below w10.heap.size w10 w' -> Calls Tryz.prog 38 #[.agg #[.int .i64 1, .slice (some ⟨yg, 0, none⟩) m yc, .int .i64 0, .int .i64 0, .int .i64 0, .int .i64 0], .agg #[.int .i64 1, .slice sa2 m sc2, .int .i64 0, .int .i64 0, .int .i64 0, .int .i64 0]] w' fun e w'' => e = .returned (.bool true) ∧ Below w'.heap.size w' w'' from fun w' h => by
            refine sver_any _ _ _ _ _ _ _ l l2 w' (HOW.out.rdpG.kept h) (HWR.out 0 _ l2 hs2 hl2 w' ?_) hlr (by rw [hlm]; omega)
            exact (zFm (zAa hb610 h)).mono (Qc _))
           have hup : ids.Pairwise (· < ·) := by
            rw [List.pairwise_iff_getElem]
            intro i j hi hj hij
            have e1 : ∀ (k : Nat) (v : Int), ids[k]? = some v -> v = (k : Int) + 1 := fun k v h1 => by
             rw [HIDE.out, Qd] at h1
             cases hx : VL1[k]? with
             | none => rw [hx] at h1; cases h1
             | some y =>
              rw [hx] at h1
              simp only [Ql, Option.some.injEq] at h1
              rw [<- h1]
              exact (HIDL.out k y hx).1
            rw [e1 i _ (Qa hi), e1 j _ (Qa hj)]
            omega
           have hfi : findT ids 1 = 0 := by
            have hmem : ∀ a ∈ ids, ¬ a < 1 := fun a ha => by
             rw [HIDE.out] at ha
             obtain ⟨y, hy, rfl⟩ := Qh.1 ha
             obtain ⟨k, hk⟩ := Qm hy
             have := (HIDL.out k y hk).1
             omega
            have h0 : ids[0]? = some 1 := by rw [HIDE.out, Qd, hx, Ql, hxi]; rfl
            unfold findT
            rw [zJ5 1 ids hmem]
            simp [h0]
           have HFI := Lib.hid (show ∀ w', Below w6.heap.size w6 w' -> Calls Tryz.prog 39 #[.pointer (some ⟨G, 0, none⟩), .int .i64 1] w' fun e w'' => e = .returned (.int .i64 0) ∧ w'' = w' from fun w' h => by
            have h1 := zJ6 HI1000.out hup 1 w' (HG6.out.kept h)
            rw [hfi] at h1
            exact h1)
           have b0 : w10.cell? ⟨VB, 0, none⟩ = some (.int .i64 1) := by rw [Jd w10 VB 0 _ _ _ HVB.out]; rfl
           have b1 : w10.cell? ⟨VB, 1, none⟩ = some (.slice (some ⟨yg, 0, none⟩) m yc) := by rw [Jd w10 VB 1 _ _ _ HVB.out]; rfl
           have b2 : w10.cell? ⟨VB, 2, none⟩ = some (.int .i64 0) := by rw [Jd w10 VB 2 _ _ _ HVB.out]; rfl
           have b3 : w10.cell? ⟨VB, 3, none⟩ = some (.int .i64 0) := by rw [Jd w10 VB 3 _ _ _ HVB.out]; rfl
           have b4 : w10.cell? ⟨VB, 4, none⟩ = some (.int .i64 0) := by rw [Jd w10 VB 4 _ _ _ HVB.out]; rfl
           have b5 : w10.cell? ⟨VB, 5, none⟩ = some (.int .i64 0) := by rw [Jd w10 VB 5 _ _ _ HVB.out]; rfl
           have k0 : w10.cell? ⟨wg, 0, none⟩ = some (.int .i64 1) := HWK.out w10 hb610 0 _ (by decide) rfl
           have k1 : w10.cell? ⟨wg, 1, none⟩ = some (.slice sa2 m sc2) := HWK.out w10 hb610 1 _ (by decide) rfl
           have k2 : w10.cell? ⟨wg, 2, none⟩ = some (.int .i64 0) := HWK.out w10 hb610 2 _ (by decide) rfl
           have k3 : w10.cell? ⟨wg, 3, none⟩ = some (.int .i64 0) := HWK.out w10 hb610 3 _ (by decide) rfl
           have k4 : w10.cell? ⟨wg, 4, none⟩ = some (.int .i64 0) := HWK.out w10 hb610 4 _ (by decide) rfl
           have k5 : w10.cell? ⟨wg, 5, none⟩ = some (.int .i64 0) := HWK.out w10 hb610 5 _ (by decide) rfl
           have HKP := Lib.hid (show ∀ w', Below w10.heap.size w10 w' -> (w'.cell? ⟨VB, 0, none⟩ = some (.int .i64 1) ∧ w'.cell? ⟨VB, 1, none⟩ = some (.slice (some ⟨yg, 0, none⟩) m yc) ∧ w'.cell? ⟨VB, 2, none⟩ = some (.int .i64 0) ∧ w'.cell? ⟨VB, 3, none⟩ = some (.int .i64 0) ∧ w'.cell? ⟨VB, 4, none⟩ = some (.int .i64 0) ∧ w'.cell? ⟨VB, 5, none⟩ = some (.int .i64 0) ∧
             w'.cell? ⟨wg, 0, none⟩ = some (.int .i64 1) ∧ w'.cell? ⟨wg, 1, none⟩ = some (.slice sa2 m sc2) ∧ w'.cell? ⟨wg, 2, none⟩ = some (.int .i64 0) ∧ w'.cell? ⟨wg, 3, none⟩ = some (.int .i64 0) ∧ w'.cell? ⟨wg, 4, none⟩ = some (.int .i64 0) ∧ w'.cell? ⟨wg, 5, none⟩ = some (.int .i64 0) ∧ Below w10.heap.size w10 w') from fun w' h =>
            ⟨(h.cell (Qb _ _ b0)).trans b0, (h.cell (Qb _ _ b1)).trans b1, (h.cell (Qb _ _ b2)).trans b2, (h.cell (Qb _ _ b3)).trans b3, (h.cell (Qb _ _ b4)).trans b4, (h.cell (Qb _ _ b5)).trans b5, (h.cell (Qb _ _ k0)).trans k0, (h.cell (Qb _ _ k1)).trans k1, (h.cell (Qb _ _ k2)).trans k2, (h.cell (Qb _ _ k3)).trans k3, (h.cell (Qb _ _ k4)).trans k4, (h.cell (Qb _ _ k5)).trans k5, h⟩)
           have hn0i : (0 : Int) < (n : Int) := by omega
           clear hb9 hb10 hb610 how hrow hlm hl hr hk hlr hs2 hl2 hl2m hx hxi hxs hq hup hfi hidx hsp
           go_upto_region 45 with (fail)
           rw [<- hw10, <- hVB]
           clear hw10 hVB
           have hS := Qg w10.heap.size w10
           set_option maxRecDepth 1000000 in
           go_region_held3 (fun w' => w'.cell? ⟨VB, 0, none⟩ = some (.int .i64 1) ∧ w'.cell? ⟨VB, 1, none⟩ = some (.slice (some ⟨yg, 0, none⟩) m yc) ∧ w'.cell? ⟨VB, 2, none⟩ = some (.int .i64 0) ∧ w'.cell? ⟨VB, 3, none⟩ = some (.int .i64 0) ∧ w'.cell? ⟨VB, 4, none⟩ = some (.int .i64 0) ∧ w'.cell? ⟨VB, 5, none⟩ = some (.int .i64 0) ∧
             w'.cell? ⟨wg, 0, none⟩ = some (.int .i64 1) ∧ w'.cell? ⟨wg, 1, none⟩ = some (.slice sa2 m sc2) ∧ w'.cell? ⟨wg, 2, none⟩ = some (.int .i64 0) ∧ w'.cell? ⟨wg, 3, none⟩ = some (.int .i64 0) ∧ w'.cell? ⟨wg, 4, none⟩ = some (.int .i64 0) ∧ w'.cell? ⟨wg, 5, none⟩ = some (.int .i64 0) ∧ Below w10.heap.size w10 w')
            (first | assumption | exact HKP.out _ (zAm _ _) | exact HKP.out _ (by assumption))
            (first
             | (go_at_call 38; refine (HSV.out _ (zAm _ _)).mono ?_; rintro e w11 ⟨rfl, hb11⟩; have hS1 : Below w10.heap.size w10 w11 := zAa (zAm _ _) hb11; clear hb11)
             | (go_at_call 39; refine (HFI.out _ (zAa HB10.out (by assumption))).mono ?_; rintro e w12 ⟨rfl, rfl⟩)
             | (go_at_call 34; refine (HAW.out _).mono ?_; rintro e w13 ⟨rfl, hb13⟩; have hS3 : Below w10.heap.size w10 w13 := zAa (by assumption) hb13; have HS3 := Lib.hid hS3; clear hb13))
           go_wp2_with fail
           go_ret
           exact ⟨rfl, HB6.out.trans ((zAa HB10.out HS3.out).mono HB6.out.size)⟩
end Go.Proofs.YtmpgnjhgegbdkaaGreat
