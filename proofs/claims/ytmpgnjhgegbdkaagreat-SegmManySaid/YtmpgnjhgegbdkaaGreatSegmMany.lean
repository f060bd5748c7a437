import Derived.Test.YtmpgnjhgegbdkaaGreatSgaw
import Derived.Test.YtmpgnjhgegbdkaaGreatSgn
set_option linter.unusedVariables false
set_option linter.unusedSimpArgs false
open Go.Lib (hid)
namespace Go.Proofs.YtmpgnjhgegbdkaaGreat
open Go.RowKit
def rowsM (cols : List Co) (q : Nat) : List (List Vc) := (List.range q).map fun i => (rowOf cols (i : Nat)).set 0 ⟨false, 1, (i : Nat), []⟩
theorem zQx (cols : List Co) (q : Nat) : rowsM cols (q + 1) = rowsM cols q ++ [(rowOf cols (q : Nat)).set 0 ⟨false, 1, (q : Nat), []⟩] := by
 unfold rowsM
 rw [List.range_succ, List.map_append]
 rfl
theorem zGl (cols : List Co) (q : Nat) : (rowsM cols q).length = q := by unfold rowsM; rw [List.length_map, List.length_range]
theorem zUt (cols : List Co) (q i : Nat) (h : i < q) : (rowsM cols q)[i]? = some ((rowOf cols (i : Nat)).set 0 ⟨false, 1, (i : Nat), []⟩) := by
 unfold rowsM
 rw [List.getElem?_map, List.getElem?_range h]
 rfl
theorem zHs {cols : List Co} (h : ColsOk cols) (n : Int) : ∃ r, rowOf cols n = ⟨false, 1, n % 16, []⟩ :: r ∧ ∃ c0, cols[0]? = some c0 ∧ c0.k = 1 ∧ c0.u = false := by
 have h0 : cols[0]? = some (cols[0]'h.ne) := List.getElem?_eq_getElem _
 have h1 := zJs cols n 0
 rw [h0] at h1
 cases hr : rowOf cols n with
 | nil => rw [hr] at h1; cases h1
 | cons t r =>
  rw [hr] at h1
  simp only [List.getElem?_cons_zero, Option.map_some, Option.some.injEq] at h1
  refine ⟨r, ?_, _, h0, h.hd _ h0⟩
  rw [h1]
  rfl
theorem zS1 {cols : List Co} (h : ColsOk cols) (n x : Int) : fitsR cols ((rowOf cols n).set 0 ⟨false, 1, x, []⟩) = true := by
 obtain ⟨r, hr, c0, hc0, hk, hu⟩ := zHs h n
 rw [zIy cols _ 0 c0 _ (zJl h n) hc0]
 unfold fitsT
 simp [hk]
theorem zUu {cols : List Co} (h : ColsOk cols) (n x : Int) : fitsR cols ((rowOf cols n).set 0 ⟨true, 1, x, []⟩) = false := by
 obtain ⟨r, hr, c0, hc0, hk, hu⟩ := zHs h n
 rw [zIy cols _ 0 c0 _ (zJl h n) hc0]
 unfold fitsT
 simp [hk, hu]
theorem zVw {cols : List Co} (h : ColsOk cols) (q : Nat) : rowsB cols (rowsM cols q) = (decide (1 ≤ q) && decide (q ≤ 64)) := by
 unfold rowsB
 rw [zGl]
 have : (rowsM cols q).all (fitsR cols) = true := by
  rw [List.all_eq_true]
  intro r hr
  unfold rowsM at hr
  obtain ⟨i, _, rfl⟩ := List.mem_map.1 hr
  exact zS1 h _ _
 rw [this, Bool.and_true]
 rfl
theorem zS2 {cols : List Co} (h : ColsOk cols) (q k : Nat) (hk : k < q) : rowsB cols ((rowsM cols q).set k ((rowOf cols (k : Nat)).set 0 ⟨true, 1, (k : Nat), []⟩)) = false := by
 unfold rowsB
 have : ((rowsM cols q).set k ((rowOf cols (k : Nat)).set 0 ⟨true, 1, (k : Nat), []⟩)).all (fitsR cols) = false := by
  rw [List.all_eq_false]
  exact ⟨_, List.mem_set (by rw [zGl]; exact hk) _, by rw [zUu h]; decide⟩
 rw [this, Bool.and_false]
theorem zHt {cols : List Co} (n x : Int) (u : Bool) (hx : I64 x) : ∀ v ∈ (rowOf cols n).set 0 ⟨u, 1, x, []⟩, I64 v.n ∧ v.b.length ≤ 8 := fun v hv => by
 rcases List.mem_or_eq_of_mem_set hv with h | rfl
 ·exact zO0 n v h
 ·exact ⟨hx, by simp⟩
theorem zS3 {t : Vc × Value} {r : List (Vc × Value)} (x : Bool) : (((t :: r).map cellsV).flatten).set 0 (.bool x) = (((⟨x, t.1.k, t.1.n, t.1.b⟩, t.2) :: r).map cellsV).flatten := by
 obtain ⟨⟨u, k, n, b⟩, s⟩ := t
 rfl
set_option maxRecDepth 100000 in
set_option maxHeartbeats 8000000 in
theorem walk_SegmMany (a0 a1 a2 : Int) (w : World) (w0 : (Lit.int .i64 a0).wf = true) (w1 : (Lit.int .i64 a1).wf = true) (w2 : (Lit.int .i64 a2).wf = true) :
  Calls Tryz.prog 3 #[.int .i64 a0, .int .i64 a1, .int .i64 a2] w fun e w' => e = .returned (.bool true) ∧ Below w.heap.size w w' := by
 clear w0 w1 w2
 have HS := hid (zSc a0 w)
 have HSC := hid (zPf a0)
 have HOK := hid (zJ6 a0)
 have HAW := hid zOy
 obtain ⟨c, hcn, hc127⟩ : ∃ c : Nat, bits .and .i64 a1 127 = (c : Int) ∧ c ≤ 127 := ⟨(a1 % 128).toNat, by rw [zEj a1 7 (by decide) 127 rfl]; omega, by omega⟩
 have b3 : bits .and .i64 a2 3 = a2 % 4 := zEj a2 2 (by decide) 3 rfl
 obtain ⟨d, hd, hd255⟩ : ∃ d : Nat, bits .and .i64 (a2 / 2 ^ 2) 255 = (d : Int) ∧ d ≤ 255 := ⟨((a2 / 2 ^ 2) % 256).toNat, by rw [zEj (a2 / 2 ^ 2) 8 (by decide) 255 rfl]; omega, by omega⟩
 have hd4 : bits .and .i64 (a2 / 4) 255 = (d : Int) := hd
 go_enter Tryz.func3, Tryz.ntmps3
 go_wp2_with fail
 refine HS.out.mono ?_
 rintro e W1 ⟨so, sc, rfl, hs1, hb1⟩
 obtain ⟨sn, hsn⟩ : ∃ sn, sn = (colsN a0).length := ⟨_, rfl⟩
 have hc1 := zV7 hs1
 rw [← hsn] at hs1 hc1 ⊢
 have hs0 : 0 < sn := by rw [hsn]; exact HOK.out.ne
 have hs0i : (0 : Int) < (sn : Int) := by omega
 have HSN := hid hsn
 clear hsn
 go_upto_region 2 with (fail)
 obtain ⟨W2, hW2⟩ : ∃ W2 : World, W2 = W1.alloc (.cells #[.slice so sn sc] 24) := ⟨_, rfl⟩
 obtain ⟨SB, hSB⟩ : ∃ SB, SB = W1.heap.size := ⟨_, rfl⟩
 rw [← hW2, ← hSB]
 have HSB := hid (show W2.heap[SB]? = some (.cells #[.slice so sn sc] 24 (0, 0)) by rw [hW2, hSB]; exact heap_alloc_new W1 _)
 have hb12 : Below W1.heap.size W1 W2 := by rw [hW2]; exact zAd W1 _
 have HB2 := hid (zAa hb1 hb12)
 have HC2 := hid (RdC.kept hc1 hb12)
 have HSBL := hid (show SB < W2.heap.size from (Array.getElem?_eq_some_iff.1 HSB.out).1)
 clear hs1 hc1 hb1 hb12 hW2 hSB
 go_wp2_with fail
 go_loopw [8, 9] (fun o i wr => ∃ (q : Nat) (sls : List Value) (L : List (List (Vc × Value))) (ao : Option Addr) (cap : Nat), q ≤ c ∧ i = .int .i64 (q : Int) ∧ o = .slice ao q cap ∧ L.length = q ∧ L.map (fun l => l.map Prod.fst) = rowsM (colsN a0) q ∧ RowsB W2.heap.size wr (.slice ao q cap) sls L ∧ Below W2.heap.size W2 wr) (fun _ i _ => c - (intOf i).toNat)
 case atStart => exact ⟨0, [], [], none, 0, Nat.zero_le _, rfl, rfl, rfl, rfl, zSz _ _, Below.refl _ _⟩
 case round =>
  obtain ⟨q, sls, L, ao, cap, hq, rfl, rfl, hll, hlm, hrb, hb⟩ := hrel
  have HLL := hid hll
  have HLM := hid hlm
  have HRB := hid hrb
  have HB := hid hb
  have hsb := (hb.block SB HSBL.out).trans HSB.out
  have cs0 : wr.cell? ⟨SB, 0, none⟩ = some (.slice so sn sc) := by rw [cell_of_row wr SB 0 _ _ _ hsb]; rfl
  clear hll hlm hrb hb hsb
  by_cases hlt : q < c
  ·have hlti : (q : Int) < (c : Int) := by omega
   have HROW := hid (zVl (.slice so sn sc) (colsN a0) HOK.out.ne (q : Int) wr (RdC.kept HC2.out HB.out) HOK.out.le)
   rw [← HSN.out] at HROW
   go_wp2_with fail
   refine HROW.out.mono ?_
   rintro e w2 ⟨rg, rc, rl, rfl, hrl, hrown, hrv, hb2⟩
   have hrg : wr.heap.size ≤ rg := (hrown.lt rg rfl).1
   have hrc2 : ∃ u, w2.cell? ⟨rg, 2, none⟩ = some u := ⟨_, (hrown.cellAt 2 (by omega)).trans (List.getElem?_eq_getElem (by have := hrown.1; omega))⟩
   obtain ⟨ru, hrc3⟩ := hrc2
   have hrf := hrown.frozenAt 2
   have HRL := hid hrl
   have HRO := hid hrown
   have HRV := hid hrv
   have HB2r := hid hb2
   clear hrl hrown hrv hb2 cs0
   go_upto_region 9 with (fail)
   obtain ⟨w3, hw3⟩ : ∃ w3, w3 = w2.setCell ⟨rg, 2, none⟩ (.int .i64 (q : Int)) := ⟨_, rfl⟩
   rw [← hw3]
   obtain ⟨r0, hr0, _⟩ := zHs HOK.out (q : Int)
   obtain ⟨t0, rr, hl0c, ht0, hrr⟩ : ∃ t0 rr, rl = t0 :: rr ∧ t0.1 = ⟨false, 1, (q : Int) % 16, []⟩ ∧ rr.map Prod.fst = r0 := by
    have h := HRL.out
    rw [hr0] at h
    match rl, h with
    | t :: r, h => exact ⟨t, r, rfl, by simpa using (List.cons.inj h).1, (List.cons.inj h).2⟩
   obtain ⟨L2, hL2⟩ : ∃ L2, L2 = ((⟨t0.1.u, t0.1.k, (q : Int), t0.1.b⟩, t0.2) :: rr : List (Vc × Value)) := ⟨_, rfl⟩
   have HB3 := hid (show Below wr.heap.size wr w3 by rw [hw3]; exact HB2r.out.setCell (p := ⟨rg, 2, none⟩) hrg _)
   have hL2n : L2.length = sn := by
    have := congrArg List.length HRL.out
    rw [hl0c, List.length_map, zC6, ← HSN.out] at this
    rw [hL2, ← this]
    rfl
   have HROW3 := hid (show w3.ownsRow wr.heap.size 31 4 (.slice (some ⟨rg, 0, none⟩) sn rc) L2.length (L2.map cellsV).flatten from by
    have hst := (HRO.out.stored 2 (.int .i64 (q : Int))).1
    rw [hl0c, zSd, ← hw3] at hst
    rw [hL2n, hL2]
    exact hst)
   have HV3 := hid (show ∀ t ∈ L2, RdB wr.heap.size w3 t.2 t.1.b ∧ (∀ x ∈ t.1.b, x < 256) ∧ FarV rg t from fun t ht => by
    rw [hL2] at ht
    rcases List.mem_cons.1 ht with rfl | h
    ·obtain ⟨h1, h2, h3⟩ := HRV.out t0 (by rw [hl0c]; exact List.mem_cons_self)
     rw [hw3]
     exact ⟨zPe h1 h3, h2, h3⟩
    ·obtain ⟨h1, h2, h3⟩ := HRV.out t (by rw [hl0c]; exact List.mem_cons_of_mem _ h)
     rw [hw3]
     exact ⟨zPe h1 h3, h2, h3⟩)
   have HPL := hid (show (L ++ [L2]).map (fun l => l.map Prod.fst) = rowsM (colsN a0) (q + 1) by
    rw [List.map_append, HLM.out, zQx, hr0, List.set_cons_zero, List.map_cons, List.map_nil, hL2, List.map_cons, ht0, hrr])
   have HRD := hid (zBd w3 #[.slice (some ⟨rg, 0, none⟩) sn rc] 27 1 rfl)
   have HON := hid (show Ones 1 [[Value.slice (some ⟨rg, 0, none⟩) sn rc]] from fun t ht => by rw [List.mem_singleton.1 ht]; exact ⟨rfl, fun u hu => by rw [List.mem_singleton.1 hu]; rfl⟩)
   have HOWN := hid (show (w3.alloc (.cells #[.slice (some ⟨rg, 0, none⟩) sn rc] 27)).ownsRow W2.heap.size 27 1 (.slice ao q cap) q sls from by
    have h := (HRB.out.kept HB3.out).own
    rw [HLL.out] at h
    exact h.alloc _)
   have HSZ := hid (show W2.heap.size ≤ (w3.alloc (.cells #[.slice (some ⟨rg, 0, none⟩) sn rc] 27)).heap.size by have := HB.out.size; have := HB3.out.size; simp; omega)
   clear hw3 hrg hl0c hL2 hL2n hrc3 hrf hr0 ht0 hrr
   go_wp2_with (at_builtin; go_must (refine zAe zVm rfl _ _ rfl W2.heap.size _ _ _ rfl HOWN.out _ [[.slice (some ⟨rg, 0, none⟩) sn rc]] rfl HRD.out HON.out (by simp; omega) HSZ.out (q + 1) rfl ?_); intro ao4 cap4 w4 hown4 hgrow4 hnew4; have HO4 := hid hown4; have HG4 := hid hgrow4; have HN4 := hid hnew4; clear hown4 hgrow4 hnew4)
   go_roundw
   case rel =>
    refine ⟨q + 1, sls ++ [.slice (some ⟨rg, 0, none⟩) sn rc], L ++ [L2], ao4, cap4, by omega, by go_num, rfl, by rw [List.length_append, HLL.out]; rfl, HPL.out, ?_, ?_⟩
    ·exact RowsB.add HRB.out HB.out.size HB3.out rfl HROW3.out HV3.out HG4.out HN4.out (by rw [HLL.out]; exact HO4.out)
    ·exact (zAa HB.out HB3.out).alloc (Nat.le_trans HB.out.size HB3.out.size) _ |>.grown HG4.out HSZ.out (zAf HOWN.out)
   case measure => simp [intOf]; omega
  ·have hqc : q = c := by omega
   subst hqc
   have hlti : ¬ (q : Int) < (q : Int) := by omega
   have HMK := hid (show ∀ (w' : World) (L' : List (List (Vc × Value))) (rows : List (List Vc)) (rv : Value), Below W2.heap.size W2 w' → RdRs w' rv L' → L'.map (fun l => l.map Prod.fst) = rows → rows.length = q → (∀ r ∈ rows, r.length = (colsN a0).length ∧ ∀ v ∈ r, I64 v.n ∧ v.b.length ≤ 8) → Calls Tryz.prog 15 #[.agg #[.slice so sn sc], rv] w' fun e w'' =>
     ((rowsB (colsN a0) rows = true ∧ ∃ g, e = .returned (.tuple #[.pointer (some ⟨g, 0, none⟩), .bool true]) ∧ w''.cell? ⟨g, 0, none⟩ = some (.int .i64 (q : Int))) ∨ (rowsB (colsN a0) rows = false ∧ e = .returned (.tuple #[.pointer none, .bool false]))) ∧ Below w'.heap.size w' w'' from fun w' L' rows rv hb hr hm hn hs => by
    subst hm
    have hn2 : L'.length = q := by rw [List.length_map] at hn; exact hn
    refine (zHo (colsN a0) HSC.out L' (by omega) (fun l hl => by
     have := (hs _ (List.mem_map_of_mem hl)).1
     rw [List.length_map] at this
     have := HOK.out.le
     omega) (fun l hl t ht => ((hs _ (List.mem_map_of_mem hl)).2 t.1 (List.mem_map_of_mem ht)).1) (fun l hl t ht => by have := ((hs _ (List.mem_map_of_mem hl)).2 t.1 (List.mem_map_of_mem ht)).2; omega) _ rv w' (RdC.kept HC2.out hb) hr).mono ?_
    rintro e w'' ⟨h, hb2⟩
    refine ⟨h.imp (fun h => ⟨h.1, ?_⟩) id, hb2⟩
    obtain ⟨g, rfl, hseg⟩ := h.2
    obtain ⟨_, zv, kv, tv, hgx, _⟩ := hseg.blk
    refine ⟨g, rfl, ?_⟩
    rw [cell_of_row w'' g 0 _ _ _ hgx, hn]
    rfl)
   have hgood : (decide (1 ≤ (q : Int)) = true ∧ decide ((q : Int) ≤ 64) = true ∧ 1 ≤ (q : Int) ∧ (q : Int) ≤ 64 ∧ 1 ≤ q ∧ q ≤ 64) ∨ (decide (1 ≤ (q : Int)) = true ∧ decide ((q : Int) ≤ 64) = false ∧ 1 ≤ (q : Int) ∧ ¬ (q : Int) ≤ 64 ∧ 1 ≤ q ∧ ¬ q ≤ 64) ∨ (decide (1 ≤ (q : Int)) = false ∧ ¬ 1 ≤ (q : Int) ∧ q = 0) := by
    by_cases h1 : 1 ≤ q
    ·by_cases h2 : q ≤ 64
     ·exact .inl ⟨by rw [decide_eq_true_eq]; omega, by rw [decide_eq_true_eq]; omega, by omega, by omega, h1, h2⟩
     ·exact .inr (.inl ⟨by rw [decide_eq_true_eq]; omega, by rw [decide_eq_false_iff_not]; omega, by omega, by omega, h1, h2⟩)
    ·exact .inr (.inr ⟨by rw [decide_eq_false_iff_not]; omega, by omega, by omega⟩)
   by_cases hbad : a2 % 4 = 0 ∧ 0 < q
   ·obtain ⟨hb4, hq0⟩ := hbad
    have hq0i : (0 : Int) < (q : Int) := by omega
    have hq0d : decide ((q : Int) > 0) = true := by rw [decide_eq_true_eq]; omega
    have hrem : (d : Int).tmod (q : Int) = ((d % q : Nat) : Int) := by
     rw [Int.tmod_eq_emod_of_nonneg (by omega)]
     push_cast
     rfl
    obtain ⟨k, hk⟩ : ∃ k, k = d % q := ⟨_, rfl⟩
    have hkq : k < q := by rw [hk]; exact Nat.mod_lt _ hq0
    rw [← hk] at hrem
    have hkqi : (k : Int) < (q : Int) := by omega
    have hk0 : (0 : Int) ≤ (k : Int) := by omega
    have hne : ((q : Int) == 0) = false := by rw [beq_eq_false_iff_ne]; omega
    have hne1 : ¬ ((q : Int) = 0) := by omega
    have hne2 : ¬ (q = 0) := by omega
    obtain ⟨l, hl⟩ : ∃ l, L[k]? = some l := ⟨_, List.getElem?_eq_getElem (by rw [HLL.out]; exact hkq)⟩
    obtain ⟨s, hs⟩ : ∃ s, sls[k]? = some s := ⟨_, List.getElem?_eq_getElem (by rw [HRB.out.len, HLL.out]; exact hkq)⟩
    have hrow := HRB.out.row k s l hs hl
    have hlr : l.map Prod.fst = (rowOf (colsN a0) (k : Nat)).set 0 ⟨false, 1, (k : Nat), []⟩ := by
     have h := congrArg (fun x => x[k]?) HLM.out
     simp only [List.getElem?_map] at h
     rw [hl, zUt _ _ _ hkq] at h
     simpa using h
    obtain ⟨r0, hr0, _⟩ := zHs HOK.out (k : Nat)
    obtain ⟨t0, rr, hlc, ht0, hrr⟩ : ∃ t0 rr, l = t0 :: rr ∧ t0.1 = ⟨false, 1, (k : Nat), []⟩ ∧ rr.map Prod.fst = r0 := by
     have h := hlr
     rw [hr0, List.set_cons_zero] at h
     match l, h with
     | t :: r, h => exact ⟨t, r, rfl, by simpa using (List.cons.inj h).1, (List.cons.inj h).2⟩
    have hlsn : l.length = sn := by have := congrArg List.length hlr; rw [List.length_map, List.length_set, zC6, ← HSN.out] at this; exact this
    obtain ⟨sg, sgc, hsv⟩ := Joins.ownsRow_form hrow (by omega)
    rw [hlsn] at hrow hsv
    subst hsv
    obtain ⟨G, cap2, hov⟩ := Joins.ownsRow_form HRB.out.own (by rw [HLL.out]; exact hq0)
    rw [HLL.out] at hov
    simp only [Value.slice.injEq] at hov
    obtain ⟨rfl, _, rfl⟩ := hov
    have hown := HRB.out.own
    rw [HLL.out] at hown
    have cR : wr.cell? ⟨G, k, none⟩ = some (.slice (some ⟨sg, 0, none⟩) sn sgc) := (hown.cellAt k (by omega)).trans hs
    have hrc0 : ∃ u, wr.cell? ⟨sg, 0, none⟩ = some u := ⟨_, (hrow.cellAt 0 (by omega)).trans (List.getElem?_eq_getElem (by have := hrow.1; omega))⟩
    obtain ⟨ru, hrc3⟩ := hrc0
    have hrf := hrow.frozenAt 0
    have hsgb : W2.heap.size ≤ sg := (hrow.lt sg rfl).1
    have hpoke := RowsB.poke (q := 0) (u := .bool true) (l' := (⟨true, t0.1.k, t0.1.n, t0.1.b⟩, t0.2) :: rr) HRB.out hs hl rfl (by rw [hlc, zS3]) (by rw [hlc]; rfl) (fun t ht => .inr (by
     rcases List.mem_cons.1 ht with rfl | h
     ·exact ⟨t0, by rw [hlc]; exact List.mem_cons_self, rfl, rfl⟩
     ·exact ⟨t, by rw [hlc]; exact List.mem_cons_of_mem _ h, rfl, rfl⟩))
    have HPK := hid hpoke.rdA.rd
    have HBS := hid (HB.out.setCell (p := ⟨sg, 0, none⟩) hsgb (.bool true))
    have HML := hid (show (L.set k ((⟨true, t0.1.k, t0.1.n, t0.1.b⟩, t0.2) :: rr)).map (fun l => l.map Prod.fst) = (rowsM (colsN a0) q).set k ((rowOf (colsN a0) (k : Nat)).set 0 ⟨true, 1, (k : Nat), []⟩) from by
     rw [List.map_set, HLM.out, hr0, List.set_cons_zero, List.map_cons, hrr, ht0])
    have HNO := hid (zS2 HOK.out q k hkq)
    have HSM := hid (show ∀ r ∈ (rowsM (colsN a0) q).set k ((rowOf (colsN a0) (k : Nat)).set 0 ⟨true, 1, (k : Nat), []⟩), r.length = (colsN a0).length ∧ ∀ v ∈ r, I64 v.n ∧ v.b.length ≤ 8 from fun r hr => by
     rcases List.mem_or_eq_of_mem_set hr with h | rfl
     ·unfold rowsM at h
      obtain ⟨i, hi, rfl⟩ := List.mem_map.1 h
      have := List.mem_range.1 hi
      exact ⟨by rw [List.length_set, zC6], zHt _ _ _ (by unfold I64; omega)⟩
     ·exact ⟨by rw [List.length_set, zC6], zHt _ _ _ (by unfold I64; omega)⟩)
    have hne3 : sg ≠ SB := by have := HSBL.out; omega
    have cs1 : (wr.setCell ⟨sg, 0, none⟩ (.bool true)).cell? ⟨SB, 0, none⟩ = some (.slice so sn sc) := (World.cell?_of_block (heap_setCell_other wr ⟨sg, 0, none⟩ SB _ (by show SB ≠ sg; omega))).trans cs0
    have HMK2 := hid (HMK.out _ _ _ (.slice (some ⟨G, 0, none⟩) q cap) HBS.out HPK.out HML.out (by rw [List.length_set, zGl]) HSM.out)
    rw [HNO.out] at HMK2
    clear hk hl hs hrow hlr hr0 hlc ht0 hrr hown hpoke hq0
    rcases hgood with ⟨g1, g2, g3, g4, g5, g6⟩ | ⟨g1, g2, g3, g4, g5, g6⟩ | ⟨g1, g2, g3⟩
    case inr.inr => omega
    all_goals
     go_upto_region 14 with (fail)
     obtain ⟨W9, hW9⟩ : ∃ W9 : World, W9 = wr.setCell ⟨sg, 0, none⟩ (.bool true) := ⟨_, rfl⟩
     rw [← hW9] at HMK2 HBS cs1 ⊢
     clear hW9 cs0 cR hrc3 hrf
     go_wp2_with fail
     refine HMK2.out.mono ?_
     rintro e w5 ⟨h | ⟨_, rfl⟩, hb5⟩
     ·exact absurd h.1 (by decide)
     ·have HB5 := hid (zAa HB2.out (zAa HBS.out hb5))
      clear hb5
      go_wp2_with fail
      refine (HAW.out _).mono ?_
      rintro e w6 ⟨rfl, hb6⟩
      have HB6 := hid (zAa HB5.out hb6)
      clear hb6
      go_wp2_with fail
      go_ret
      exact ⟨rfl, HB6.out⟩
   ·have HBAD := hid (show ((a2 % 4 == 0) = false ∧ ¬ a2 % 4 = 0) ∨ ((a2 % 4 == 0) = true ∧ a2 % 4 = 0 ∧ decide ((q : Int) > 0) = false ∧ ¬ (q : Int) > 0 ∧ ¬ (0 < q)) from by
     by_cases h : a2 % 4 = 0
     ·have : ¬ 0 < q := fun h2 => hbad ⟨h, h2⟩
      exact .inr ⟨by rw [beq_iff_eq]; exact h, h, by rw [decide_eq_false_iff_not]; omega, by omega, this⟩
     ·exact .inl ⟨by rw [beq_eq_false_iff_ne]; exact h, h⟩)
    have HMK2 := hid (HMK.out wr L _ (.slice ao q cap) HB.out HRB.out.rdA.rd HLM.out (zGl _ _) (fun r hr => by
     unfold rowsM at hr
     obtain ⟨i, hi, rfl⟩ := List.mem_map.1 hr
     have := List.mem_range.1 hi
     exact ⟨by rw [List.length_set, zC6], zHt _ _ _ (by unfold I64; omega)⟩))
    rw [zVw HOK.out q] at HMK2
    clear hbad
    rcases hgood with ⟨g1, g2, g3, g4, g5, g6⟩ | ⟨g1, g2, g3, g4, g5, g6⟩ | ⟨g1, g2, g3⟩
    ·rw [show (decide (1 ≤ q) && decide (q ≤ 64)) = true by simp [g5, g6]] at HMK2
     rcases HBAD.out with ⟨h1, h2⟩ | ⟨h1, h2, h3, h4, h5⟩
     ·go_wp2_with fail
      refine HMK2.out.mono ?_
      rintro e w5 ⟨⟨_, g, rfl, hgc⟩ | h, hb5⟩
      ·have HB5 := hid (zAa HB2.out (zAa HB.out hb5))
       clear hb5
       go_wp2_with fail
       refine (HAW.out _).mono ?_
       rintro e w6 ⟨rfl, hb6⟩
       have HB6 := hid (zAa HB5.out hb6)
       clear hb6
       go_wp2_with fail
       go_ret
       exact ⟨rfl, HB6.out⟩
      ·exact absurd h.1 (by decide)
     ·omega
    ·rw [show (decide (1 ≤ q) && decide (q ≤ 64)) = false by simp [g5, g6]] at HMK2
     rcases HBAD.out with ⟨h1, h2⟩ | ⟨h1, h2, h3, h4, h5⟩
     ·go_wp2_with fail
      refine HMK2.out.mono ?_
      rintro e w5 ⟨h | ⟨_, rfl⟩, hb5⟩
      ·exact absurd h.1 (by decide)
      ·have HB5 := hid (zAa HB2.out (zAa HB.out hb5))
       clear hb5
       go_wp2_with fail
       refine (HAW.out _).mono ?_
       rintro e w6 ⟨rfl, hb6⟩
       have HB6 := hid (zAa HB5.out hb6)
       clear hb6
       go_wp2_with fail
       go_ret
       exact ⟨rfl, HB6.out⟩
     ·omega
    ·subst g3
     rw [show (decide (1 ≤ 0) && decide (0 ≤ 64)) = false by decide] at HMK2
     rcases HBAD.out with ⟨h1, h2⟩ | ⟨h1, h2, h3, h4, h5⟩
     all_goals
      go_wp2_with fail
      refine HMK2.out.mono ?_
      rintro e w5 ⟨h | ⟨_, rfl⟩, hb5⟩
      ·exact absurd h.1 (by decide)
      ·have HB5 := hid (zAa HB2.out (zAa HB.out hb5))
       clear hb5
       go_wp2_with fail
       refine (HAW.out _).mono ?_
       rintro e w6 ⟨rfl, hb6⟩
       have HB6 := hid (zAa HB5.out hb6)
       clear hb6
       go_wp2_with fail
       go_ret
       exact ⟨rfl, HB6.out⟩
end Go.Proofs.YtmpgnjhgegbdkaaGreat
