import Derived.Test.YtmpgnjhgegbdkaaGreatSgn
import Derived.Test.YtmpgnjhgegbdkaaGreatSgm
import Derived.Test.YtmpgnjhgegbdkaaGreatSgaw
set_option linter.unusedVariables false
set_option linter.unusedSimpArgs false
set_option maxRecDepth 100000
set_option maxHeartbeats 8000000
open Go.Lib (hid)
namespace Go.Proofs.YtmpgnjhgegbdkaaGreat
open Go.RowKit
open _root_.List renaming getElem?_eq_getElem -> Qa, length_map -> Qb, length_take -> Qc, length -> Qe, getElem?_mapIdx -> Qf, map_cons -> Qg, mem_singleton -> Qi, length_mapIdx -> Qj, getElem?_of_mem -> Qk, mem_map_of_mem -> Qm, mem_map -> Qn
open _root_.Nat renaming zero_le -> Qd
open _root_.Option renaming map_some -> Qh
open _root_.Bool renaming and_true -> Ql
theorem zTk (cols : List Co) (hok : ColsOk cols) (l : List Int) (sv : Value) (oa : Option Addr) (ln oc : Nat) (hln : ln = l.length) (w : World) (hv : RdC w sv cols) (hr : Rd w (.slice oa ln oc) (l.map (Value.int .i64))) :
  Calls Tryz.prog 18 #[.agg #[sv], .slice oa ln oc] w fun e w' => ∃ (ao : Option Addr) (cap : Nat) (sls : List Value) (L : List (List (Vc × Value))), e = .returned (.slice ao L.length cap) ∧ L.map (fun x => x.map Prod.fst) = rows9 cols l ∧ RowsB (w.heap.size + 1) w' (.slice ao L.length cap) sls L ∧ w.heap.size < w'.heap.size ∧ Below w.heap.size w w' := by
 obtain ⟨sa, sc, rfl⟩ := zBr hv
 obtain ⟨n, hN⟩ : ∃ n, n = cols.length := ⟨_, rfl⟩
 rw [<- hN] at hv ⊢
 have HN := hid hN
 have HV := hid hv
 have HR := hid hr
 have HLN := hid hln
 have HOK := hid hok
 have hn0 : 0 < n := by rw [hN]; exact hok.ne
 have hn0i : (0 : Int) < (n : Int) := by omega
 have b1 : ∀ x, bits .and .i64 x 1 = x % 2 := fun x => zG3 x 1 (by decide) 1 rfl
 clear hN hv hr hln hok
 go_enter Tryz.func18, Tryz.ntmps18
 go_upto_region 1 with (fail)
 obtain ⟨W, hW⟩ : ∃ W : World, W = w.alloc (.cells #[.slice sa n sc] 24) := ⟨_, rfl⟩
 rw [<- hW]
 have HX0 := hid (show W.heap[w.heap.size]? = some (.cells #[.slice sa n sc] 24 (0, 0)) by rw [hW]; exact heap_alloc_new w _)
 have HB0 := hid (show Below w.heap.size w W by rw [hW]; exact zAd w _)
 obtain ⟨SB, hSB⟩ : ∃ SB, SB = w.heap.size := ⟨_, rfl⟩
 have HWS := hid (show W.heap.size = w.heap.size + 1 by rw [hW]; simp)
 rw [<- hSB] at HX0 ⊢
 clear hW hSB
 go_wp2_with fail
 go_loopw [5, 6] (fun o i wr => ∃ (q : Nat) (ao : Option Addr) (cap : Nat) (sls : List Value) (L : List (List (Vc × Value))), q <= 40 ∧ q <= ln ∧ i = .int .i64 (q : Int) ∧ o = .slice ao q cap ∧ L.length = q ∧ L.map (fun x => x.map Prod.fst) = (rows9 cols l).take q ∧ RowsB W.heap.size wr (.slice ao q cap) sls L ∧ Below W.heap.size W wr) (fun _ i _ => 40 - (intOf i).toNat)
 case atStart => exact ⟨0, none, 0, [], [], by omega, Qd _, rfl, rfl, rfl, by simp, zTi _ _, Below.refl _ _⟩
 case round =>
  obtain ⟨q, ao, cap, sls, L, hq, hql, rfl, rfl, hll, hlm, hown, hb⟩ := hrel
  have HLL := hid hll
  have HLM := hid hlm
  have HO := hid hown
  have HB := hid hb
  have HXr := hid ((hb.block SB (Array.getElem?_eq_some_iff.1 HX0.out).1).trans HX0.out)
  have HBw := hid (zAa HB0.out hb)
  clear hll hlm hown hb
  by_cases hlt : q < ln ∧ q < 40
  ·obtain ⟨hlt1, hlt2⟩ := hlt
   have hd1 : decide ((q : Int) < (ln : Int)) = true := by rw [decide_eq_true_eq]; omega
   have hd1n : decide (q < ln) = true := by rw [decide_eq_true_eq]; omega
   have hd1i : (q : Int) < (ln : Int) := by omega
   have hd2 : decide ((q : Int) < 40) = true := by rw [decide_eq_true_eq]; omega
   have hl0 : (0 : Int) <= (q : Int) := by omega
   obtain ⟨b, off, rfl, hcells⟩ := (zMb (HR.out.kept HBw.out)).2 (by omega)
   have hcn := hcells q hlt1
   obtain ⟨rn, hrn⟩ : ∃ rn, rn = l.getD q 0 := ⟨_, rfl⟩
   rw [<- hrn] at hcn
   have HRN := hid (show l[q]? = some rn by rw [hrn, List.getD_eq_getElem?_getD, Qa (by rw [<- HLN.out]; exact hlt1)]; rfl)
   have hcs : wr.cell? ⟨SB, 0, none⟩ = some (.slice sa n sc) := by rw [cell_of_row wr SB 0 _ _ _ HXr.out]; rfl
   have HROW := hid fun W (h : Below wr.heap.size wr W) => zVz (.slice sa n sc) cols HOK.out.ne rn W (RdC.kept (RdC.kept HV.out HBw.out) h) HOK.out.le
   rw [<- HN.out] at HROW
   clear hcells hrn
   go_upto_region 5 with (fail)
   go_region_law (go_simp; go_at_call 14; refine (HROW.out _ ?_).mono ?_; (exact zAe _ _); rintro e w2 ⟨rg, rc, rl, rfl, hrl, hrown, hrv, hb2⟩; have HRL := hid hrl; have HRO := hid hrown; have HRV := hid hrv; have HB2R := hid (show Below wr.heap.size wr w2 from (zAe _ wr).trans hb2); have hcn2 : w2.cell? ⟨b, off + q, none⟩ = some (.int .i64 rn) := (HB2R.out.cell (World.block_lt_of_cell? _ _ hcn)).trans hcn; have hrc2 : ∃ u, w2.cell? ⟨rg, 2, none⟩ = some u := ⟨_, (hrown.cellAt 2 (by omega)).trans (Qa (by have := hrown.1; omega))⟩; obtain ⟨ru, hrc3⟩ := hrc2; have hrf := hrown.frozenAt 2; clear hrl hrown hrv hb2)
   all_goals
    go_upto_region 7 with (fail)
    obtain ⟨t0, rr, hl0c⟩ : ∃ t0 rr, rl = t0 :: rr := by
     have hrl := HRL.out
     match rl, hrl with
     | [], h => exact absurd (congrArg Qe h) (by rw [zE2, <- HN.out]; simp; omega)
     | t :: r, _ => exact ⟨t, r, rfl⟩
    obtain ⟨w3, hw3⟩ : ∃ w3, w3 = w2.setCell ⟨rg, 2, none⟩ (.int .i64 ((q : Int) * 3 + rn % 2)) := ⟨_, rfl⟩
    rw [<- hw3]
    have hrg : wr.heap.size <= rg := (HRO.out.lt rg rfl).1
    have HB3 := hid (show Below wr.heap.size wr w3 by rw [hw3]; exact HB2R.out.setCell (p := ⟨rg, 2, none⟩) hrg _)
    have HPL := hid (show L.map (fun x => x.map Prod.fst) ++ [((⟨t0.1.u, t0.1.k, (q : Int) * 3 + rn % 2, t0.1.b⟩, t0.2) :: rr : List (Vc × Value)).map Prod.fst] = (rows9 cols l).take (q + 1) by
     rw [HLM.out, List.take_add_one]
     unfold rows9
     rw [Qf, List.getElem?_take_of_lt hlt2, HRN.out]
     have h1 := HRL.out
     rw [hl0c, Qg] at h1
     obtain ⟨c, hc⟩ : ∃ c, cols[0]? = some c := ⟨_, Qa HOK.out.ne⟩
     have he := zJ3 cols rn 0
     rw [hc, <- h1] at he
     simp only [List.getElem?_cons_zero, Qh, Option.some.injEq] at he
     have hu : t0.1 = ⟨false, 1, rn % 16, []⟩ := by rw [he]; rfl
     simp only [Qh, Option.toList_some]
     rw [<- h1, List.set_cons_zero, Qg, hu])
    obtain ⟨L2, hL2⟩ : ∃ L2, L2 = ((⟨t0.1.u, t0.1.k, (q : Int) * 3 + rn % 2, t0.1.b⟩, t0.2) :: rr : List (Vc × Value)) := ⟨_, rfl⟩
    rw [<- hL2] at HPL
    have hL2n : L2.length = n := by
     have := congrArg Qe HRL.out
     rw [hl0c, Qb, zE2, <- HN.out] at this
     rw [hL2, <- this]
     rfl
    have HROW3 := hid (show w3.ownsRow wr.heap.size 31 4 (.slice (some ⟨rg, 0, none⟩) n rc) L2.length (L2.map cellsV).flatten from by
     have hst := (HRO.out.stored 2 (.int .i64 ((q : Int) * 3 + rn % 2))).1
     rw [hl0c, zSw, <- hw3] at hst
     rw [hL2n, hL2]
     exact hst)
    have HV3 := hid (show ∀ t ∈ L2, RdB wr.heap.size w3 t.2 t.1.b ∧ (∀ x ∈ t.1.b, x < 256) ∧ FarV rg t from fun t ht => by
     rw [hL2] at ht
     rcases List.mem_cons.1 ht with rfl | h
     ·obtain ⟨h1, h2, h3⟩ := HRV.out t0 (by rw [hl0c]; exact List.mem_cons_self)
      rw [hw3]
      exact ⟨zPw h1 h3, h2, h3⟩
     ·obtain ⟨h1, h2, h3⟩ := HRV.out t (by rw [hl0c]; exact List.mem_cons_of_mem _ h)
      rw [hw3]
      exact ⟨zPw h1 h3, h2, h3⟩)
    have HOWN := hid (show (w3.alloc (.cells #[.slice (some ⟨rg, 0, none⟩) n rc] 27)).ownsRow W.heap.size 27 1 (.slice ao q cap) q sls from by
     have h := (HO.out.kept HB3.out).own
     rw [HLL.out] at h
     exact h.alloc _)
    have HRD := hid (zBb w3 #[.slice (some ⟨rg, 0, none⟩) n rc] 27 1 rfl)
    have HON := hid (show Ones 1 [[Value.slice (some ⟨rg, 0, none⟩) n rc]] from fun t ht => by rw [Qi.1 ht]; exact ⟨rfl, fun u hu => by rw [Qi.1 hu]; rfl⟩)
    have HSZ := hid (show W.heap.size <= (w3.alloc (.cells #[.slice (some ⟨rg, 0, none⟩) n rc] 27)).heap.size by have := HB.out.size; have := HB3.out.size; simp; omega)
    clear hw3 hrg hl0c hL2 hL2n hcn2 hrc3 hrf
    go_wp2_with (at_builtin; go_must (refine zAg zV0 rfl _ _ rfl W.heap.size _ _ _ rfl HOWN.out _ [[.slice (some ⟨rg, 0, none⟩) n rc]] rfl HRD.out HON.out (by simp; omega) HSZ.out (q + 1) rfl ?_); intro ao4 cap4 w4 hown4 hgrow4 hnew4; have HO4 := hid hown4; have HG4 := hid hgrow4; have HN4 := hid hnew4; clear hown4 hgrow4 hnew4)
    go_roundw
    case rel =>
     refine ⟨q + 1, ao4, cap4, sls ++ [.slice (some ⟨rg, 0, none⟩) n rc], L ++ [L2], by omega, by omega, by go_num, rfl, by rw [List.length_append, HLL.out]; rfl, by rw [List.map_append]; exact HPL.out, ?_, ?_⟩
     ·exact RowsB.add HO.out HB.out.size HB3.out rfl HROW3.out HV3.out HG4.out HN4.out (by rw [HLL.out]; exact HO4.out)
     ·exact (zAa HB.out HB3.out).alloc (Nat.le_trans HB.out.size HB3.out.size) _ |>.grown HG4.out HSZ.out (zAh HOWN.out)
    case measure => simp [intOf]; omega
  ·have hd : (decide ((q : Int) < (ln : Int)) = false ∧ decide (q < ln) = false) ∨ (decide ((q : Int) < (ln : Int)) = true ∧ decide (q < ln) = true ∧ decide ((q : Int) < 40) = false ∧ decide (q < 40) = false) := by
    by_cases h : q < ln
    ·have h2 : ¬ q < 40 := fun h2 => hlt ⟨h, h2⟩
     exact .inr ⟨by rw [decide_eq_true_eq]; omega, by rw [decide_eq_true_eq]; omega, by rw [decide_eq_false_iff_not]; omega, by rw [decide_eq_false_iff_not]; omega⟩
    ·exact .inl ⟨by rw [decide_eq_false_iff_not]; omega, by rw [decide_eq_false_iff_not]; omega⟩
   have HF := hid (show L.map (fun x => x.map Prod.fst) = rows9 cols l by
    rw [HLM.out, List.take_of_length_le]
    unfold rows9
    rw [Qj, Qc, <- HLN.out]
    by_cases h : q < ln
    ·have h2 : ¬ q < 40 := fun h2 => hlt ⟨h, h2⟩
     omega
    ·omega)
   clear hlt
   rcases hd with ⟨hd1, hd2⟩ | ⟨hd1, hd2, hd3, hd4⟩
   all_goals
    go_wp2_with fail
    go_ret
    exact ⟨ao, cap, sls, L, (by rw [HLL.out]; rfl), HF.out, by rw [HLL.out, <- HWS.out]; exact HO.out, by have := HB.out.size; have := HWS.out; omega, HBw.out⟩
theorem zKk {cols : List Co} {l : List Int} {r : List Vc} (h : r ∈ rows9 cols l) : ∃ (i : Nat) (n : Int), i < 40 ∧ r = (rowOf cols n).set 0 ⟨false, 1, (i : Int) * 3 + n % 2, []⟩ := by
 obtain ⟨i, hi⟩ := Qk h
 unfold rows9 at hi
 rw [Qf] at hi
 cases hq : (l.take 40)[i]? with
 | none => rw [hq] at hi; cases hi
 | some n =>
  rw [hq] at hi
  have := (List.getElem?_eq_some_iff.1 hq).1
  rw [Qc] at this
  exact ⟨i, n, by omega, (Option.some.inj hi).symm⟩
theorem zKl (cols : List Co) (l : List Int) : (rows9 cols l).length <= 40 := by
 unfold rows9
 rw [Qj, Qc]
 omega
theorem zTl {cols : List Co} (h : ColsOk cols) (n x : Int) : fitsR cols ((rowOf cols n).set 0 ⟨false, 1, x, []⟩) = true := by
 obtain ⟨c0, hc0⟩ : ∃ c0, cols[0]? = some c0 := ⟨_, Qa h.ne⟩
 have hk := (h.hd _ hc0).1
 rw [zMr cols _ 0 c0 _ (zPe h n) hc0]
 unfold fitsT
 simp [hk]
theorem zPz {cols : List Co} (h : ColsOk cols) (l : List Int) : rowsB cols (rows9 cols l) = decide (0 < (rows9 cols l).length) := by
 have h1 := zKl cols l
 have h2 : (rows9 cols l).all (fitsR cols) = true := by
  rw [List.all_eq_true]
  intro r hr
  obtain ⟨i, n, _, rfl⟩ := zKk hr
  exact zTl h _ _
 unfold rowsB
 rw [h2, decide_eq_true (show (rows9 cols l).length <= 64 by omega), Ql, Ql]
theorem zVa {cols : List Co} {l : List Int} {r : List Vc} (h : r ∈ rows9 cols l) : r.length = cols.length := by
 obtain ⟨i, n, _, rfl⟩ := zKk h
 rw [List.length_set, zE2]
theorem zLg {cols : List Co} {l : List Int} {r : List Vc} (h : r ∈ rows9 cols l) : ∀ v ∈ r, I64 v.n ∧ v.b.length <= 8 := fun v hv => by
 obtain ⟨i, n, hi, rfl⟩ := zKk h
 rcases List.mem_or_eq_of_mem_set hv with h | rfl
 ·exact zPk n v h
 ·exact ⟨by unfold I64; simp only; omega, Qd _⟩
theorem zG0 {w w' : World} {B sz n : Nat} {E : TypeId} {v : Value} {xs : List Value} (h : w.ownsRow B E sz v n xs) (hb : Below w.heap.size w w') : w'.ownsRow B E sz v n xs :=
 zAl (X := fun _ => False) h ⟨hb.os, hb.tape, hb.output, hb.size, fun i hi _ => hb.block i hi⟩ (fun _ _ h => h)
theorem OwnB.keptB {w w' : World} {B : Nat} {v : Value} {bs : List Nat} (h : OwnB B w v bs) (hb : Below w.heap.size w w') : OwnB B w' v bs := zG0 h hb
theorem OwnW.keptB {w w' : World} {B : Nat} {v : Value} {l : List (Vc × Value)} (h : OwnW B w v l) (hb : Below w.heap.size w w') : OwnW B w' v l :=
 ⟨zG0 h.row hb, fun t ht => ⟨(h.els t ht).1.keptB hb, (h.els t ht).2⟩, h.apart⟩
theorem OwnW.far {w : World} {B g n c : Nat} {l : List (Vc × Value)} (h : OwnW B w (.slice (some ⟨g, 0, none⟩) n c) l) {t : Vc × Value} (ht : t ∈ l) : FarV g t := by
 intro hne a m k hv he
 obtain ⟨i, hi⟩ := Qk ht
 obtain ⟨G, cap, hf⟩ := Joins.ownsRow_form (h.els t ht).1 (List.length_pos_iff.2 hne)
 rw [hv] at hf
 simp only [Value.slice.injEq, Option.some.injEq] at hf
 have h2 := h.apart 0 (i + 1) _ t.2 g rfl (by simp [hi]) rfl (by rw [hv, hf.1]; simp only [Value.ownBlock]; rw [hf.1] at he; simpa using he)
 omega
theorem zWa (a1 : Int) (la : List Int) (L : List (List (Vc × Value))) (hlm : L.map (fun x => x.map Prod.fst) = rows9 (colsN a1) la) (sv rv : Value) (w : World) (hs : RdC w sv (colsN a1)) (hr : RdRs w rv L) (h8 : ∀ l ∈ L, ∀ t ∈ l, ∀ x ∈ t.1.b, x < 256) :
  Calls Tryz.prog 15 #[.agg #[sv], rv] w fun e w' => ((∃ g, e = .returned (.tuple #[.pointer (some ⟨g, 0, none⟩), .bool true]) ∧ RowsC (colsN a1) (rows9 (colsN a1) la) ∧ SegAt w.heap.size w' g (colsN a1) (rows9 (colsN a1) la)) ∨ ((rows9 (colsN a1) la).length = 0 ∧ e = .returned (.tuple #[.pointer none, .bool false]))) ∧ Below w.heap.size w w' := by
 have hok := zHx a1
 have hmem : ∀ l ∈ L, l.map Prod.fst ∈ rows9 (colsN a1) la := fun l hl => by rw [<- hlm]; exact Qm (f := fun x : List (Vc × Value) => x.map Prod.fst) hl
 have hsml : ∀ l ∈ L, ∀ t ∈ l, I64 t.1.n ∧ t.1.b.length <= 8 := fun l hl t ht => zLg (hmem l hl) t.1 (Qm ht)
 have hlen : L.length <= 40 := by have h := zKl (colsN a1) la; rw [<- hlm, Qb] at h; exact h
 refine (zH1 (colsN a1) (zLz a1) L (by omega) (fun l hl => by
  have := zVa (hmem l hl)
  rw [Qb] at this
  have := hok.le
  omega) (fun l hl t ht => (hsml l hl t ht).1) (fun l hl t ht => by have := (hsml l hl t ht).2; omega) sv rv w hs hr).mono ?_
 rw [hlm, zPz hok]
 rintro e w' ⟨h | h, hb⟩
 ·obtain ⟨h0, g, rfl, hseg⟩ := h
  refine ⟨.inl ⟨g, rfl, zH0 (by rw [zPz hok]; exact h0) (fun r hr v hv => ?_), hseg⟩, hb⟩
  rw [<- hlm] at hr
  obtain ⟨l, hl, rfl⟩ := Qn.1 hr
  obtain ⟨t, ht, rfl⟩ := Qn.1 hv
  exact ⟨(hsml l hl t ht).1, h8 l hl t ht⟩
 ·refine ⟨.inr ⟨?_, h.2⟩, hb⟩
  have := h.1
  rw [decide_eq_false_iff_not] at this
  omega
end Go.Proofs.YtmpgnjhgegbdkaaGreat
