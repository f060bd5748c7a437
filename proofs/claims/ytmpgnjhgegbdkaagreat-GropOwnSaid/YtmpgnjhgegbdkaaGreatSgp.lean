import Derived.Test.YtmpgnjhgegbdkaaGreatSgn
import Derived.Test.YtmpgnjhgegbdkaaGreatZsafem
import Derived.Test.YtmpgnjhgegbdkaaGreatSgj
set_option linter.unusedVariables false
set_option linter.unusedSimpArgs false
set_option maxRecDepth 100000
set_option maxHeartbeats 8000000
open Go.Lib (hid)
namespace Go.Proofs.YtmpgnjhgegbdkaaGreat
open Go.RowKit
open _root_.List renaming map_cons -> Qa, getElem?_eq_getElem -> Qb, getElem?_eq_some_iff -> Qc, length -> Qd, getElem?_cons_zero -> Qe, mem_singleton -> Qg, getElem?_map -> Qh, flatten_cons -> Qi
open _root_.Option renaming map_some -> Qf
theorem zS6 (cols : List Co) (hok : ColsOk cols) (l : List Int) (sv : Value) (oa : Option Addr) (ln oc : Nat) (hln : ln = l.length) (w : World) (hv : RdC w sv cols) (hr : Rd w (.slice oa ln oc) (l.map (Value.int .i64))) :
  Calls Tryz.prog 18 #[.agg #[sv], .slice oa ln oc] w fun e w' => ∃ (ao : Option Addr) (cap : Nat) (sls : List Value) (L : List (List (Vc × Value))), e = .returned (.slice ao L.length cap) ∧ L.map (fun x => x.map Prod.fst) = rows9 cols l ∧ RowsB (w.heap.size + 1) w' (.slice ao L.length cap) sls L ∧ w.heap.size < w'.heap.size ∧ Below w.heap.size w w' := by
 obtain ⟨sa, sc, rfl⟩ := zBs hv
 obtain ⟨n, hN⟩ : ∃ n, n = cols.length := ⟨_, rfl⟩
 rw [<- hN] at hv ⊢
 have HN := hid hN
 have HV := hid hv
 have HR := hid hr
 have HLN := hid hln
 have HOK := hid hok
 have hn0 : 0 < n := by rw [hN]; exact hok.ne
 have hn0i : (0 : Int) < (n : Int) := by omega
 have b1 : ∀ x, bits .and .i64 x 1 = x % 2 := fun x => zC8 x 1 (by decide) 1 rfl
 clear hN hv hr hln hok
 go_enter Tryz.func18, Tryz.ntmps18
 go_upto_region 1 with (fail)
 obtain ⟨W, hW⟩ : ∃ W : World, W = w.alloc (.cells #[.slice sa n sc] 24) := ⟨_, rfl⟩
 rw [<- hW]
 have HX0 := hid (show W.heap[w.heap.size]? = some (.cells #[.slice sa n sc] 24 (0, 0)) by rw [hW]; exact heap_alloc_new w _)
 have HB0 := hid (show Below w.heap.size w W by rw [hW]; exact zAd w _)
 obtain ⟨SB, hSB⟩ : ∃ SB, SB = w.heap.size := ⟨_, rfl⟩
 have HWS := hid (show W.heap.size = w.heap.size + 1 by rw [hW]; simp)
 rw [<- hSB] at HX0 ⊢
 clear hW hSB
 go_wp2_with fail
 go_loopw [5, 6] (fun o i wr => ∃ (q : Nat) (ao : Option Addr) (cap : Nat) (sls : List Value) (L : List (List (Vc × Value))), q <= 40 ∧ q <= ln ∧ i = .int .i64 (q : Int) ∧ o = .slice ao q cap ∧ L.length = q ∧ L.map (fun x => x.map Prod.fst) = (rows9 cols l).take q ∧ RowsB W.heap.size wr (.slice ao q cap) sls L ∧ Below W.heap.size W wr) (fun _ i _ => 40 - (intOf i).toNat)
 case atStart => exact ⟨0, none, 0, [], [], by omega, Nat.zero_le _, rfl, rfl, rfl, by simp, zP8 _ _, Below.refl _ _⟩
 case round =>
  obtain ⟨q, ao, cap, sls, L, hq, hql, rfl, rfl, hll, hlm, hown, hb⟩ := hrel
  have HLL := hid hll
  have HLM := hid hlm
  have HO := hid hown
  have HB := hid hb
  have HXr := hid ((hb.block SB (Array.getElem?_eq_some_iff.1 HX0.out).1).trans HX0.out)
  have HBw := hid (zAa HB0.out hb)
  clear hll hlm hown hb
  by_cases hlt : q < ln ∧ q < 40
  ·obtain ⟨hlt1, hlt2⟩ := hlt
   have hd1 : decide ((q : Int) < (ln : Int)) = true := by rw [decide_eq_true_eq]; omega
   have hd1n : decide (q < ln) = true := by rw [decide_eq_true_eq]; omega
   have hd1i : (q : Int) < (ln : Int) := by omega
   have hd2 : decide ((q : Int) < 40) = true := by rw [decide_eq_true_eq]; omega
   have hl0 : (0 : Int) <= (q : Int) := by omega
   obtain ⟨b, off, rfl, hcells⟩ := (zJl (HR.out.kept HBw.out)).2 (by omega)
   have hcn := hcells q hlt1
   obtain ⟨rn, hrn⟩ : ∃ rn, rn = l.getD q 0 := ⟨_, rfl⟩
   rw [<- hrn] at hcn
   have HRN := hid (show l[q]? = some rn by rw [hrn, List.getD_eq_getElem?_getD, Qb (by rw [<- HLN.out]; exact hlt1)]; rfl)
   have hcs : wr.cell? ⟨SB, 0, none⟩ = some (.slice sa n sc) := by rw [cell_of_row wr SB 0 _ _ _ HXr.out]; rfl
   have HROW := hid fun W (h : Below wr.heap.size wr W) => zM9 (.slice sa n sc) cols HOK.out.ne rn W (RdC.kept (RdC.kept HV.out HBw.out) h) HOK.out.le
   rw [<- HN.out] at HROW
   clear hcells hrn
   go_upto_region 5 with (fail)
   go_region_law (go_simp; go_at_call 14; refine (HROW.out _ ?_).mono ?_; (exact zAm _ _); rintro e w2 ⟨rg, rc, rl, rfl, hrl, hrown, hrv, hb2⟩; have HRL := hid hrl; have HRO := hid hrown; have HRV := hid hrv; have HB2R := hid (show Below wr.heap.size wr w2 from (zAm _ wr).trans hb2); have hcn2 : w2.cell? ⟨b, off + q, none⟩ = some (.int .i64 rn) := (HB2R.out.cell (World.block_lt_of_cell? _ _ hcn)).trans hcn; have hrc2 : ∃ u, w2.cell? ⟨rg, 2, none⟩ = some u := ⟨_, (hrown.cellAt 2 (by omega)).trans (Qb (by have := hrown.1; omega))⟩; obtain ⟨ru, hrc3⟩ := hrc2; have hrf := hrown.frozenAt 2; clear hrl hrown hrv hb2)
   all_goals
    go_upto_region 7 with (fail)
    obtain ⟨t0, rr, hl0c⟩ : ∃ t0 rr, rl = t0 :: rr := by
     have hrl := HRL.out
     match rl, hrl with
     | [], h => exact absurd (congrArg Qd h) (by rw [zDa, <- HN.out]; simp; omega)
     | t :: r, _ => exact ⟨t, r, rfl⟩
    obtain ⟨w3, hw3⟩ : ∃ w3, w3 = w2.setCell ⟨rg, 2, none⟩ (.int .i64 ((q : Int) * 3 + rn % 2)) := ⟨_, rfl⟩
    rw [<- hw3]
    have hrg : wr.heap.size <= rg := (HRO.out.lt rg rfl).1
    have HB3 := hid (show Below wr.heap.size wr w3 by rw [hw3]; exact HB2R.out.setCell (p := ⟨rg, 2, none⟩) hrg _)
    have HPL := hid (show L.map (fun x => x.map Prod.fst) ++ [((⟨t0.1.u, t0.1.k, (q : Int) * 3 + rn % 2, t0.1.b⟩, t0.2) :: rr : List (Vc × Value)).map Prod.fst] = (rows9 cols l).take (q + 1) by
     rw [HLM.out, List.take_add_one]
     unfold rows9
     rw [List.getElem?_mapIdx, List.getElem?_take_of_lt hlt2, HRN.out]
     have h1 := HRL.out
     rw [hl0c, Qa] at h1
     obtain ⟨c, hc⟩ : ∃ c, cols[0]? = some c := ⟨_, Qb HOK.out.ne⟩
     have he := zF9 cols rn 0
     rw [hc, <- h1] at he
     simp only [Qe, Qf, Option.some.injEq] at he
     have hu : t0.1 = ⟨false, 1, rn % 16, []⟩ := by rw [he]; rfl
     simp only [Qf, Option.toList_some]
     rw [<- h1, List.set_cons_zero, Qa, hu])
    obtain ⟨L2, hL2⟩ : ∃ L2, L2 = ((⟨t0.1.u, t0.1.k, (q : Int) * 3 + rn % 2, t0.1.b⟩, t0.2) :: rr : List (Vc × Value)) := ⟨_, rfl⟩
    rw [<- hL2] at HPL
    have hL2n : L2.length = n := by
     have := congrArg Qd HRL.out
     rw [hl0c, List.length_map, zDa, <- HN.out] at this
     rw [hL2, <- this]
     rfl
    have HROW3 := hid (show w3.ownsRow wr.heap.size 31 4 (.slice (some ⟨rg, 0, none⟩) n rc) L2.length (L2.map cellsV).flatten from by
     have hst := (HRO.out.stored 2 (.int .i64 ((q : Int) * 3 + rn % 2))).1
     rw [hl0c, zJv, <- hw3] at hst
     rw [hL2n, hL2]
     exact hst)
    have HV3 := hid (show ∀ t ∈ L2, RdB wr.heap.size w3 t.2 t.1.b ∧ (∀ x ∈ t.1.b, x < 256) ∧ FarV rg t from fun t ht => by
     rw [hL2] at ht
     rcases List.mem_cons.1 ht with rfl | h
     ·obtain ⟨h1, h2, h3⟩ := HRV.out t0 (by rw [hl0c]; exact List.mem_cons_self)
      rw [hw3]
      exact ⟨zHr h1 h3, h2, h3⟩
     ·obtain ⟨h1, h2, h3⟩ := HRV.out t (by rw [hl0c]; exact List.mem_cons_of_mem _ h)
      rw [hw3]
      exact ⟨zHr h1 h3, h2, h3⟩)
    have HOWN := hid (show (w3.alloc (.cells #[.slice (some ⟨rg, 0, none⟩) n rc] 27)).ownsRow W.heap.size 27 1 (.slice ao q cap) q sls from by
     have h := (HO.out.kept HB3.out).own
     rw [HLL.out] at h
     exact h.alloc _)
    have HRD := hid (zBa w3 #[.slice (some ⟨rg, 0, none⟩) n rc] 27 1 rfl)
    have HON := hid (show Ones 1 [[Value.slice (some ⟨rg, 0, none⟩) n rc]] from fun t ht => by rw [Qg.1 ht]; exact ⟨rfl, fun u hu => by rw [Qg.1 hu]; rfl⟩)
    have HSZ := hid (show W.heap.size <= (w3.alloc (.cells #[.slice (some ⟨rg, 0, none⟩) n rc] 27)).heap.size by have := HB.out.size; have := HB3.out.size; simp; omega)
    clear hw3 hrg hl0c hL2 hL2n hcn2 hrc3 hrf
    go_wp2_with (at_builtin; go_must (refine zAf zNa rfl _ _ rfl W.heap.size _ _ _ rfl HOWN.out _ [[.slice (some ⟨rg, 0, none⟩) n rc]] rfl HRD.out HON.out (by simp; omega) HSZ.out (q + 1) rfl ?_); intro ao4 cap4 w4 hown4 hgrow4 hnew4; have HO4 := hid hown4; have HG4 := hid hgrow4; have HN4 := hid hnew4; clear hown4 hgrow4 hnew4)
    go_roundw
    case rel =>
     refine ⟨q + 1, ao4, cap4, sls ++ [.slice (some ⟨rg, 0, none⟩) n rc], L ++ [L2], by omega, by omega, by go_num, rfl, by rw [List.length_append, HLL.out]; rfl, by rw [List.map_append]; exact HPL.out, ?_, ?_⟩
     ·exact RowsB.add HO.out HB.out.size HB3.out rfl HROW3.out HV3.out HG4.out HN4.out (by rw [HLL.out]; exact HO4.out)
     ·exact (zAa HB.out HB3.out).alloc (Nat.le_trans HB.out.size HB3.out.size) _ |>.grown HG4.out HSZ.out (zAg HOWN.out)
    case measure => simp [intOf]; omega
  ·have hd : (decide ((q : Int) < (ln : Int)) = false ∧ decide (q < ln) = false) ∨ (decide ((q : Int) < (ln : Int)) = true ∧ decide (q < ln) = true ∧ decide ((q : Int) < 40) = false ∧ decide (q < 40) = false) := by
    by_cases h : q < ln
    ·have h2 : ¬ q < 40 := fun h2 => hlt ⟨h, h2⟩
     exact .inr ⟨by rw [decide_eq_true_eq]; omega, by rw [decide_eq_true_eq]; omega, by rw [decide_eq_false_iff_not]; omega, by rw [decide_eq_false_iff_not]; omega⟩
    ·exact .inl ⟨by rw [decide_eq_false_iff_not]; omega, by rw [decide_eq_false_iff_not]; omega⟩
   have HF := hid (show L.map (fun x => x.map Prod.fst) = rows9 cols l by
    rw [HLM.out, List.take_of_length_le]
    unfold rows9
    rw [List.length_mapIdx, List.length_take, <- HLN.out]
    by_cases h : q < ln
    ·have h2 : ¬ q < 40 := fun h2 => hlt ⟨h, h2⟩
     omega
    ·omega)
   clear hlt
   rcases hd with ⟨hd1, hd2⟩ | ⟨hd1, hd2, hd3, hd4⟩
   all_goals
    go_wp2_with fail
    go_ret
    exact ⟨ao, cap, sls, L, (by rw [HLL.out]; rfl), HF.out, by rw [HLL.out, <- HWS.out]; exact HO.out, by have := HB.out.size; have := HWS.out; omega, HBw.out⟩
theorem zOr : ∀ x : List Vc, sameR x x = true
 | [] => rfl
 | a :: r => by rw [sameR, zOr r, Bool.and_true]; simp [sameT]
theorem OwnW.at_ {B G m c k : Nat} {w : World} {l : List (Vc × Value)} (h : OwnW B w (.slice (some ⟨G, 0, none⟩) m c) l) (hm : l.length = m) {t : Vc × Value} (ht : l[k]? = some t) :
  w.cell? ⟨G, k * 4, none⟩ = some (.bool t.1.u) ∧ w.cell? ⟨G, k * 4 + 1, none⟩ = some (.int .i64 t.1.k) ∧ w.cell? ⟨G, k * 4 + 2, none⟩ = some (.int .i64 t.1.n) ∧ w.cell? ⟨G, k * 4 + 3, none⟩ = some t.2 := by
 subst hm
 have hk := (Qc.1 ht).1
 have hfl : ∀ t ∈ l.map cellsV, t.length = 4 := fun t ht => by obtain ⟨c, _, rfl⟩ := List.mem_map.1 ht; rfl
 have hcell : ∀ j u, j < 4 -> (cellsV t)[j]? = some u -> w.cell? ⟨G, k * 4 + j, none⟩ = some u := fun j u hj hu => by
  have h1 := zDi (l.map cellsV) 4 hfl k (cellsV t) j u (by rw [Qh, ht]; rfl) hu
  exact (h.row.cellAt (k * 4 + j) (by omega)).trans h1
 exact ⟨hcell 0 _ (by decide) rfl, hcell 1 _ (by decide) rfl, hcell 2 _ (by decide) rfl, hcell 3 _ (by decide) rfl⟩
theorem zKd {B g sz n : Nat} {E : TypeId} {w w' : World} {v : Value} {xs : List Value} (h : w.ownsRow B E sz v n xs) (ha : Agree (fun b => b = g) w w') (hx : v.ownBlock ≠ some g) : w'.ownsRow B E sz v n xs :=
 zAe h ha fun i hi e => hx (by rw [hi, e])
theorem zL8 : ∀ (l : List (Vc × Value)) (k : Nat) (t : Vc × Value) (x : Int), l[k]? = some t -> ((l.map cellsV).flatten).set (k * 4 + 2) (.int .i64 x) = ((l.set k (⟨t.1.u, t.1.k, x, t.1.b⟩, t.2)).map cellsV).flatten
 | [], k, t, x, h => by simp at h
 | a :: r, 0, t, x, h => by
  simp only [Qe, Option.some.injEq] at h
  subst h
  obtain ⟨⟨u, k, n, b⟩, s⟩ := a
  rfl
 | a :: r, k + 1, t, x, h => by
  have ih := zL8 r k t x (by simpa using h)
  have h4 : (cellsV a).length = 4 := rfl
  rw [List.set_cons_succ, Qa, Qi, Qa, Qi, <- ih, List.set_append_right _ _ (by omega), h4, show (k + 1) * 4 + 2 - 4 = k * 4 + 2 by omega]
theorem OwnW.int {B G m c k : Nat} {w : World} {l : List (Vc × Value)} (h : OwnW B w (.slice (some ⟨G, 0, none⟩) m c) l) (hm : l.length = m) {t : Vc × Value} (ht : l[k]? = some t) (x : Int) :
  OwnW B (w.setCell ⟨G, k * 4 + 2, none⟩ (.int .i64 x)) (.slice (some ⟨G, 0, none⟩) m c) (l.set k (⟨t.1.u, t.1.k, x, t.1.b⟩, t.2)) := by
 subst hm
 have hk := (Qc.1 ht).1
 have hag : Agree (fun b => b = G) w (w.setCell ⟨G, k * 4 + 2, none⟩ (.int .i64 x)) := zBl _ w ⟨G, k * 4 + 2, none⟩ _ rfl
 have hap : ∀ t2 ∈ l, t2.2.ownBlock ≠ some G := fun t2 h2 e => by
  obtain ⟨i, hi⟩ := List.getElem?_of_mem h2
  have := h.apart 0 (i + 1) _ t2.2 G rfl (by simp [Qh, hi]) rfl e
  omega
 have hsn : (l.set k (⟨t.1.u, t.1.k, x, t.1.b⟩, t.2)).map Prod.snd = l.map Prod.snd := by
  rw [List.map_set]
  refine List.ext_getElem (by simp) fun i h1 h2 => ?_
  rw [List.getElem_set]
  split
  ·next e =>
   subst e
   have := (Qc.1 ht).2
   rw [List.getElem_map, this]
  ·rfl
 refine ⟨?_, fun t2 h2 => ?_, by rw [hsn]; exact h.apart⟩
 ·rw [List.length_set]
  have := (h.row.stored (k * 4 + 2) (.int .i64 x)).1
  have e := zL8 l k t x ht
  rw [e] at this
  exact this
 ·rcases List.mem_or_eq_of_mem_set h2 with h2 | rfl
  ·exact ⟨zKd (h.els t2 h2).1 hag (hap t2 h2), (h.els t2 h2).2⟩
  ·have h3 := List.mem_of_getElem? ht
   exact ⟨zKd (h.els t h3).1 hag (hap t h3), (h.els t h3).2⟩
end Go.Proofs.YtmpgnjhgegbdkaaGreat
