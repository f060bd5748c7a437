import Derived.Test.YtmpgnjhgegbdkaaGreatSgm
import Derived.Test.YtmpgnjhgegbdkaaGreatZof
import Derived.Test.YtmpgnjhgegbdkaaGreatZsafem
import Derived.Test.YtmpgnjhgegbdkaaGreatNullg
set_option linter.unusedVariables false
set_option linter.unusedSimpArgs false
set_option maxRecDepth 100000
set_option maxHeartbeats 8000000
open Go.Lib (hid)
namespace Go.Proofs.YtmpgnjhgegbdkaaGreat
open Go.RowKit
open _root_.List renaming map_append -> Qa, length_map -> Qc, getElem?_eq_getElem -> Qe, length_set -> Qf, take_of_length_le -> Qg, getElem?_map -> Qi, mem_of_getElem? -> Qj, mem_singleton -> Qk, take_add_one -> Ql
open Go.World renaming setCell -> Qb
open _root_.Nat renaming le_refl -> Qd, le_trans -> Qh, zero_le -> Qm
open Go.RowKit.Below renaming refl -> Qn
theorem zLv (xs : List Value) (q : Nat) (u : Value) (h : q < xs.length) : (xs.set q u).take (q + 1) = xs.take q ++ [u] := by
 rw [List.take_succ_eq_append_getElem (i := q) (by rw [Qf]; exact h), List.getElem_set_self, List.take_set_of_le (Qd _)]
theorem zLw {L : List (List (Vc × Value))} {c q : Nat} {l : List (Vc × Value)} {t : Vc × Value} (hl : L[q]? = some l) (ht : l[c]? = some t) : (colVs (L.map fun l => l.map Prod.fst) c)[q]? = some t.1 := by
 unfold colVs
 rw [Qi, Qi, hl]
 simp only [Option.map_some]
 rw [List.getD_eq_getElem?_getD, Qi, ht]
 rfl
theorem zJy {vs : List Vc} {q : Nat} {v : Vc} (h : vs[q]? = some v) : nulT (vs.take (q + 1)) = nulT (vs.take q) ++ [v.u] := by
 unfold nulT
 rw [Ql, h, Qa]
 rfl
theorem zFg {vs : List Vc} {q : Nat} {v : Vc} (h : vs[q]? = some v) : thrT (vs.take (q + 1)) = thrT (vs.take q) ++ (if v.u = true then [] else [v]) := by
 unfold thrT
 rw [Ql, h, List.filter_append]
 cases hu : v.u <;> simp [hu]
theorem zP1 (vs : List Vc) (q : Nat) : (thrT (vs.take q)).length <= q := by
 have := zDf (vs.take q)
 rw [List.length_take] at this
 omega
theorem zSl (c : Nat) (hc6 : c <= 1000) (L : List (List (Vc × Value))) (hL : L.length <= 100) (rv : Value) (w : World) (hr : RdRs w rv L) (hc : ∀ l ∈ L, c < l.length ∧ l.length <= 1000) (hv : ∀ v ∈ colVs (L.map fun l => l.map Prod.fst) c, ColV 1 v) :
  Calls Tryz.prog 45 #[.int .i64 1, .int .i64 (c : Int), rv] w fun e w' => ∃ v, e = .returned v ∧ OwnB w.heap.size w' v (scolT 1 (colVs (L.map fun l => l.map Prod.fst) c)) ∧ Below w.heap.size w w' := by
 obtain ⟨ra, rc, rfl⟩ := zDo hr
 have hat : ∀ (q : Nat) (l : List (Vc × Value)) (t : Vc × Value), L[q]? = some l -> l[c]? = some t -> (colVs (L.map fun l => l.map Prod.fst) c)[q]? = some t.1 := fun q l t h1 h2 => zLw h1 h2
 have hvl : (colVs (L.map fun l => l.map Prod.fst) c).length = L.length := by rw [zD8, Qc]
 obtain ⟨n, hN⟩ : ∃ n, n = L.length := ⟨_, rfl⟩
 obtain ⟨vs, hvs⟩ : ∃ vs, vs = colVs (L.map fun l => l.map Prod.fst) c := ⟨_, rfl⟩
 rw [<- hvs] at hv hat hvl ⊢
 rw [<- hN] at hr hL hvl ⊢
 have HN := hid hN
 have HV := hid hv
 have HR := hid hr
 have HC := hid hc
 have HAT := hid hat
 have HVL := hid hvl
 clear hN hvs hv hr hc hat hvl
 obtain ⟨i0, hi, hz0, hz1, hz2⟩ := info_parts zIp
 go_enter Tryz.func45, Tryz.ntmps45
 go_wp2_with (at_make; go_must (refine wpList_make_full _ rfl _ _ 129 rfl w.heap.size 4 i0 (.bool false) 1 Tryz.underlying129 hi hz0 hz1 .i64 .i64 _ _ n rfl rfl rfl rfl (by rw [hz2]; omega) (by unfold maxLen; omega) (Qd _) ?_); intro w1 hown1 hgrow1)
 obtain ⟨xs0, hown2⟩ : ∃ xs0, w1.ownsRow w.heap.size 4 1 (.slice (some ⟨w.heap.size, 0, none⟩) n n) n xs0 := ⟨_, hown1⟩
 have HO1 := hid hown2
 have HB1 := hid (show Below w.heap.size w w1 from ⟨hgrow1.os, hgrow1.tape, hgrow1.output, hgrow1.size, fun i hi => hgrow1.block i hi (by simp)⟩)
 have hGi := zI4 hown2
 have HGI := hid hGi
 clear hown1 hown2 hgrow1 hGi hi hz0 hz1 hz2
 obtain ⟨G, hG⟩ : ∃ G, G = w.heap.size := ⟨_, rfl⟩
 have HGG := hid hG
 rw [<- hG] at HO1 HGI ⊢
 clear hG
 go_wp2_with fail
 go_loopw [8, 19] (fun o i wr => ∃ (q : Nat) (xs : List Value), q <= n ∧ i = .int .i64 (q : Int) ∧ xs.length = n ∧ xs.take q = (nulT (vs.take q)).map boolv ∧ wr.ownsRow G 4 1 (.slice (some ⟨G, 0, none⟩) n n) n xs ∧ (OwnI (G + 1) wr o (intT (vs.take q))) ∧ G < wr.heap.size ∧ Below w.heap.size w wr) (fun _ i _ => n - (intOf i).toNat)
 case atStart => exact ⟨0, xs0, Qm _, rfl, by simpa using HO1.out.1, rfl, HO1.out, zH7 _ _, HGI.out, HB1.out⟩
 case round =>
  obtain ⟨q, xs, hq, rfl, hxl, hxt, hown, hrow, hgs, hb⟩ := hrel
  obtain ⟨oa, oc, rfl⟩ := hrow.shape
  obtain ⟨m, hm⟩ : ∃ m, m = (intT (vs.take q)).length := ⟨_, rfl⟩
  have HROW := hid hrow
  rw [<- hm] at HROW ⊢
  have hmq : m <= q := by rw [hm, zF1]; exact zP1 vs q
  have HM := hid hm
  clear hrow hm
  have HXL := hid hxl
  have HXT := hid hxt
  have HO := hid hown
  have HGS := hid hgs
  have HB := hid hb
  clear hxl hxt hown hgs hb
  by_cases hlt : q < n
  ·obtain ⟨l, hl⟩ : ∃ l, L[q]? = some l := ⟨_, Qe (by rw [<- HN.out]; exact hlt)⟩
   obtain ⟨hcl, hl6⟩ := HC.out l (Qj hl)
   obtain ⟨t, ht⟩ : ∃ t, l[c]? = some t := ⟨_, Qe hcl⟩
   have hvq := HAT.out q l t hl ht
   have hbl := HB.out
   obtain ⟨b, off, sa, sc, rfl, hcell, hrp⟩ := (HR.out.kept hbl).at hl
   have hrp0 := hrp
   obtain ⟨b2, off2, rfl, p0, p1, p2, p3, ok⟩ := hrp.at ht
   obtain ⟨ml, hml⟩ : ∃ ml, ml = l.length := ⟨_, rfl⟩
   rw [<- hml] at hcell hcl hl6
   obtain ⟨ta, tc, hts⟩ := zAz ok.1
   have HOK := hid ok
   have HVQ := hid hvq
   have hx : ∃ u, wr.cell? ⟨G, q, none⟩ = some u := ⟨_, (HO.out.cellAt q (by omega)).trans (Qe (by rw [HXL.out]; exact hlt))⟩
   obtain ⟨ux, hux⟩ := hx
   have hfx := HO.out.frozenAt q
   have hGl : G < wr.heap.size := HGS.out
   obtain ⟨⟨tu, tk, tn, tb⟩, ts⟩ := t
   simp only at hts p0 p1 p2 p3
   subst hts
   clear hl ht hrp hrp0 ok hvq hbl hml
   have HNL := hid (show (nulT (vs.take q)).map boolv ++ [.bool tu] = (nulT (vs.take (q + 1))).map boolv by rw [zJy HVQ.out, Qa]; rfl)
   have HXS := hid (show (xs.set q (.bool tu)).take (q + 1) = (nulT (vs.take (q + 1))).map boolv by rw [zLv xs q _ (by rw [HXL.out]; exact hlt), HXT.out]; exact HNL.out)
   have HSTO := hid fun o => (HO.out.stored q (.bool tu)).1.alloc o
   cases tu
   ·have HTH := hid (show intT (vs.take (q + 1)) = intT (vs.take q) ++ [tn] by unfold intT; rw [zFg HVQ.out, Qa]; rfl)
    have HAP := hid (fun (w' : World) => zBa w' #[.int .i64 tn] 2 1 rfl)
    have HON := hid (show Ones 1 [[Value.int .i64 tn]] from fun t ht => by rw [Qk.1 ht]; exact ⟨rfl, fun u hu => by rw [Qk.1 hu]; rfl⟩)
    have HRO := hid (fun o (w2 : World) (hg : wr.grownBy w2 (some G)) => (HROW.out.kept hg (by cases h : (Value.slice oa m oc).ownBlock with | none => exact .inl rfl | some g => exact .inr (fun e => by have := (HROW.out.lt g h).1; cases e; omega))).alloc o)
    go_upto_region 12 with (fail)
    obtain ⟨w3, hw3⟩ : ∃ w3, w3 = (wr.setCell ⟨G, q, none⟩ (.bool false)).alloc (.cells #[.bool false, .int .i64 tk, .int .i64 tn, .slice ta tb.length tc] 31) := ⟨_, rfl⟩
    rw [<- hw3]
    have hx3 : w3.heap[wr.heap.size]? = some (.cells #[.bool false, .int .i64 tk, .int .i64 tn, .slice ta tb.length tc] 31 (0, 0)) := by have h := heap_alloc_new (wr.setCell ⟨G, q, none⟩ (.bool false)) (.cells #[.bool false, .int .i64 tk, .int .i64 tn, .slice ta tb.length tc] 31); rw [show (wr.setCell ⟨G, q, none⟩ (.bool false)).heap.size = wr.heap.size by simp [Qb]] at h; rw [hw3]; exact h
    have HO3 := hid (show w3.ownsRow G 4 1 (.slice (some ⟨G, 0, none⟩) n n) n (xs.set q (.bool false)) by rw [hw3]; exact HSTO.out _)
    have HR3 := hid (show OwnI (G + 1) w3 (.slice oa m oc) (intT (vs.take q)) from OwnI.of (by rw [hw3]; exact HRO.out _ _ (zAi _ _ _)))
    have HS3 := hid (show wr.heap.size + 1 = w3.heap.size by rw [hw3]; simp [Qb])
    have HB3 := hid (show Below w.heap.size w w3 by rw [hw3]; exact (HB.out.setCell (p := ⟨G, q, none⟩) (by show _ <= G; rw [HGG.out]; exact Qd _) _).alloc (by have := HB.out.size; simp [Qb]; omega) _)
    have c2 : w3.cell? ⟨wr.heap.size, 2, none⟩ = some (.int .i64 tn) := by rw [cell_of_row w3 _ 2 _ _ _ hx3]; rfl
    obtain ⟨XB, hXB⟩ : ∃ XB, XB = wr.heap.size := ⟨_, rfl⟩
    rw [<- hXB] at c2 ⊢
    have HXB := hid hXB
    clear hw3 hx3 p0 p1 p2 p3 hcell hux hfx hXB
    have HR3b := hid (show w3.ownsRow (G + 1) 2 1 (.slice oa m oc) m ((intT (vs.take q)).map (Value.int .i64)) by have h := HR3.out; unfold OwnI at h; rw [<- HM.out] at h; exact h)
    have HSZ := hid (show G + 1 <= (w3.alloc (.cells #[.int .i64 tn] 2)).heap.size by have h1 := HS3.out; simp; omega)
    have HOA := hid (HR3b.out.alloc (.cells #[.int .i64 tn] 2))
    go_wp2_with (at_builtin; go_must (refine zAf zG2 rfl _ _ rfl (G + 1) _ _ _ rfl HOA.out _ [[.int .i64 tn]] rfl (HAP.out _) HON.out (by simp; omega) HSZ.out (m + 1) rfl ?_); intro ao4 cap4 w4 hown4 hgrow4 hnew4; have HO4 := hid hown4; have HG4 := hid hgrow4; have HN4 := hid hnew4; clear hown4 hgrow4 hnew4)
    go_roundw
    case rel =>
     have hg := HG4.out
     have hgn : ∀ k, (Value.slice oa m oc).ownBlock = some k -> G + 1 <= k := zAg HOA.out
     refine ⟨q + 1, xs.set q (.bool false), by omega, by go_num, by rw [Qf]; exact HXL.out, HXS.out, ?_, ?_, ?_, ?_⟩
     ·exact (HO3.out.alloc _).kept hg (.inr fun e => by have := hgn G e.symm; omega)
     ·rw [HTH.out]
      refine OwnI.of (n := m + 1) ?_
      rw [Qa]
      exact HO4.out
     ·have h1 := hg.size; have h2 := HS3.out; simp at h1; omega
     ·exact (HB3.out.alloc HB3.out.size _).grown hg (by have := HB3.out.size; simp; omega) (fun k e => by have := hgn k e; have := HGG.out; omega)
    case measure => simp [intOf]; omega
   ·have HTH := hid (show intT (vs.take (q + 1)) = intT (vs.take q) by unfold intT; rw [zFg HVQ.out, Qa]; simp)
    have HRO := hid (fun o (w2 : World) (hg : wr.grownBy w2 (some G)) => (HROW.out.kept hg (by cases h : (Value.slice oa m oc).ownBlock with | none => exact .inl rfl | some g => exact .inr (fun e => by have := (HROW.out.lt g h).1; cases e; omega))).alloc o)
    go_wp2_with fail
    go_roundw
    case rel =>
     refine ⟨q + 1, xs.set q (.bool true), by omega, by go_num, by rw [Qf]; exact HXL.out, HXS.out, HSTO.out _, ?_, ?_, ?_⟩
     ·rw [HTH.out]
      exact OwnI.of (HRO.out _ _ (zAi _ _ _))
     ·simp [Qb]; omega
     ·exact (HB.out.setCell (p := ⟨G, q, none⟩) (by show _ <= G; rw [HGG.out]; exact Qd _) _).alloc (by have := HB.out.size; simp [Qb]; omega) _
    case measure => simp [intOf]; omega
  ·have hqn : q = n := by omega
   have htk : vs.take q = vs := Qg (by rw [HVL.out]; omega)
   have hxn : xs = (nulT vs).map boolv := by
    have h := HXT.out
    rw [htk, Qg (by rw [HXL.out]; omega)] at h
    exact h
   have HNU := hid (show Rd wr (.slice (some ⟨G, 0, none⟩) n n) ((nulT vs).map boolv) by rw [<- hxn]; exact Rd.of_owns HO.out)
   have hrw := HROW.out
   rw [htk] at hrw
   have hmi := HM.out
   rw [htk] at hmi
   have HRI := hid (show Rd wr (.slice oa m oc) ((intT vs).map (.int .i64)) from hrw.rd)
   have HENC := hid fun W (h : Below wr.heap.size wr W) => zQ0 (intT vs) (.slice oa m oc) W (zJd HV.out) (by rw [<- hmi]; omega) (HRI.out.kept h)
   have HNC := hid fun W (h : Below wr.heap.size wr W) => zIq (.slice (some ⟨G, 0, none⟩) n n) (nulT vs) W (HNU.out.kept h) (by rw [zBe, HVL.out]; omega)
   have HBO := hid (show scolT 1 vs = encN (nulT vs) ++ bestN (intT vs) 4 from rfl)
   have HLN := hid (show (encN (nulT vs)).length <= 1020 from zHi _ (by rw [zBe, HVL.out]; omega))
   have HLB := hid (show (bestN (intT vs) 4).length <= 40001 from (zF2 (k := 1) (by decide) HV.out (by rw [HVL.out]; omega)).2)
   clear hqn htk hxn hrw hmi hmq
   go_wp2_with fail
   refine (HNC.out _ (Qn _ _)).mono ?_
   rintro e w2 ⟨ao, cap, rfl, ho2, hb2⟩
   have HO2 := hid ho2
   have HB2 := hid hb2
   obtain ⟨ne, hne⟩ : ∃ ne, ne = ((encN (nulT vs)).map u8v).length := ⟨_, rfl⟩
   have hne2 : ne <= 1020 := by rw [hne, Qc]; exact HLN.out
   rw [<- hne] at HO2 ⊢
   clear ho2 hb2 hne
   go_wp2_with fail
   refine (HENC.out _ HB2.out).mono ?_
   rintro e w3 ⟨v3, rfl, ho3, hb3⟩
   obtain ⟨a3, c3, rfl⟩ := ho3.shape
   obtain ⟨n3, hn3⟩ : ∃ n3, n3 = (bestN (intT vs) 4).length := ⟨_, rfl⟩
   have HY := hid (zAs ho3.rd)
   have HY1 := hid (zAr (zAq (bestN (intT vs) 4)))
   have hn4 : n3 <= 40001 := by rw [hn3]; exact HLB.out
   have HYL := hid (show (((bestN (intT vs) 4).map u8v).map fun u => [u]).length = n3 by rw [Qc, Qc, hn3])
   rw [<- hn3] at HY ⊢
   have HO3 := hid (show w3.ownsRow wr.heap.size 5 1 (.slice ao ne cap) ne ((encN (nulT vs)).map u8v) from HO2.out.kept (zAb hb3 none) (by cases h : (Value.slice ao ne cap).ownBlock with | none => exact .inl rfl | some g => exact .inr (by simp)))
   have HB3 := hid (zAa HB2.out hb3)
   have HSZ3 := hid (show wr.heap.size <= w3.heap.size from HB3.out.size)
   clear ho3 hb3 hn3
   go_wp2_with (at_builtin; go_must (refine zAf zBf rfl _ _ rfl wr.heap.size _ _ _ rfl HO3.out _ _ rfl HY.out HY1.out (by rw [HYL.out]; omega) HSZ3.out (ne + n3) (by rw [HYL.out]) ?_); intro ao4 cap4 w4 hown4 hgrow4 hnew4; have HO4 := hid hown4; have HG4 := hid hgrow4; clear hown4 hgrow4 hnew4)
   go_ret
   refine ⟨_, rfl, ?_, ?_⟩
   ·rw [HBO.out]
    refine OwnB.of (n := ne + n3) ?_
    have h := HO4.out
    rw [zAp] at h
    rw [Qa]
    exact Joins.ownsRow_le h HB.out.size
   ·exact (zAa HB.out HB3.out).grown HG4.out (Qh HB.out.size HB3.out.size) (fun k e => Qh HB.out.size (zAg HO3.out k e))
theorem zSm (c : Nat) (hc6 : c <= 1000) (L : List (List (Vc × Value))) (hL : L.length <= 100) (rv : Value) (w : World) (hr : RdRs w rv L) (hc : ∀ l ∈ L, c < l.length ∧ l.length <= 1000) (hv : ∀ v ∈ colVs (L.map fun l => l.map Prod.fst) c, ColV 2 v) :
  Calls Tryz.prog 45 #[.int .i64 2, .int .i64 (c : Int), rv] w fun e w' => ∃ v, e = .returned v ∧ OwnB w.heap.size w' v (scolT 2 (colVs (L.map fun l => l.map Prod.fst) c)) ∧ Below w.heap.size w w' := by
 obtain ⟨ra, rc, rfl⟩ := zDo hr
 have hat : ∀ (q : Nat) (l : List (Vc × Value)) (t : Vc × Value), L[q]? = some l -> l[c]? = some t -> (colVs (L.map fun l => l.map Prod.fst) c)[q]? = some t.1 := fun q l t h1 h2 => zLw h1 h2
 have hvl : (colVs (L.map fun l => l.map Prod.fst) c).length = L.length := by rw [zD8, Qc]
 obtain ⟨n, hN⟩ : ∃ n, n = L.length := ⟨_, rfl⟩
 obtain ⟨vs, hvs⟩ : ∃ vs, vs = colVs (L.map fun l => l.map Prod.fst) c := ⟨_, rfl⟩
 rw [<- hvs] at hv hat hvl ⊢
 rw [<- hN] at hr hL hvl ⊢
 have HN := hid hN
 have HV := hid hv
 have HR := hid hr
 have HC := hid hc
 have HAT := hid hat
 have HVL := hid hvl
 have HRW := hid (show ∀ (q : Nat) (l : List (Vc × Value)) (t : Vc × Value), L[q]? = some l -> l[c]? = some t -> OkV w t from fun q l t h1 h2 => by
  obtain ⟨b, off, sa, sc, _, _, hrp⟩ := hr.at h1
  exact hrp.2 t (Qj h2))
 clear hN hvs hv hr hc hat hvl
 obtain ⟨i0, hi, hz0, hz1, hz2⟩ := info_parts zIp
 go_enter Tryz.func45, Tryz.ntmps45
 go_wp2_with (at_make; go_must (refine wpList_make_full _ rfl _ _ 129 rfl w.heap.size 4 i0 (.bool false) 1 Tryz.underlying129 hi hz0 hz1 .i64 .i64 _ _ n rfl rfl rfl rfl (by rw [hz2]; omega) (by unfold maxLen; omega) (Qd _) ?_); intro w1 hown1 hgrow1)
 obtain ⟨xs0, hown2⟩ : ∃ xs0, w1.ownsRow w.heap.size 4 1 (.slice (some ⟨w.heap.size, 0, none⟩) n n) n xs0 := ⟨_, hown1⟩
 have HO1 := hid hown2
 have HB1 := hid (show Below w.heap.size w w1 from ⟨hgrow1.os, hgrow1.tape, hgrow1.output, hgrow1.size, fun i hi => hgrow1.block i hi (by simp)⟩)
 have hGi := zI4 hown2
 have HGI := hid hGi
 clear hown1 hown2 hgrow1 hGi hi hz0 hz1 hz2
 obtain ⟨G, hG⟩ : ∃ G, G = w.heap.size := ⟨_, rfl⟩
 have HGG := hid hG
 rw [<- hG] at HO1 HGI ⊢
 clear hG
 go_wp2_with fail
 go_loopw [9, 19] (fun o i wr => ∃ (q : Nat) (xs : List Value), q <= n ∧ i = .int .i64 (q : Int) ∧ xs.length = n ∧ xs.take q = (nulT (vs.take q)).map boolv ∧ wr.ownsRow G 4 1 (.slice (some ⟨G, 0, none⟩) n n) n xs ∧ (∃ ps : Bc.Row, Bc.OwnR (G + 1) wr o ps ∧ Bc.xs ps = txtT (vs.take q) ∧ Bc.Els w ps) ∧ G < wr.heap.size ∧ Below w.heap.size w wr) (fun _ i _ => n - (intOf i).toNat)
 case atStart => exact ⟨0, xs0, Qm _, rfl, by simpa using HO1.out.1, rfl, HO1.out, ⟨[], Bc.zLn _ _, rfl, fun p hp => by cases hp⟩, HGI.out, HB1.out⟩
 case round =>
  obtain ⟨q, xs, hq, rfl, hxl, hxt, hown, hrow, hgs, hb⟩ := hrel
  obtain ⟨ps, hrow, hpx, hpe⟩ := hrow
  obtain ⟨oa, oc, rfl⟩ := hrow.shape
  obtain ⟨m, hm⟩ : ∃ m, m = ps.length := ⟨_, rfl⟩
  have hmx : ps.length = (txtT (vs.take q)).length := by rw [<- hpx, Bc.zAt]
  have HROW := hid hrow
  have HPX := hid hpx
  have HPE := hid hpe
  rw [<- hm] at HROW ⊢
  have hmq : m <= q := by rw [hm, hmx, zHs]; exact zP1 vs q
  have HM := hid hm
  clear hrow hm hmx hpx hpe
  have HXL := hid hxl
  have HXT := hid hxt
  have HO := hid hown
  have HGS := hid hgs
  have HB := hid hb
  clear hxl hxt hown hgs hb
  by_cases hlt : q < n
  ·obtain ⟨l, hl⟩ : ∃ l, L[q]? = some l := ⟨_, Qe (by rw [<- HN.out]; exact hlt)⟩
   obtain ⟨hcl, hl6⟩ := HC.out l (Qj hl)
   obtain ⟨t, ht⟩ : ∃ t, l[c]? = some t := ⟨_, Qe hcl⟩
   have hvq := HAT.out q l t hl ht
   have hbl := HB.out
   obtain ⟨b, off, sa, sc, rfl, hcell, hrp⟩ := (HR.out.kept hbl).at hl
   have hrp0 := hrp
   obtain ⟨b2, off2, rfl, p0, p1, p2, p3, ok⟩ := hrp.at ht
   obtain ⟨ml, hml⟩ : ∃ ml, ml = l.length := ⟨_, rfl⟩
   rw [<- hml] at hcell hcl hl6
   obtain ⟨ta, tc, hts⟩ := zAz ok.1
   have HOK := hid ok
   have HVQ := hid hvq
   have HOKW := hid (HRW.out q l t hl ht).1
   have hx : ∃ u, wr.cell? ⟨G, q, none⟩ = some u := ⟨_, (HO.out.cellAt q (by omega)).trans (Qe (by rw [HXL.out]; exact hlt))⟩
   obtain ⟨ux, hux⟩ := hx
   have hfx := HO.out.frozenAt q
   have hGl : G < wr.heap.size := HGS.out
   obtain ⟨⟨tu, tk, tn, tb⟩, ts⟩ := t
   simp only at hts p0 p1 p2 p3
   subst hts
   clear hl ht hrp hrp0 ok hvq hbl hml
   have HNL := hid (show (nulT (vs.take q)).map boolv ++ [.bool tu] = (nulT (vs.take (q + 1))).map boolv by rw [zJy HVQ.out, Qa]; rfl)
   have HXS := hid (show (xs.set q (.bool tu)).take (q + 1) = (nulT (vs.take (q + 1))).map boolv by rw [zLv xs q _ (by rw [HXL.out]; exact hlt), HXT.out]; exact HNL.out)
   have HSTO := hid fun o => (HO.out.stored q (.bool tu)).1.alloc o
   cases tu
   ·have HTH := hid (show txtT (vs.take (q + 1)) = txtT (vs.take q) ++ [tb] by unfold txtT; rw [zFg HVQ.out, Qa]; rfl)
    have HAP := hid (fun (w' : World) => zBa w' #[.slice ta tb.length tc] 29 1 rfl)
    have HON := hid (Bc.zEz (.slice ta tb.length tc) rfl)
    have HRO := hid (fun o (w2 : World) (hg : wr.grownBy w2 (some G)) => (HROW.out.kept hg (by cases h : (Value.slice oa m oc).ownBlock with | none => exact .inl rfl | some g => exact .inr (fun e => by have := (HROW.out.lt g h).1; cases e; omega))).alloc o)
    have hk1 : ¬ ((2 : Int) = 1) := by decide
    go_upto_region 9 with (fail)
    obtain ⟨w3, hw3⟩ : ∃ w3, w3 = (wr.setCell ⟨G, q, none⟩ (.bool false)).alloc (.cells #[.bool false, .int .i64 tk, .int .i64 tn, .slice ta tb.length tc] 31) := ⟨_, rfl⟩
    rw [<- hw3]
    have hx3 : w3.heap[wr.heap.size]? = some (.cells #[.bool false, .int .i64 tk, .int .i64 tn, .slice ta tb.length tc] 31 (0, 0)) := by have h := heap_alloc_new (wr.setCell ⟨G, q, none⟩ (.bool false)) (.cells #[.bool false, .int .i64 tk, .int .i64 tn, .slice ta tb.length tc] 31); rw [show (wr.setCell ⟨G, q, none⟩ (.bool false)).heap.size = wr.heap.size by simp [Qb]] at h; rw [hw3]; exact h
    have HO3 := hid (show w3.ownsRow G 4 1 (.slice (some ⟨G, 0, none⟩) n n) n (xs.set q (.bool false)) by rw [hw3]; exact HSTO.out _)
    have HR3 := hid (show Bc.OwnR (G + 1) w3 (.slice oa m oc) ps from Bc.OwnR.of (by rw [hw3]; exact HRO.out _ _ (zAi _ _ _)))
    have HS3 := hid (show wr.heap.size + 1 = w3.heap.size by rw [hw3]; simp [Qb])
    have HB3 := hid (show Below w.heap.size w w3 by rw [hw3]; exact (HB.out.setCell (p := ⟨G, q, none⟩) (by show _ <= G; rw [HGG.out]; exact Qd _) _).alloc (by have := HB.out.size; simp [Qb]; omega) _)
    have c3 : w3.cell? ⟨wr.heap.size, 3, none⟩ = some (.slice ta tb.length tc) := by rw [cell_of_row w3 _ 3 _ _ _ hx3]; rfl
    obtain ⟨XB, hXB⟩ : ∃ XB, XB = wr.heap.size := ⟨_, rfl⟩
    rw [<- hXB] at c3 ⊢
    have HXB := hid hXB
    clear hw3 hx3 p0 p1 p2 p3 hcell hux hfx hXB
    have HR3b := hid (show w3.ownsRow (G + 1) 29 1 (.slice oa m oc) m (Bc.vs ps) by have h := HR3.out; unfold Bc.OwnR at h; rw [<- HM.out] at h; exact h)
    have HSZ := hid (show G + 1 <= (w3.alloc (.cells #[.slice ta tb.length tc] 29)).heap.size by have h1 := HS3.out; simp; omega)
    have HOA := hid (HR3b.out.alloc (.cells #[.slice ta tb.length tc] 29))
    go_wp2_with (at_builtin; go_must (refine zAf Bc.elmR rfl _ _ rfl (G + 1) _ _ _ rfl HOA.out _ [[.slice ta tb.length tc]] rfl (HAP.out _) HON.out (by simp; omega) HSZ.out (m + 1) rfl ?_); intro ao4 cap4 w4 hown4 hgrow4 hnew4; have HO4 := hid hown4; have HG4 := hid hgrow4; have HN4 := hid hnew4; clear hown4 hgrow4 hnew4)
    go_roundw
    case rel =>
     have hg := HG4.out
     have hgn : ∀ k, (Value.slice oa m oc).ownBlock = some k -> G + 1 <= k := zAg HOA.out
     have hok := HOKW.out
     refine ⟨q + 1, xs.set q (.bool false), by omega, by go_num, by rw [Qf]; exact HXL.out, HXS.out, ?_, ⟨ps ++ [(.slice ta tb.length tc, tb)], ?_, ?_, ?_⟩, ?_, ?_⟩
     ·exact (HO3.out.alloc _).kept hg (.inr fun e => by have := hgn G e.symm; omega)
     ·refine Bc.OwnR.of (n := m + 1) ?_
      rw [Bc.zEn]
      exact HO4.out
     ·rw [Bc.zDv, HPX.out, HTH.out]
     ·intro p hp
      rcases List.mem_append.1 hp with h | h
      ·exact HPE.out p h
      ·rw [Qk.1 h]
       exact hok
     ·have h1 := hg.size; have h2 := HS3.out; simp at h1; omega
     ·exact (HB3.out.alloc HB3.out.size _).grown hg (by have := HB3.out.size; simp; omega) (fun k e => by have := hgn k e; have := HGG.out; omega)
    case measure => simp [intOf]; omega
   ·have HTH := hid (show txtT (vs.take (q + 1)) = txtT (vs.take q) by unfold txtT; rw [zFg HVQ.out, Qa]; simp)
    have HRO := hid (fun o (w2 : World) (hg : wr.grownBy w2 (some G)) => (HROW.out.kept hg (by cases h : (Value.slice oa m oc).ownBlock with | none => exact .inl rfl | some g => exact .inr (fun e => by have := (HROW.out.lt g h).1; cases e; omega))).alloc o)
    go_wp2_with fail
    go_roundw
    case rel =>
     refine ⟨q + 1, xs.set q (.bool true), by omega, by go_num, by rw [Qf]; exact HXL.out, HXS.out, HSTO.out _, ?_, ?_, ?_⟩
     ·rw [HTH.out]
      exact ⟨ps, Bc.OwnR.of (HRO.out _ _ (zAi _ _ _)), HPX.out, HPE.out⟩
     ·simp [Qb]; omega
     ·exact (HB.out.setCell (p := ⟨G, q, none⟩) (by show _ <= G; rw [HGG.out]; exact Qd _) _).alloc (by have := HB.out.size; simp [Qb]; omega) _
    case measure => simp [intOf]; omega
  ·have hqn : q = n := by omega
   have htk : vs.take q = vs := Qg (by rw [HVL.out]; omega)
   have hxn : xs = (nulT vs).map boolv := by
    have h := HXT.out
    rw [htk, Qg (by rw [HXL.out]; omega)] at h
    exact h
   have HNU := hid (show Rd wr (.slice (some ⟨G, 0, none⟩) n n) ((nulT vs).map boolv) by rw [<- hxn]; exact Rd.of_owns HO.out)
   have hrw := HPX.out
   rw [htk] at hrw
   have HRI := hid (show Rd wr (.slice oa m oc) (Bc.vs ps) from HROW.out.rd)
   have HENC := hid fun W (h : Below wr.heap.size wr W) => Bc.zQ3 ps (.slice oa m oc) W (by rw [hrw]; exact zJe HV.out) (by rw [<- HM.out]; omega) (HRI.out.kept h) (HPE.out.kept (zAa HB.out h))
   rw [hrw] at HENC
   have HNC := hid fun W (h : Below wr.heap.size wr W) => zIq (.slice (some ⟨G, 0, none⟩) n n) (nulT vs) W (HNU.out.kept h) (by rw [zBe, HVL.out]; omega)
   have HBO := hid (show scolT 2 vs = encN (nulT vs) ++ Bc.bestN (txtT vs) 4 from rfl)
   have HLN := hid (show (encN (nulT vs)).length <= 1020 from zHi _ (by rw [zBe, HVL.out]; omega))
   have HLB := hid (show (Bc.bestN (txtT vs) 4).length <= 40001 from (zF2 (k := 2) (by decide) HV.out (by rw [HVL.out]; omega)).2)
   clear hqn htk hxn hrw hmq
   go_wp2_with fail
   refine (HNC.out _ (Qn _ _)).mono ?_
   rintro e w2 ⟨ao, cap, rfl, ho2, hb2⟩
   have HO2 := hid ho2
   have HB2 := hid hb2
   obtain ⟨ne, hne⟩ : ∃ ne, ne = ((encN (nulT vs)).map u8v).length := ⟨_, rfl⟩
   have hne2 : ne <= 1020 := by rw [hne, Qc]; exact HLN.out
   rw [<- hne] at HO2 ⊢
   clear ho2 hb2 hne
   have hk1 : ¬ ((2 : Int) = 1) := by decide
   go_wp2_with fail
   refine (HENC.out _ HB2.out).mono ?_
   rintro e w3 ⟨v3, rfl, ho3, hb3⟩
   obtain ⟨a3, c3, rfl⟩ := ho3.shape
   obtain ⟨n3, hn3⟩ : ∃ n3, n3 = (Bc.bestN (txtT vs) 4).length := ⟨_, rfl⟩
   have HY := hid (zAs ho3.rd)
   have HY1 := hid (zAr (zAq (Bc.bestN (txtT vs) 4)))
   have hn4 : n3 <= 40001 := by rw [hn3]; exact HLB.out
   have HYL := hid (show (((Bc.bestN (txtT vs) 4).map u8v).map fun u => [u]).length = n3 by rw [Qc, Qc, hn3])
   rw [<- hn3] at HY ⊢
   have HO3 := hid (show w3.ownsRow wr.heap.size 5 1 (.slice ao ne cap) ne ((encN (nulT vs)).map u8v) from HO2.out.kept (zAb hb3 none) (by cases h : (Value.slice ao ne cap).ownBlock with | none => exact .inl rfl | some g => exact .inr (by simp)))
   have HB3 := hid (zAa HB2.out hb3)
   have HSZ3 := hid (show wr.heap.size <= w3.heap.size from HB3.out.size)
   clear ho3 hb3 hn3
   go_wp2_with (at_builtin; go_must (refine zAf zBf rfl _ _ rfl wr.heap.size _ _ _ rfl HO3.out _ _ rfl HY.out HY1.out (by rw [HYL.out]; omega) HSZ3.out (ne + n3) (by rw [HYL.out]) ?_); intro ao4 cap4 w4 hown4 hgrow4 hnew4; have HO4 := hid hown4; have HG4 := hid hgrow4; clear hown4 hgrow4 hnew4)
   go_ret
   refine ⟨_, rfl, ?_, ?_⟩
   ·rw [HBO.out]
    refine OwnB.of (n := ne + n3) ?_
    have h := HO4.out
    rw [zAp] at h
    rw [Qa]
    exact Joins.ownsRow_le h HB.out.size
   ·exact (zAa HB.out HB3.out).grown HG4.out (Qh HB.out.size HB3.out.size) (fun k e => Qh HB.out.size (zAg HO3.out k e))
theorem zP2 (k : Int) (hk : k = 1 ∨ k = 2) (c : Nat) (hc6 : c <= 1000) (L : List (List (Vc × Value))) (hL : L.length <= 100) (rv : Value) (w : World) (hr : RdRs w rv L) (hc : ∀ l ∈ L, c < l.length ∧ l.length <= 1000) (hv : ∀ v ∈ colVs (L.map fun l => l.map Prod.fst) c, ColV k v) :
  Calls Tryz.prog 45 #[.int .i64 k, .int .i64 (c : Int), rv] w fun e w' => ∃ v, e = .returned v ∧ OwnB w.heap.size w' v (scolT k (colVs (L.map fun l => l.map Prod.fst) c)) ∧ Below w.heap.size w w' := by
 rcases hk with rfl | rfl
 ·exact zSl c hc6 L hL rv w hr hc hv
 ·exact zSm c hc6 L hL rv w hr hc hv
end Go.Proofs.YtmpgnjhgegbdkaaGreat
