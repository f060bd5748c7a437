import Derived.Test.YtmpgnjhgegbdkaaGreatSgk
import Derived.Test.YtmpgnjhgegbdkaaGreatSgn
set_option linter.unusedVariables false
set_option linter.unusedSimpArgs false
set_option maxRecDepth 100000
set_option maxHeartbeats 16000000
open Go.Lib (hid)
namespace Go.Proofs.YtmpgnjhgegbdkaaGreat
open Go.RowKit
open _root_.Nat renaming le_trans -> Qa, le_refl -> Qf, zero_le -> Qg, lt_of_lt_of_le -> Qo
open _root_.List renaming mem_of_getElem? -> Qb, length_append -> Qd, getElem?_eq_getElem -> Qe, drop_left -> Qh, mem_append -> Qi, mem_map -> Qj, replicate -> Qk, mem_of_mem_drop -> Ql, length_drop -> Qm, length_map -> Qn, mem_replicate -> Qp, mem_singleton -> Qr, mem_cons -> Qs, mem_cons_of_mem -> Qt, mem_cons_self -> Qu
open _root_.Array renaming getElem?_eq_some_iff -> Qc
open _root_.Option renaming map_some -> Qq
open Go renaming cell_of_row -> Qv, heap_alloc_new -> Qw
theorem zTb {c : Co} {v : Vc} (h : ColV c.k v) (hk : c.k = 1 ∨ c.k = 2) (hu : v.u = true -> c.u = true) : fitsT c v = true := by
 have h1 := h.k
 have h2 := h.norm
 have h3 := h.fit.2
 unfold fitsT
 rw [h1]
 cases hv : v.u with
 | true =>
  have h4 := h2.1 hv
  have h5 := hu hv
  rcases hk with hk | hk <;> simp [hk, h4.1, h4.2, h5]
 | false =>
  rcases hk with hk | hk
  ·have h4 := h2.2.2 (by omega)
   simp [hk, h4]
  ·have h4 := h2.2.1 (by omega)
   simp [hk, h4, h3]
theorem zPf {cols : List Co} {rows : List (List Vc)} (h : RowsC cols rows) : rowsB cols rows = true := by
 unfold rowsB
 simp only [Bool.and_eq_true, decide_eq_true_eq, List.all_eq_true]
 refine ⟨⟨h.ne, h.le⟩, fun r hr => zJa _ _ (h.len r hr).symm fun k a b ha hb => ?_⟩
 have := h.at_ r hr k a b ha hb
 exact zTb this.1 (h.ks a (Qb ha)) this.2
def bytesR (left : List Nat) (most : Nat) : Option (List Nat × List Nat) := match nextC left with
 | none => none
 | some (u, n) => if u <= most ∧ n + u <= left.length then some ((left.drop n).take u, left.drop (n + u)) else none
theorem zH5 (x rest : List Nat) (most : Nat) (h : x.length <= most) (hm : most <= 1000000) : bytesR (bytesC x ++ rest) most = some (x, rest) := by
 unfold bytesR bytesC
 rw [List.append_assoc, zGb _ _ (by omega)]
 simp only
 rw [if_pos ⟨h, by rw [Qd, Qd]; omega⟩, Qh, List.take_left, <- List.drop_drop, Qh, Qh]
theorem zDj {left x rest : List Nat} {most : Nat} (h : bytesR left most = some (x, rest)) : (∀ y ∈ x, y ∈ left) ∧ (∀ y ∈ rest, y ∈ left) ∧ x.length <= left.length ∧ rest.length <= left.length := by
 unfold bytesR at h
 split at h
 ·cases h
 ·next u n hn =>
  split at h
  ·cases h
   exact ⟨fun y hy => Ql (List.mem_of_mem_take hy), fun y hy => Ql hy, by rw [List.length_take, Qm]; omega, by rw [Qm]; omega⟩
  ·cases h
theorem zPg (B r : Nat) (left : List Nat) (bad : Bool) (most : Nat) (hm : most <= 1000000) (w : World) (h : IsRB B w r left bad) (h256 : ∀ x ∈ left, x < 256) (hbig : left.length <= 1000000) :
  Calls Tryz.prog 52 #[.pointer (some ⟨r, 0, none⟩), .int .i64 (most : Int)] w fun e w' => ∃ (ao : Option Addr) (n cap : Nat) (x left' : List Nat) (bad' : Bool), e = .returned (.slice ao n cap) ∧ n = x.length ∧ OwnB w.heap.size w' (.slice ao n cap) x ∧ IsRB B w' r left' bad' ∧ w.grownBy w' (some r) ∧ (bytesR left most = some (x, left') ∨ (bytesR left most = none ∧ x = [] ∧ left' = [])) := by
 cases hq : nextC left with
 | none =>
  refine (zJm r left bad w (most : Int) h.isR h256 (by omega) hq).mono ?_
  rintro e w' ⟨rfl, h1, h2⟩
  exact ⟨none, 0, 0, [], [], true, rfl, rfl, zA4 _ _, zDv h1, h2, .inr ⟨by unfold bytesR; rw [hq], rfl, rfl⟩⟩
 | some p =>
  obtain ⟨u, n⟩ := p
  obtain ⟨hn1, hn2⟩ := zDo left u n hq
  by_cases h1 : most < u
  ·refine (Bc.zK2 r left bad w (most : Int) h.isR h256 (by omega) u n hq hn1 hn2 (by omega) (by omega) (by omega) (zIk hq)).mono ?_
   rintro e w' ⟨rfl, h3, h4⟩
   exact ⟨none, 0, 0, [], [], true, rfl, rfl, zA4 _ _, zDv h3, h4, .inr ⟨by unfold bytesR; rw [hq]; simp only; rw [if_neg (by omega)], rfl, rfl⟩⟩
  ·by_cases h2 : left.length < n + u
   ·refine (zIc r left bad w (most : Int) h.isR h256 (by omega) u n hq hn1 hn2 (by omega) (by omega) (by omega) h2).mono ?_
    rintro e w' ⟨rfl, h3, h4⟩
    exact ⟨none, 0, 0, [], [], true, rfl, rfl, zA4 _ _, zDv h3, h4, .inr ⟨by unfold bytesR; rw [hq]; simp only; rw [if_neg (by omega)], rfl, rfl⟩⟩
   ·refine (Bc.zK1 B r left bad w (most : Int) h h256 (by omega) u n hq hn1 hn2 (by omega) (by omega) (by omega) (by omega)).mono ?_
    rintro e w' ⟨v, rfl, h3, h4, h5⟩
    obtain ⟨ao, cap, rfl⟩ := h3.shape
    exact ⟨ao, _, cap, _, _, bad, rfl, rfl, h3, h4, h5, .inl (by unfold bytesR; rw [hq]; simp only; rw [if_pos (by omega)])⟩
theorem zFo {B r : Nat} {left : List Nat} {bad : Bool} {w w' : World} (h : IsRB B w r left bad) (hb : Below B w w') (hr : r < B) : IsRB B w' r left bad := by
 obtain ⟨v, h1, h2, h3⟩ := h
 refine ⟨v, (hb.block r hr).trans h1, ?_, h3⟩
 obtain ⟨ao, cap, hv, hn, hc⟩ := h2
 refine ⟨ao, cap, hv, hn, fun hp => ?_⟩
 obtain ⟨b, off, ha, hcell⟩ := hc hp
 refine ⟨b, off, ha, fun i hi => ?_⟩
 have hbB := (h3 b off _ _ (by rw [hv, ha]) hp).1
 exact (hb.cell (p := ⟨b, off + i, none⟩) hbB).trans (hcell i hi)
theorem zRd (a b : List Nat) (x y : Value) (w : World) (hx : Rd w x (a.map u8v)) (hy : Rd w y (b.map u8v)) (ha : ∀ z ∈ a, z < 256) (hb : ∀ z ∈ b, z < 256) :
  Calls Tryz.prog 53 #[x, y] w fun e w' => e = .returned (.bool (a == b)) ∧ w = w' := by
 have c1 := zBx (P := Tryz.prog) w 29 9 5 Tryz.underlying29 Tryz.underlying5 Tryz.underlying9 hx ha
 have c2 := zBx (P := Tryz.prog) w 29 9 5 Tryz.underlying29 Tryz.underlying5 Tryz.underlying9 hy hb
 have hbq := zIg ha hb
 have HB := hid hbq
 clear hx hy ha hb hbq
 go_enter Tryz.func53, Tryz.ntmps53
 go_wp2_with fail
 go_ret
 refine ⟨?_, rfl⟩
 show Ending.returned (.bool ((txtOf a).toList == (txtOf b).toList)) = _
 rw [HB.out]
theorem zEs {cols : List Co} {rows : List (List Vc)} (h : RowsC cols rows) : ∀ x ∈ segT cols rows, x < 256 := fun x hx => by
 unfold segT at hx
 rcases Qi.1 hx with hx | hx
 ·exact zCh _ (by have := h.le; omega) x hx
 ·rw [List.mem_flatten] at hx
  obtain ⟨y, hy, hxy⟩ := hx
  obtain ⟨z, hz, rfl⟩ := Qj.1 hy
  have h1 := zEr h z hz
  unfold bytesC at hxy
  rcases Qi.1 hxy with hx | hx
  ·exact zCh _ (by omega) x hx
  ·exact h1.1 x hx
def SoFar (cols : List Co) (bs : List Nat) (n q : Nat) (left : List Nat) (L : List (List (Vc × Value))) : Prop :=
 ∀ R, RowsC cols R -> bs = segT cols R -> R.length = n ∧ left = (((toldT cols R).drop q).map bytesC).flatten ∧ L.map (fun l => l.map Prod.fst) = R.map (List.take q)
theorem zRe {cols : List Co} {bs left left' x : List Nat} {n q most : Nat} {L : List (List (Vc × Value))} {c : Co} (h : SoFar cols bs n q left L) (hc : cols[q]? = some c) (hm : bs.length = most) (hm2 : most <= 1000000) (hl : left.length <= most)
  (hx : bytesR left most = some (x, left') ∨ (bytesR left most = none ∧ x = [] ∧ left' = [])) : ∀ R, RowsC cols R -> bs = segT cols R -> readT c.k x n = some (colVs R q) ∧ left' = (((toldT cols R).drop (q + 1)).map bytesC).flatten := by
 intro R hR hb
 obtain ⟨h1, h2, h3⟩ := h R hR hb
 have ht := zDx cols R q
 rw [hc] at ht
 have hd : (toldT cols R).drop q = scolT c.k (colVs R q) :: (toldT cols R).drop (q + 1) := List.drop_eq_getElem?_toList_append.trans (by rw [ht]; rfl)
 rw [hd, List.map_cons, List.flatten_cons] at h2
 have hle : (scolT c.k (colVs R q)).length <= most := by
  have h4 := congrArg List.length h2
  rw [Qd] at h4
  unfold bytesC at h4
  rw [Qd] at h4
  omega
 have hp := zH5 (scolT c.k (colVs R q)) (((toldT cols R).drop (q + 1)).map bytesC).flatten most hle hm2
 rw [<- h2] at hp
 rcases hx with hx | ⟨hx, _⟩
 ·rw [hx] at hp
  simp only [Option.some.injEq, Prod.mk.injEq] at hp
  rw [hp.1, hp.2]
  have h5 := zHy (hR.ks c (Qb hc)) (hR.col hc) (by rw [zAz]; have := hR.le; omega)
  rw [zAz, h1] at h5
  exact ⟨h5, rfl⟩
 ·rw [hx] at hp
  cases hp
theorem zU6 {B n : Nat} {o : Option (List Vc)} {e : Ending} {w' : World} (h : RetV B o e w') (hn : ∀ vs, o = some vs -> vs.length = n) : ∃ (va : Option Addr) (vn vc : Nat) (ok : Bool), e = .returned (.tuple #[.slice va vn vc, .bool ok]) ∧
  ((∃ lv, vn = n ∧ ok = true ∧ o = some (lv.map Prod.fst) ∧ lv.length = n ∧ OwnV B w' (.slice va n vc) lv) ∨ (o = none ∧ va = none ∧ vn = 0 ∧ vc = 0 ∧ ok = false)) := by
 cases o with
 | none => exact ⟨none, 0, 0, false, h, .inr ⟨rfl, rfl, rfl, rfl, rfl⟩⟩
 | some vs =>
  obtain ⟨v, l, rfl, hl, ho⟩ := h
  obtain ⟨ao, cap, rfl⟩ := zBc ho.1
  have h1 := hn vs rfl
  have h2 : l.length = n := by rw [<- h1, <- hl, Qn]
  rw [h2] at ho ⊢
  exact ⟨ao, n, cap, true, rfl, .inl ⟨l, rfl, rfl, by rw [hl], h2, ho⟩⟩
def ReadOk (L : List (List (Vc × Value))) : Prop := ∀ l ∈ L, ∀ t ∈ l, I64 t.1.n ∧ t.1.b.length <= 64
theorem zTc (cols : List Co) (hsc : SchOk cols) (bs : List Nat) (sv bv : Value) (w : World) (hs : RdC w sv cols) (hr : Rd w bv (bs.map u8v)) (h8 : ∀ x ∈ bs, x < 256) (hbig : bs.length <= 1000000) :
  Calls Tryz.prog 19 #[.agg #[sv], bv] w fun e w' =>
   ((∃ rows g, RowsC cols rows ∧ bs = segT cols rows ∧ e = .returned (.tuple #[.pointer (some ⟨g, 0, none⟩), .bool true]) ∧ SegAt w.heap.size w' g cols rows) ∨ ((∀ R, RowsC cols R -> bs = segT cols R -> False) ∧ e = .returned (.tuple #[.pointer none, .bool false]))) ∧ Below w.heap.size w w' := by
 obtain ⟨sa, sc, rfl⟩ := zBr hs
 obtain ⟨ba, bc, rfl⟩ := zAi hr
 obtain ⟨m, hM⟩ : ∃ m, m = cols.length := ⟨_, rfl⟩
 rw [Qn] at hr ⊢
 obtain ⟨bn, hbn⟩ : ∃ bn, bn = bs.length := ⟨_, rfl⟩
 rw [<- hM] at hs ⊢
 rw [<- hbn] at hr hbig ⊢
 have hm6 : m <= 6 := by rw [hM]; exact hsc.ok.le
 have hm0 : 0 < m := by rw [hM]; exact hsc.ok.ne
 have HOKC := hid fun w' (h : Below w.heap.size w w') => zOi cols hsc (.slice sa m sc) w' (hs.kept h)
 have HM := hid hM
 have HBN := hid hbn
 have HS := hid hs
 have HR := hid hr
 have H8 := hid h8
 have HSC := hid hsc
 have HKS := hid hsc.ok.ks
 have HRG := hid (show ∀ (p : Nat) (s : Value) (sls : List Value) (L : List (List (Vc × Value))) {B G n cap : Nat} {w : World}, RowsB B w (.slice (some ⟨G, 0, none⟩) n cap) sls L -> sls[p]? = some s -> s.ownBlock ≠ some G from fun p s sls L _ _ _ _ _ h hs => h.far hs)
 have HREAD := hid fun w' (h : Below w.heap.size w w') => zDs (.slice ba bn bc) bs w' (hr.kept h) (by omega)
 clear hM hbn hs hr h8 hsc
 obtain ⟨W, hW⟩ : ∃ W : World, W = w.alloc (.cells #[.slice sa m sc] 24) := ⟨_, rfl⟩
 have HB0 := hid (show Below w.heap.size w W by rw [hW]; exact zAd w _)
 have HX0 := hid (show W.heap[w.heap.size]? = some (.cells #[.slice sa m sc] 24 (0, 0)) by rw [hW]; exact Qw w _)
 obtain ⟨SB, hSB⟩ : ∃ SB, SB = w.heap.size := ⟨_, rfl⟩
 have HSB := hid hSB
 go_enter Tryz.func19, Tryz.ntmps19
 go_upto_region 1 with (fail)
 rw [<- hW]
 rw [<- hSB] at HX0 ⊢
 clear hW hSB
 have cs0 : W.cell? ⟨SB, 0, none⟩ = some (.slice sa m sc) := by rw [Qv W SB 0 _ _ _ HX0.out]; rfl
 go_wp2_with fail
 refine (HOKC.out _ HB0.out).mono ?_
 rintro e w1 ⟨rfl, hb1⟩
 have HB1 := hid (zAa HB0.out hb1)
 have HX1 := hid ((hb1.block SB (Qc.1 HX0.out).1).trans HX0.out)
 clear hb1 cs0
 go_wp2_with fail
 refine (HREAD.out _ HB1.out).mono ?_
 rintro e w2 ⟨r, rfl, hr1, hir, hb2⟩
 have HB2 := hid (zAa HB1.out hb2)
 have HX2 := hid ((hb2.block SB (Qc.1 HX1.out).1).trans HX1.out)
 have hrb := zEl hir
 have hrl := hir.lt
 obtain ⟨B, hB⟩ : ∃ B, B = w2.heap.size := ⟨_, rfl⟩
 rw [<- hB] at hrb hrl
 have HIR := hid hrb
 have HBB := hid hB
 have HRR := hid (show w.heap.size <= r from Qa HB1.out.size hr1)
 have HSBr := hid (show SB < r from Qo (Qc.1 HX1.out).1 hr1)
 have HWB := hid (show w.heap.size <= B by rw [hB]; exact HB2.out.size)
 clear hb2 hir hrb hB hr1
 obtain ⟨nu, hnu⟩ : ∃ nu, nu = numR bs false := ⟨_, rfl⟩
 have HNUM := hid (zGh B r bs false w2 HIR.out H8.out (by rw [<- HBN.out]; omega))
 rw [<- hnu] at HNUM
 have HSO0 := hid (show ∀ R, RowsC cols R -> bs = segT cols R -> nu = (R.length, (((toldT cols R)).map bytesC).flatten, false) from fun R hR hb => by
  rw [hnu, hb]
  exact zC4 _ _ _ (by have := hR.le; omega))
 have HNM := hid (show (∀ x ∈ nu.2.1, x < 256) ∧ nu.2.1.length <= bn ∧ nu.1 < 18446744073709551616 from hnu ▸ ⟨zBz H8.out, by rw [HBN.out]; exact zEk _ _, zCi _ _⟩)
 obtain ⟨n, left0, bad0⟩ := nu
 simp only at HNUM HNM
 clear hnu
 go_wp2_with fail
 refine HNUM.out.mono ?_
 rintro e w3 ⟨rfl, hir3, hg3⟩
 have HIR3 := hid hir3
 have HX3 := hid ((hg3.block SB (Qc.1 HX2.out).1 (fun e => by cases e; have := HSBr.out; omega)).trans HX2.out)
 have HB3 := hid (show Below w.heap.size w w3 from HB2.out.grown hg3 HB2.out.size (fun k e => by cases e; exact HRR.out))
 have HS3 := hid (show B <= w3.heap.size by rw [HBB.out]; exact hg3.size)
 clear hir3 hg3 HNUM
 by_cases hin : 0 < n ∧ n <= 64
 case neg =>
  have HNO := hid (show ∀ R, RowsC cols R -> bs = segT cols R -> False from fun R hR hb => by
   have := HSO0.out R hR hb
   simp only [Prod.mk.injEq] at this
   have h1 := hR.ne
   have h2 := hR.le
   exact hin ⟨by omega, by omega⟩)
  have hq : (((n : Int) == 0) = true ∧ n = 0) ∨ (((n : Int) == 0) = false ∧ decide ((n : Int) > 64) = true ∧ (64 < (n : Int)) ∧ 64 < n ∧ ¬ n = 0) := by
   by_cases h0 : n = 0
   ·exact .inl ⟨by rw [beq_iff_eq]; omega, h0⟩
   ·exact .inr ⟨by rw [beq_eq_false_iff_ne]; omega, by rw [decide_eq_true_eq]; omega, by omega, by omega, h0⟩
  clear hin
  rcases hq with ⟨hq0, hq1⟩ | ⟨hq0, hq1, hq2, hq3, hq4⟩
  all_goals
   go_wp2_with fail
   go_ret2
   exact ⟨.inr ⟨HNO.out, rfl⟩, HB3.out⟩
 case pos =>
  obtain ⟨hn0, hn64⟩ := hin
  have hq0 : ((n : Int) == 0) = false := by rw [beq_eq_false_iff_ne]; omega
  have hq1 : decide ((n : Int) > 64) = false := by rw [decide_eq_false_iff_not]; omega
  have hq2 : ¬ (64 < (n : Int)) := by omega
  have hq3 : ¬ (64 < n) := by omega
  have hq4 : ¬ (n = 0) := by omega
  obtain ⟨i0, hi, hz0, hz1, hz2⟩ := info_parts zMp
  go_upto_region 8 with (at_make; go_must (refine wpList_make_full _ rfl _ _ 26 rfl w3.heap.size 27 i0 _ 1 Tryz.underlying26 hi hz0 hz1 .u64 .u64 _ _ n rfl rfl rfl rfl (by rw [hz2]; omega) (by unfold maxLen; omega) (Qf _) ?_); intro w4 hown4 hgrow4)
  have hown4b : w4.ownsRow w3.heap.size 27 1 (.slice (some ⟨w3.heap.size, 0, none⟩) n n) n (Qk n (.slice none 0 0)) := by
   have h := hown4
   rw [show (Value.slice none 0 0).cells = #[Value.slice none 0 0] from rfl, Nat.mul_one, toList_madeCells_one] at h
   exact h
  have HRB4 := hid (zLb (Joins.ownsRow_le hown4b HS3.out))
  have hb34 : Below w3.heap.size w3 w4 := ⟨hgrow4.os, hgrow4.tape, hgrow4.output, hgrow4.size, fun i hi => hgrow4.block i hi (by simp)⟩
  have HB4 := hid (zAa HB3.out hb34)
  have HX4 := hid ((hb34.block SB (Qc.1 HX3.out).1).trans HX3.out)
  have HIR4 := hid (zFo HIR3.out (hb34.mono HS3.out) hrl)
  have cs0 : w4.cell? ⟨SB, 0, none⟩ = some (.slice sa m sc) := by rw [Qv w4 SB 0 _ _ _ HX4.out]; rfl
  obtain ⟨G, hG⟩ : ∃ G, G = w3.heap.size := ⟨_, rfl⟩
  rw [<- hG] at HRB4 ⊢
  clear hown4 hown4b hgrow4 hb34 hi hz0 hz1 hz2 hG
  go_wp2_with fail
  clear cs0
  go_loopw [35] (fun i wr => ∃ (q : Nat) (sls : List Value) (L : List (List (Vc × Value))) (left : List Nat) (bad : Bool), q <= m ∧ i = .int .i64 (q : Int) ∧ L.length = n ∧ (∀ l ∈ L, l.length = q) ∧ ReadOk L ∧ RowsB B wr (.slice (some ⟨G, 0, none⟩) n n) sls L ∧ IsRB B wr r left bad ∧ ((∀ x ∈ left, x < 256) ∧ left.length <= bn) ∧ SoFar cols bs n q left L ∧ wr.heap[SB]? = some (.cells #[.slice sa m sc] 24 (0, 0)) ∧ Below w.heap.size w wr) (fun i _ => m - (intOf i).toNat)
  case atStart =>
   refine ⟨0, Qk n (.slice none 0 0), Qk n [], left0, bad0, Qg _, rfl, List.length_replicate, (fun l hl => by rw [(Qp.1 hl).2]; rfl), (fun l hl t ht => by rw [(Qp.1 hl).2] at ht; cases ht), HRB4.out, HIR4.out, ⟨HNM.out.1, HNM.out.2.1⟩, fun R hR hb => ?_, HX4.out, HB4.out⟩
   have := HSO0.out R hR hb
   simp only [Prod.mk.injEq] at this
   obtain ⟨h1, h2, _⟩ := this
   refine ⟨h1.symm, h2, ?_⟩
   rw [List.map_replicate, h1]
   refine List.ext_getElem (by simp) fun i h1 h2 => ?_
   simp
  case round =>
   obtain ⟨q, sls, L, left, bad, hq, rfl, hln, hlq, hrok, hrb, hir, hlf, hso, hsx, hb⟩ := hrel
   obtain ⟨wo, hwo⟩ : ∃ wo : World, wo = wr := ⟨_, rfl⟩
   rw [<- hwo] at hrb hir hsx hb ⊢
   clear hwo
   have HLN := hid hln
   have HLQ := hid hlq
   have HROK := hid hrok
   have HRB0 := hid hrb
   have HIRo := hid hir
   have HLF := hid hlf
   have HSO := hid hso
   have HSX := hid hsx
   have HBo := hid hb
   clear hln hlq hrok hrb hir hlf hso hsx hb
   by_cases hlt : q < m
   ·obtain ⟨co, hco⟩ : ∃ co, cols[q]? = some co := ⟨_, Qe (by rw [<- HM.out]; exact hlt)⟩
    have HKK := hid (HKS.out co (Qb hco))
    have HCO := hid hco
    obtain ⟨b, off, rfl, p0, p1, p2⟩ := (RdC.kept HS.out HBo.out).at hco
    obtain ⟨cn, ck, cu⟩ := co
    simp only at p0 p1 p2 HKK
    clear hco
    go_upto_region 11 with (fail)
    obtain ⟨XB, hXB⟩ : ∃ XB, XB = wo.heap.size := ⟨_, rfl⟩
    obtain ⟨W5, hW5⟩ : ∃ W5 : World, W5 = wo.alloc (.cells #[.string cn, .int .i64 ck, .bool cu] 46) := ⟨_, rfl⟩
    rw [<- hW5, <- hXB]
    have hx5 : W5.heap[XB]? = some (.cells #[.string cn, .int .i64 ck, .bool cu] 46 (0, 0)) := by rw [hW5, hXB]; exact Qw wo _
    have hb5 : Below wo.heap.size wo W5 := by rw [hW5]; exact zAd wo _
    have HBW5 := hid (zAa HBo.out hb5)
    have HB5 := hid hb5
    have HX5 := hid hx5
    have hrwo : B <= wo.heap.size := by
     have h1 := HRB0.out.own.lt G rfl
     omega
    have HIR5 := hid (zFo HIRo.out (hb5.mono hrwo) hrl)
    have HRB5 := hid (HRB0.out.kept hb5)
    have HSX5 := hid ((hb5.block SB (Qc.1 HSX.out).1).trans HSX.out)
    have HB5B := hid (show B <= W5.heap.size from Qa hrwo hb5.size)
    have HSO5 := hid fun (x left' : List Nat) (hx : bytesR left bn = some (x, left') ∨ (bytesR left bn = none ∧ x = [] ∧ left' = [])) => zRe (most := bn) HSO.out HCO.out HBN.out.symm hbig HLF.out.2 hx
    have HBY := hid fun w' (h : Below W5.heap.size W5 w') => zPg B r left bad bn hbig w' (zFo HIR5.out (h.mono HB5B.out) hrl) HLF.out.1 (by have := HLF.out.2; omega)
    have HRE := hid fun (w' : World) (v : Value) (x : List Nat) (hv : Rd w' v (x.map u8v)) (h8 : ∀ y ∈ x, y < 256) (hl : x.length <= 1000000) => zMn ck HKK.out x v n (by omega) w' hv h8 hl
    have hx1 : W5.cell? ⟨XB, 1, none⟩ = some (.int .i64 ck) := by rw [Qv W5 XB 1 _ _ _ hx5]; rfl
    have HXR := hid (show XB ≠ r by omega)
    clear hW5 hXB hx5 hb5 p0 p1 p2 hrwo
    go_cut [11, 12] (fun vals ok wx => ∃ (x left' : List Nat) (bad' : Bool) (K : Nat), (bytesR left bn = some (x, left') ∨ (bytesR left bn = none ∧ x = [] ∧ left' = [])) ∧ IsRB B wx r left' bad' ∧ W5.grownBy wx (some r) ∧ W5.heap.size <= K ∧ K <= wx.heap.size ∧
     ((∃ (va : Option Addr) (vc : Nat) (lv : List (Vc × Value)), vals = .slice va n vc ∧ ok = .bool true ∧ readT ck x n = some (lv.map Prod.fst) ∧ lv.length = n ∧ OwnV K wx (.slice va n vc) lv) ∨ (readT ck x n = none ∧ vals = .slice none 0 0 ∧ ok = .bool false)))
    case first =>
     go_region_law
      (first
       | (go_simp; go_at_call 52; refine (HBY.out _ ?_).mono ?_; (exact zAe _ _); rintro e w6 ⟨xa, xn, xc, x, left', bad', rfl, hxn, hox, hir6, hg6, hcase⟩; have HOX := hid hox; have HIR6 := hid hir6; have HG6 := hid (show W5.grownBy w6 (some r) from zAb (zA0 W5 (some r) 1) hg6); have HCASE := hid hcase; have HXN := hid hxn; have dx1 : w6.cell? ⟨XB, 1, none⟩ = some (.int .i64 ck) := (HG6.out.cell hx1 (fun e => HXR.out (Option.some.inj e))); clear hox hir6 hg6 hcase hxn)
       | (go_simp; go_at_call 51; refine (HRE.out _ _ x ?_ ?_ ?_).mono ?_; (exact HOX.out.rd); (intro y hy; rcases HCASE.out with h | ⟨_, h, _⟩; exact HLF.out.1 y ((zDj h).1 y hy); rw [h] at hy; cases hy); (rcases HCASE.out with h | ⟨_, h, _⟩; (have := (zDj h).2.2.1; have := HLF.out.2; omega); (rw [h]; exact Qg _)); rintro e w7 ⟨hret, hb7⟩; obtain ⟨va, vn, vc, ok, rfl, hcs⟩ := zU6 hret (fun vs h => (zOn HKK.out (fun y hy => by rcases HCASE.out with h | ⟨_, h, _⟩; exact HLF.out.1 y ((zDj h).1 y hy); rw [h] at hy; cases hy) h).1); have HCS := hid hcs; have HB7 := hid (show Below w6.heap.size w6 w7 from hb7); clear hret hb7 hcs))
     all_goals
      go_wp2_with fail
      go_meet
      refine ⟨x, left', bad', w6.heap.size, HCASE.out, HIR6.out.kept HB7.out hrl, zAb HG6.out (zAc HB7.out _), HG6.out.size, HB7.out.size, ?_⟩
      rcases HCS.out with ⟨lv, h1, h2, h3, h4, h5⟩ | ⟨h1, h2, h3, h4, h5⟩
      ·subst h1
       exact .inl ⟨va, vc, lv, rfl, by rw [h2], h3, h4, h5⟩
      ·exact .inr ⟨h1, by rw [h2, h3, h4], by rw [h5]⟩
    case rest =>
     obtain ⟨x, left', bad', K, hcase, hir, hg, hk1, hk2, hv⟩ := hcut
     obtain ⟨Wv, hWv⟩ : ∃ Wv : World, Wv = wc := ⟨_, rfl⟩
     rw [<- hWv] at hir hg hk2 hv ⊢
     clear hWv
     have HCASE := hid hcase
     have HIRv := hid hir
     have HBv := hid (show Below w.heap.size w Wv from HBW5.out.grown hg HBW5.out.size (fun k e => by cases e; exact HRR.out))
     have HRBv := hid (HRB5.out.other hg hrl)
     have HBLK := hid (show ∀ u ∈ (Value.slice (some ⟨G, 0, none⟩) n n) :: sls, ∀ b, u.ownBlock = some b -> b < K ∨ Wv.heap.size <= b from fun u hu b hb => .inl (by have := (HRB5.out.blocks u hu b hb).2; omega))
     have HKB := hid (show B <= K from Qa HB5B.out hk1)
     have HKW := hid hk2
     have HSXv := hid ((hg.block SB (Qc.1 HSX5.out).1 (fun e => by cases e; have := HSBr.out; omega)).trans HSX5.out)
     have HSOV := hid (HSO5.out x left' hcase)
     have HXM := hid (show ∀ y ∈ x, y < 256 from fun y hy => by
      rcases hcase with h | ⟨_, h, _⟩
      ·exact HLF.out.1 y ((zDj h).1 y hy)
      ·rw [h] at hy; cases hy)
     have HLF2 := hid (show (∀ y ∈ left', y < 256) ∧ left'.length <= bn from by
      rcases hcase with h | ⟨_, _, h⟩
      ·exact ⟨fun y hy => HLF.out.1 y ((zDj h).2.1 y hy), Qa (zDj h).2.2.2 HLF.out.2⟩
      ·rw [h]; exact ⟨fun y hy => (by cases hy), Qg _⟩)
     clear hcase hir hg hk1 hk2 hx1
     rcases hv with ⟨va, vc, lv, rfl, rfl, hrt, hlv, hov⟩ | ⟨hrt, rfl, rfl⟩
     ·have HRT := hid hrt
      have HVN := hid hlv
      have HOV := hid hov
      clear hrt hlv hov
      go_wp2_with fail
      go_loopw [55] (fun i wi => ∃ (p : Nat) (sls2 : List Value), p <= n ∧ i = .int .i64 (p : Int) ∧ RowsB (B) wi (.slice (some ⟨G, 0, none⟩) n n) sls2 (snocN p L lv) ∧ Above K Wv wi ∧ Wv.heap.size <= wi.heap.size ∧
        (∀ u ∈ (Value.slice (some ⟨G, 0, none⟩) n n) :: sls2, ∀ b, u.ownBlock = some b -> b < K ∨ Wv.heap.size <= b) ∧ Below (B) Wv wi) (fun i _ => n - (intOf i).toNat)
      case atStart => exact ⟨0, sls, Qg _, rfl, by rw [zK9]; exact HRBv.out, Above.refl _ _, Qf _, HBLK.out, Below.refl _ _⟩
      case round =>
       obtain ⟨p, sls2, hp, rfl, hrb, hab, hsz, hblk, hbi⟩ := hrel
       obtain ⟨wi, hwi⟩ : ∃ wi : World, wi = wr := ⟨_, rfl⟩
       rw [<- hwi] at hrb hab hsz hbi ⊢
       clear hwi
       have HRB := hid hrb
       have HAB := hid hab
       have HSZ := hid hsz
       have HBK := hid hblk
       have HBI := hid hbi
       clear hrb hab hsz hblk hbi
       by_cases hlp : p < n
       ·obtain ⟨l, hl⟩ : ∃ l, L[p]? = some l := ⟨_, Qe (by rw [HLN.out]; exact hlp)⟩
        obtain ⟨t, ht⟩ : ∃ t, lv[p]? = some t := ⟨_, Qe (by rw [HVN.out]; exact hlp)⟩
        have hll := HLQ.out l (Qb hl)
        have hsl : (snocN p L lv)[p]? = some l := by rw [zCt, hl, Qq, if_neg (Nat.lt_irrefl _)]
        have hsn := zLa hl ht
        obtain ⟨s, hs⟩ : ∃ s, sls2[p]? = some s := ⟨_, Qe (by rw [HRB.out.len, zB9, HLN.out]; exact hlp)⟩
        have hrow := HRB.out.row p s l hs hsl
        have HMOR := hid (zB9 p L lv)
        obtain ⟨sa, sc, rfl⟩ := zBc hrow
        rw [hll] at hs hrow
        have hown := HRB.out.own
        rw [zB9, HLN.out] at hown
        have cR : wi.cell? ⟨G, p, none⟩ = some (.slice sa q sc) := (hown.cellAt p (by omega)).trans (by rw [<- hs])
        have fR := hown.frozenAt p
        have hvp := HOV.out.above_rd HAB.out
        obtain ⟨vb, vo, hva, p0, p1, p2, p3, ok⟩ := hvp.1.at ht
        cases hva
        obtain ⟨ta, tc, hts⟩ := zAf ok.1
        have HTB := hid (HOV.out.2 t (Qb ht))
        have HS := hid hs
        have HSL := hid hsl
        have HSN := hid hsn
        have HLL := hid hll
        have HROW := hid hrow
        have hGl : G < wi.heap.size := (hown.lt G rfl).2
        have HGL := hid (hown.lt G rfl)
        obtain ⟨⟨tu, tk, tn, tb⟩, ts⟩ := t
        simp only at hts p0 p1 p2 p3
        subst hts
        clear hl ht hsl hsn hs hrow hown hvp ok hll
        go_upto_region 17 with (fail)
        obtain ⟨W5, hW5⟩ : ∃ W5 : World, W5 = wi.alloc (.cells #[.bool tu, .int .i64 tk, .int .i64 tn, .slice ta tb.length tc] 31) := ⟨_, rfl⟩
        obtain ⟨XB, hXB⟩ : ∃ XB, XB = wi.heap.size := ⟨_, rfl⟩
        rw [<- hW5, <- hXB]
        have hx5 : W5.heap[XB]? = some (.cells #[.bool tu, .int .i64 tk, .int .i64 tn, .slice ta tb.length tc] 31 (0, 0)) := by rw [hW5, hXB]; exact Qw wi _
        have HS5 := hid (show W5.heap.size = XB + 1 by rw [hW5, hXB]; simp)
        have HXB := hid hXB
        have HB5 := hid (show Below wi.heap.size wi W5 by rw [hW5]; exact zAd wi _)
        have HR5 := hid (show W5.ownsRow (B) 31 4 (.slice sa q sc) q (l.map cellsV).flatten by rw [hW5]; exact HROW.out.alloc _)
        have cR5 : W5.cell? ⟨G, p, none⟩ = some (.slice sa q sc) := (HB5.out.cell (p := ⟨G, p, none⟩) hGl).trans cR
        have fR5 : W5.frozen? ⟨G, p, none⟩ = false := (World.frozen?_of_block (a := ⟨G, p, none⟩) (HB5.out.block G hGl)).trans fR
        have cR6 := fun o => Lib.cell?_alloc_some (W := W5) o cR5
        have x0 : W5.cell? ⟨XB, 0, none⟩ = some (.bool tu) := by rw [Qv W5 XB 0 _ _ _ hx5]; rfl
        have x1 : W5.cell? ⟨XB, 1, none⟩ = some (.int .i64 tk) := by rw [Qv W5 XB 1 _ _ _ hx5]; rfl
        have x2 : W5.cell? ⟨XB, 2, none⟩ = some (.int .i64 tn) := by rw [Qv W5 XB 2 _ _ _ hx5]; rfl
        have x3 : W5.cell? ⟨XB, 3, none⟩ = some (.slice ta tb.length tc) := by rw [Qv W5 XB 3 _ _ _ hx5]; rfl
        have HLT5 := hid (zBb W5 #[.bool tu, .int .i64 tk, .int .i64 tn, .slice ta tb.length tc] 31 4 rfl)
        have HON5 := hid (show Ones 4 [[Value.bool tu, .int .i64 tk, .int .i64 tn, .slice ta tb.length tc]] from fun t ht => by rw [Qr.1 ht]; exact ⟨rfl, fun u hu => by simp only [Qs, List.not_mem_nil, or_false] at hu; rcases hu with rfl | rfl | rfl | rfl <;> rfl⟩)
        have hwB : B <= XB := by rw [hXB]; exact Qa HKB.out (Qa HKW.out HSZ.out)
        have HSZ5 := hid (show B <= (W5.alloc (.cells #[.bool tu, .int .i64 tk, .int .i64 tn, .slice ta tb.length tc] 31)).heap.size by have := HS5.out; simp; omega)
        have hq5 : q + 1 <= 10000000 := by omega
        clear hW5 hx5 hXB p0 p1 p2 p3 cR fR
        go_region_law
         ((refine zBf zK8 (by rfl) _ _ (by rfl) (B) (.slice sa q sc) q (l.map cellsV).flatten (by rfl) ((HR5.out.alloc _).drew) _ [[.bool tu, .int .i64 tk, .int .i64 tn, .slice ta tb.length tc]] (by rfl) HLT5.out HON5.out hq5 HSZ5.out (q + 1) rfl ?_; intro sb sd w6 hown6 hgrow6 hnew6;
           have hb6 : w6.heap[G]? = W5.heap[G]? := (hgrow6.block G (by simp; have := HS5.out; have := HXB.out; omega) (fun h => HRG.out p _ sls2 _ HRB.out HS.out h.symm)).trans (heap_alloc_old W5 _ (by have := HS5.out; have := HXB.out; omega));
           have c6 : w6.cell? ⟨G, p, none⟩ = some (.slice sa q sc) := (World.cell?_of_block hb6).trans cR5;
           have f6 : w6.frozen? ⟨G, p, none⟩ = false := (World.frozen?_of_block (a := ⟨G, p, none⟩) hb6).trans fR5))
        all_goals
         go_wp2_with fail
         go_roundw
         case rel =>
          have hs5 := HS5.out
          have hxb := HXB.out
          have hb1 : Below wi.heap.size wi (W5.alloc (.cells #[.bool tu, .int .i64 tk, .int .i64 tn, .slice ta tb.length tc] 31)).drew := (zAn HB5.out _).trans (zAe _ _)
          have hnb : ∀ b, (Value.slice sb (q + 1) sd).ownBlock = some b -> (Value.slice sa q sc).ownBlock = some b ∨ wi.heap.size <= b := fun b h => (hnew6 b h).imp id fun h => by simp at h; omega
          have hag : Agree (fun b => b = G ∨ (Value.slice sa q sc).ownBlock = some b) wi (w6.setCell ⟨G, p, none⟩ (.slice sb (q + 1) sd)) := (((Agree.refl _ wi).thenBelow hb1).thenGrown hgrow6 fun b _ h => .inr h).set ⟨G, p, none⟩ _ (.inl (.inl rfl))
          have hsb : ∀ b, (Value.slice sa q sc).ownBlock = some b -> b < K ∨ Wv.heap.size <= b := HBK.out _ (Qt _ (Qb HS.out))
          have hgb := HBK.out _ Qu G rfl
          have habf : Above K Wv (w6.setCell ⟨G, p, none⟩ (.slice sb (q + 1) sd)) := fun b h1 h2 => (hag.block b (Qo h2 HSZ.out) fun e => by
           rcases e with e | e
           ·omega
           ·have := hsb b e; omega).trans (HAB.out b h1 h2)
          have hblk2 : ∀ u ∈ (Value.slice (some ⟨G, 0, none⟩) n n) :: sls2.set p (.slice sb (q + 1) sd), ∀ b, u.ownBlock = some b -> b < K ∨ Wv.heap.size <= b := fun u hu b hb => by
           rcases Qs.1 hu with rfl | hu
           ·exact HBK.out _ Qu b hb
           ·rcases List.mem_or_eq_of_mem_set hu with hu | rfl
            ·exact HBK.out u (Qt _ hu) b hb
            ·rcases hnb b hb with h | h
             ·exact hsb b h
             ·have := HSZ.out; omega
          have hpush := RowsB.push (t := (⟨tu, tk, tn, tb⟩, .slice ta tb.length tc)) HRB.out HS.out HSL.out hb1 hgrow6 (by rw [HLL.out]; exact hown6) hnb (zMo (K := K) (wv := Wv) HTB.out.1 HKB.out habf (Qa HSZ.out hag.size) fun b e => by obtain ⟨u, hu, hub⟩ := e; exact hblk2 u hu b hub) HTB.out.2
          rw [HSN.out] at hpush
          exact ⟨p + 1, sls2.set p (.slice sb (q + 1) sd), by omega, by go_num, hpush, habf, Qa HSZ.out hag.size, hblk2, HBI.out.trans (hag.below (fun i hi e => by
           rcases e with e | e
           ·have := HGL.out.1; omega
           ·have := (HROW.out.lt i e).1; omega) (Qa HKB.out (Qa HKW.out HSZ.out)))⟩
         case measure => simp [intOf]; omega
       ·have hpn : p = n := by omega
        have HRBN := hid (show RowsB B wi (.slice (some ⟨G, 0, none⟩) n n) sls2 (snocN n L lv) from by
         have h := HRB.out
         rw [show snocN p L lv = snocN n L lv by rw [hpn]] at h
         exact h)
        clear hpn
        go_wp2_with fail
        go_roundw
        case rel =>
         have hbif := HBI.out
         have hel : ∀ l ∈ snocN n L lv, ∃ l0 t, l0 ∈ L ∧ t ∈ lv ∧ l = l0 ++ [t] := fun l hl => by
          obtain ⟨j, hj⟩ := List.getElem?_of_mem hl
          rw [zCt] at hj
          cases h1 : L[j]? with
          | none => rw [h1] at hj; cases hj
          | some l0 =>
           have hjl := (List.getElem?_eq_some_iff.1 h1).1
           rw [h1, Qq, if_pos (by rw [<- HLN.out]; exact hjl), Option.some.injEq] at hj
           have hjv : j < lv.length := by rw [HVN.out, <- HLN.out]; exact hjl
           rw [Qe hjv] at hj
           exact ⟨l0, lv[j], Qb h1, List.getElem_mem hjv, hj.symm⟩
         refine ⟨q + 1, sls2, snocN n L lv, left', bad', by omega, by go_num, by rw [zB9]; exact HLN.out, (fun l hl => ?_), (fun l hl t ht => ?_), HRBN.out, zFo HIRv.out hbif hrl, HLF2.out, (fun R hR hb => ?_), (hbif.block SB (by have := HSBr.out; omega)).trans HSXv.out, HBv.out.trans (hbif.mono HWB.out)⟩
         ·obtain ⟨l0, t, h1, h2, rfl⟩ := hel l hl
          rw [Qd, HLQ.out l0 h1]
          rfl
         ·obtain ⟨l0, t0, h1, h2, rfl⟩ := hel l hl
          rcases Qi.1 ht with h | h
          ·exact HROK.out l0 h1 t h
          ·rw [Qr.1 h]
           have h3 := (zOn HKK.out HXM.out HRT.out).2 t0.1 (List.mem_map_of_mem h2)
           exact ⟨h3.i64, h3.fit.2⟩
         ·have h1 := HSOV.out R hR hb
          rw [HRT.out] at h1
          have h2 := HSO.out R hR hb
          exact ⟨h2.1, h1.2, zLc h2.2.2 HLN.out (Option.some.inj h1.1) fun r hr => by rw [hR.len r hr, <- HM.out]; exact hlt⟩
        case measure => simp [intOf]; omega
     ·have HNO := hid (show ∀ R, RowsC cols R -> bs = segT cols R -> False from fun R hR hb => by
       have := (HSOV.out R hR hb).1
       rw [hrt] at this
       cases this)
      clear hrt
      go_wp2_with fail
      go_ret2
      exact ⟨.inr ⟨HNO.out, rfl⟩, HBv.out⟩
   ·have hqm : q = m := by omega
    have HEQ := hid (show ∀ R, RowsC cols R -> bs = segT cols R -> L.map (fun l => l.map Prod.fst) = R from fun R hR hb => by
     have h := (HSO.out R hR hb).2.2
     rw [h, hqm]
     conv => rhs; rw [<- List.map_id R]
     refine List.map_congr_left fun r hr => ?_
     rw [List.take_of_length_le (by rw [hR.len r hr, <- HM.out]; exact Qf _)]
     rfl)
    have HMK := hid (zH1 cols HSC.out L (by rw [HLN.out]; omega) (fun l hl => by rw [HLQ.out l hl]; omega) (fun l hl t ht => (HROK.out l hl t ht).1) (fun l hl t ht => by have := (HROK.out l hl t ht).2; omega) (.slice sa m sc) (.slice (some ⟨G, 0, none⟩) n n) wo (HS.out.kept HBo.out) HRB0.out.rdA.rd)
    obtain ⟨rows, hrows⟩ : ∃ rows, rows = L.map fun l => l.map Prod.fst := ⟨_, rfl⟩
    rw [<- hrows] at HMK HEQ
    have HVALS := hid (show ∀ r ∈ rows, ∀ v ∈ r, I64 v.n ∧ ∀ x ∈ v.b, x < 256 from fun r hrr v hv => by
     rw [hrows] at hrr
     obtain ⟨l, hl, rfl⟩ := Qj.1 hrr
     obtain ⟨t, ht, rfl⟩ := Qj.1 hv
     exact ⟨(HROK.out l hl t ht).1, HRB0.out.lt l hl t ht⟩)
    have cs0 : wo.cell? ⟨SB, 0, none⟩ = some (.slice sa m sc) := by rw [Qv wo SB 0 _ _ _ HSX.out]; rfl
    clear hqm hrows
    go_wp2_with fail
    refine HMK.out.mono ?_
    rintro e w9 ⟨hmk, hb9⟩
    have HB9 := hid (zAa HBo.out hb9)
    clear hb9 cs0
    rcases hmk with ⟨hyes, g, rfl, hseg⟩ | ⟨hno, rfl⟩
    ·have HRC := hid (zH0 hyes HVALS.out)
     have HSEG := hid hseg
     have HBYT := hid (zFn HRC.out (by rw [<- HM.out]; exact hm0) (by rw [<- HM.out]; exact hm6) w9 hseg)
     have HSL := hid (zEs HRC.out)
     clear hyes hseg
     go_wp2_with fail
     refine HBYT.out.mono ?_
     rintro e w10 ⟨v10, rfl, ho10, hb10⟩
     obtain ⟨a10, c10, rfl⟩ := ho10.shape
     have HB10 := hid (zAa HB9.out hb10)
     have HSEG10 := hid (HSEG.out.kept hb10)
     have HQ := hid (zRd (segT cols rows) bs (.slice a10 (segT cols rows).length c10) (.slice ba bn bc) w10 ho10.rd (HR.out.kept HB10.out) HSL.out H8.out)
     obtain ⟨eq, heq⟩ : ∃ eq, eq = (segT cols rows == bs) := ⟨_, rfl⟩
     obtain ⟨n10, hn10⟩ : ∃ n10, n10 = (segT cols rows).length := ⟨_, rfl⟩
     rw [<- heq, <- hn10] at HQ
     rw [<- hn10]
     have HEQB := hid heq
     clear ho10 hb10 heq hn10
     go_wp2_with fail
     refine HQ.out.mono ?_
     rintro e w11 ⟨rfl, rfl⟩
     cases eq
     ·have HNO := hid (show ∀ R, RowsC cols R -> bs = segT cols R -> False from fun R hR hb => by
       have h := HEQB.out
       rw [HEQ.out R hR hb, <- hb] at h
       simp at h)
      go_wp2_with fail
      go_ret2
      exact ⟨.inr ⟨HNO.out, rfl⟩, HB10.out⟩
     ·have HY := hid (show bs = segT cols rows from by
       have h := HEQB.out
       exact (beq_iff_eq.1 h.symm).symm)
      go_wp2_with fail
      go_ret2
      exact ⟨.inl ⟨rows, g, HRC.out, HY.out, rfl, HSEG10.out.above (Above.refl _ _) (Qf _) HBo.out.size⟩, HB10.out⟩
    ·have HNO := hid (show ∀ R, RowsC cols R -> bs = segT cols R -> False from fun R hR hb => by
      rw [HEQ.out R hR hb] at hno
      rw [zPf hR] at hno
      cases hno)
     clear hno
     go_wp2_with fail
     go_ret2
     exact ⟨.inr ⟨HNO.out, rfl⟩, HB9.out⟩
end Go.Proofs.YtmpgnjhgegbdkaaGreat
