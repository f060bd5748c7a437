import Derived.Test.YtnfjdoeemnhkbaaAgl
set_option linter.unusedVariables false
set_option linter.unusedSimpArgs false
set_option maxRecDepth 100000
set_option maxHeartbeats 8000000
open Go.Lib (hid)
namespace Go.Proofs.Ytnfjdoeemnhkbaa
open Go.RowKit Sy
open _root_.List renaming length_map -> Qa, mem_of_getElem? -> Qc, getElem?_map -> Qd, getElem?_set_ne -> Qe, getElem?_eq_some_iff -> Qf, getElem?_set_self -> Qg, getElem?_eq_getElem -> Qh, length_replicate -> Qi, length_set -> Qk, replicate -> Ql, map_append -> Qm, mem_replicate -> Qo, length -> Qr
open _root_.Nat renaming le_refl -> Qb, lt_irrefl -> Qj, zero_le -> Qp
open _root_.Option renaming map_some -> Qn
open Go.IntWalk renaming i64_in -> Qq
open Go.RowKit.Below renaming refl -> Qt
open Go.World renaming block_lt_of_cell? -> Qu
structure CoOwn (w0 : World) (B : Nat) (w : World) (v : Value) (P : List El) : Prop where
 own : w.ownsRow B 33 1 v P.length (P.map Prod.fst)
 apart : ∀ (i j : Nat) (x y : El) (g : Nat), i ≠ j -> P[i]? = some x -> P[j]? = some y -> x.1.ownBlock = some g -> y.1.ownBlock ≠ some g
 row : ∀ x ∈ P, RowG w0 B w x.1 x.2.length x.2
theorem CoOwn.kept {w0 w w' : World} {B : Nat} {v : Value} {P : List El} (h : CoOwn w0 B w v P) (hb : Below w.heap.size w w') : CoOwn w0 B w' v P :=
 ⟨zAf h.own (zAc hb) (Qb _), h.apart, fun x hx => ⟨zAf (h.row x hx).1 (zAc hb) (Qb _), (h.row x hx).2⟩⟩
theorem CoOwn.put {w0 w w4 : World} {B n cap R i : Nat} {o : Obj} {x : El} {pv4 : Value} {t : Vc × Value} {P : List El} (h : CoOwn w0 B w (.slice (some ⟨R, 0, none⟩) n cap) P) (hn : P.length = n) (hi : P[i]? = some x)
  (hg : (w.alloc o).grownBy w4 x.1.ownBlock) (hnew : ∀ b, pv4.ownBlock = some b -> x.1.ownBlock = some b ∨ b = (w.alloc o).heap.size)
  (h4 : w4.ownsRow B 36 4 pv4 (x.2.length + 1) ((x.2.map cellsV).flatten ++ cellsV t)) (ht : t.1.b.length <= 1000000 ∧ ∀ w', Below w0.heap.size w0 w' -> OkV w' t) :
  CoOwn w0 B (w4.setCell ⟨R, i, none⟩ pv4) (.slice (some ⟨R, 0, none⟩) n cap) (P.set i (pv4, x.2 ++ [t])) := by
 have hag : Agree (fun b => x.1.ownBlock = some b) w w4 := (zBd _ w o).thenGrown hg fun i _ h => h
 have hxm := Qc hi
 have hil : i < P.length := (Qf.1 hi).1
 have hx := h.row x hxm
 have hown := h.own
 rw [hn] at hown
 have ho4 : w4.ownsRow B 33 1 (.slice (some ⟨R, 0, none⟩) n cap) n (P.map Prod.fst) := zAj hown hag fun b hb e => zA9 hown hx.1 (by decide) hb e
 have hRp : pv4.ownBlock ≠ some R := zA9 ho4 h4 (by decide) rfl
 have hset : Agree (fun b => b = R) w4 (w4.setCell ⟨R, i, none⟩ pv4) := zAs _ w4 ⟨R, i, none⟩ pv4 rfl
 refine ⟨?_, fun j k y z g hjk hj hk hy => ?_, fun y hy => ?_⟩
 ·have h5 := (ho4.stored i pv4).1
  have e : (P.set i (pv4, x.2 ++ [t])).map Prod.fst = (P.map Prod.fst).set i pv4 := by rw [List.map_set]
  rw [Qk, hn, e]
  exact h5
 ·have hold : ∀ (a : Nat) (u : El) (g' : Nat), a ≠ i -> P[a]? = some u -> u.1.ownBlock = some g' -> pv4.ownBlock ≠ some g' := fun a u g' hai hu hg' e => by
   rcases hnew g' e with e2 | e2
   ·exact h.apart i a x u g' (fun e => hai e.symm) hi hu e2 hg'
   ·have := ((h.row u (Qc hu)).1.lt g' hg').2
    have hs : (w.alloc o).heap.size = w.heap.size + 1 := by simp
    omega
  by_cases hji : j = i
  ·subst hji
   rw [Qg hil] at hj
   cases hj
   rw [Qe hjk] at hk
   exact fun e => hold k z g (fun e => hjk e.symm) hk e hy
  ·rw [Qe (fun e => hji e.symm)] at hj
   by_cases hki : k = i
   ·subst hki
    rw [Qg hil] at hk
    cases hk
    exact hold j y g hji hj hy
   ·rw [Qe (fun e => hki e.symm)] at hk
    exact h.apart j k y z g hjk hj hk hy
 ·obtain ⟨j, hj⟩ := List.getElem?_of_mem hy
  by_cases hji : j = i
  ·subst hji
   rw [Qg hil] at hj
   cases hj
   refine ⟨?_, rfl, fun u hu => ?_⟩
   ·have e1 : ((x.2 ++ [t]).map cellsV).flatten = (x.2.map cellsV).flatten ++ cellsV t := by simp
    rw [List.length_append, List.length_singleton]
    simp only
    rw [e1]
    exact zAj h4 hset fun b hb e => hRp (by rw [hb, e])
   ·rcases List.mem_append.1 hu with hu | hu
    ·exact hx.2.2 u hu
    ·rw [List.mem_singleton.1 hu]; exact ht
  ·rw [Qe (fun e => hji e.symm)] at hj
   have hym := Qc hj
   have h5 := h.row y hym
   have h6 : w4.ownsRow B 36 4 y.1 y.2.length (y.2.map cellsV).flatten := zAj h5.1 hag fun b hb e => h.apart i j x y b (fun e => hji e.symm) hi hj e hb
   exact ⟨zAj h6 hset fun b hb e => zA9 ho4 h6 (by decide) rfl (by rw [hb, e]), h5.2⟩
def ColP (E : List El) (cs : List Int) (q k : Nat) (P : List El) : Prop := ∀ (j : Nat) (x : El), P[j]? = some x -> ∃ y : El, E[j]? = some y ∧ x.row = (if j < q then cs else if j = q then cs.take k else []).map (atT y.row)
theorem ColP.start {E : List El} {cs : List Int} {n : Nat} {v : Value} (hn : n = E.length) : ColP E cs 0 0 (Ql n (v, [])) := fun j x hx => by
 obtain ⟨h1, h2⟩ := Qf.1 hx
 rw [Qi] at h1
 rw [List.getElem_replicate] at h2
 refine ⟨E[j]'(by omega), Qh _, ?_⟩
 rw [<- h2, if_neg (by omega)]
 split <;> rfl
theorem ColP.put {E : List El} {cs : List Int} {q k : Nat} {P : List El} {x y : El} {c : Int} {pv : Value} {t : Vc × Value} (h : ColP E cs q k P) (hx : P[q]? = some x) (hy : E[q]? = some y) (hc : cs[k]? = some c) (ht : t.1 = atT y.row c) : ColP E cs q (k + 1) (P.set q (pv, x.2 ++ [t])) := fun j z hz => by
 have hq := (Qf.1 hx).1
 by_cases hj : j = q
 ·subst hj
  rw [Qg hq] at hz
  cases hz
  obtain ⟨y2, hy2, hr⟩ := h j x hx
  rw [hy] at hy2
  cases hy2
  refine ⟨y, hy, ?_⟩
  rw [if_neg (Qj _), if_pos rfl] at hr
  rw [if_neg (Qj _), if_pos rfl, List.take_add_one, hc, Qm, <- hr]
  show (x.2 ++ [t]).map Prod.fst = _
  rw [Qm]
  show x.row ++ [t.1] = _
  rw [ht]
  rfl
 ·rw [Qe (fun e => hj e.symm)] at hz
  obtain ⟨y2, hy2, hr⟩ := h j z hz
  refine ⟨y2, hy2, ?_⟩
  rw [if_neg hj] at hr ⊢
  exact hr
theorem ColP.next {E : List El} {cs : List Int} {q k : Nat} {P : List El} (h : ColP E cs q k P) (hk : k = cs.length) : ColP E cs (q + 1) 0 P := fun j x hx => by
 obtain ⟨y, hy, hr⟩ := h j x hx
 refine ⟨y, hy, hr.trans ?_⟩
 rcases Nat.lt_trichotomy j q with h1 | h1 | h1
 ·rw [if_pos h1, if_pos (by omega)]
 ·rw [if_neg (by omega), if_pos h1, if_pos (by omega), hk, List.take_length]
 ·rw [if_neg (by omega), if_neg (by omega), if_neg (by omega)]
  split <;> rfl
theorem ColP.done {E : List El} {cs : List Int} {q k : Nat} {P : List El} (h : ColP E cs q k P) (hq : q = E.length) (hl : P.length = E.length) : P.map El.row = E.map fun y => cs.map (atT y.row) := by
 apply List.ext_getElem?
 intro j
 rw [Qd, Qd]
 cases hx : P[j]? with
 | none =>
  rw [List.getElem?_eq_none (by have := List.getElem?_eq_none_iff.1 hx; omega)]
  rfl
 | some x =>
  obtain ⟨y, hy, hr⟩ := h j x hx
  have hj := (Qf.1 hx).1
  rw [hy]
  simp only [Qn, Option.some.injEq]
  rw [hr, if_pos (by omega)]
theorem zH0 : ∃ ei, Try.prog.info? 33 = some ei ∧ ei.zero = some (.slice none 0 0) ∧ ei.size = 1 ∧ ei.bytes = 24 := by
 have h : (Try.prog.info? 33).map (fun i => (i.zero, i.size, i.bytes)) = some (some (.slice none 0 0), 1, 24) := by kernel_rfl
 cases hq : Try.prog.info? 33 with
 | none => rw [hq] at h; cases h
 | some i =>
  rw [hq] at h
  simp only [Qn, Option.some.injEq, Prod.mk.injEq] at h
  exact ⟨i, rfl, h.1, h.2.1, h.2.2⟩
theorem zMv (ks : List Int) (E : List El) (cs : List Int) (hE : E.length <= 1000000) (hcs : cs.length <= 1000) (v cv : Value) (w : World) (hr : RowsIn w E) (hv : Rd w v (E.map Prod.fst)) (hc : Rd w cv (cs.map (Value.int .i64)))
  (hk : KindsR ks (E.map fun y => cs.map (atT y.row))) :
  Calls Try.prog 16 #[v, cv] w fun e w' => ∃ v', e = .returned v' ∧ ∃ Z : List El, (Z.map El.row).Perm (E.map fun y => cs.map (atT y.row)) ∧ Srt (ltC (lexL cmpK) fun x : El => keyR x.row) Z ∧ OwnD w.heap.size w' v' Z ∧ Below w.heap.size w w' := by
 obtain ⟨ao, cap, hvs⟩ : ∃ ao cap, v = .slice ao (E.map Prod.fst).length cap := by obtain ⟨ao, cap, h, _⟩ := hv; exact ⟨ao, cap, h⟩
 obtain ⟨ca, cc, hcv⟩ : ∃ ao cap, cv = .slice ao (cs.map (Value.int .i64)).length cap := by obtain ⟨ao, cap, h, _⟩ := hc; exact ⟨ao, cap, h⟩
 obtain ⟨n, hN⟩ : ∃ n, n = E.length := ⟨_, rfl⟩
 obtain ⟨m, hM⟩ : ∃ m, m = cs.length := ⟨_, rfl⟩
 rw [Qa, <- hN] at hvs
 rw [Qa, <- hM] at hcv
 subst hvs
 subst hcv
 rw [<- hN] at hE
 rw [<- hM] at hcs
 have HN := hid hN
 have HM := hid hM
 have HR := hid hr
 have HV := hid hv
 have HC := hid hc
 have HK := hid hk
 clear hN hM hr hv hc hk
 go_enter Try.func16, Try.ntmps16
 obtain ⟨ei, he1, he2, he3, he4⟩ := zH0
 obtain ⟨W, hmk, hown8, hg8⟩ := run_make_full (P := Try.prog) w w.heap.size 27 33 ei (.slice none 0 0) 1 Try.underlying27 he1 he2 he3 .i64 .i64 n (by rw [he4]; omega) (by unfold maxLen; omega) (Qb _)
 obtain ⟨G, hG⟩ : ∃ G, G = w.heap.size := ⟨_, rfl⟩
 rw [<- hG] at hmk hown8
 have HO8 := hid (show CoOwn w G W (.slice (some ⟨G, 0, none⟩) n n) (Ql n (.slice none 0 0, [])) from by
  refine ⟨?_, fun i j x y g _ hi _ hx => ?_, fun x hx => ?_⟩
  ·rw [show (Value.slice none 0 0).cells = #[Value.slice none 0 0] from rfl, Nat.mul_one, toList_madeCells_one] at hown8
   rw [Qi, List.map_replicate]
   exact hown8
  ·rw [(Qo.1 (Qc hi)).2] at hx
   cases hx
  ·rw [(Qo.1 hx).2]
   exact ⟨World.ownsRow_nil .., rfl, fun t h => by cases h⟩)
 have HB8 := hid (show Below w.heap.size w W from ⟨hg8.os, hg8.tape, hg8.output, hg8.size, fun i hi => hg8.block i hi (by simp)⟩)
 have HGE := hid hG
 clear hown8 hg8 he1 he2 he3 he4 hG
 go_upto_region 2 with (fail)
 clear hmk
 go_wp2_with fail
 go_loopw [15] (fun i wr => ∃ (q : Nat) (P : List El), q <= n ∧ i = .int .i64 (q : Int) ∧ P.length = n ∧ CoOwn w G wr (.slice (some ⟨G, 0, none⟩) n n) P ∧ ColP E cs q 0 P ∧ Below w.heap.size w wr) (fun i _ => n - (intOf i).toNat)
 case atStart => exact ⟨0, _, Qp _, rfl, Qi .., HO8.out, ColP.start HN.out, HB8.out⟩
 case round =>
  obtain ⟨q, P, hq, rfl, hpl, hco, hcp, hb⟩ := hrel
  have HPL := hid hpl
  have HCO := hid hco
  have HCP := hid hcp
  have HB := hid hb
  clear hpl hco hcp hb
  by_cases hlt : q < n
  ·obtain ⟨y, hy⟩ : ∃ y, E[q]? = some y := ⟨_, Qh (by rw [<- HN.out]; exact hlt)⟩
   have HY := hid hy
   obtain ⟨hy1, hy2, hy3⟩ := HR.out y (Qc hy)
   have HY1 := hid hy1
   have HY2 := hid hy2
   have HY3 := hid hy3
   obtain ⟨vb, vo, rfl, hcell⟩ := (zA4 (HV.out.kept HB.out)).2 (by omega)
   have k0 : wr.cell? ⟨vb, vo + q, none⟩ = some y.1 := hcell q y.1 hlt (by rw [Qd, hy]; rfl)
   obtain ⟨ya, yc, hys⟩ := zAl hy1.1
   obtain ⟨yn, hyn⟩ : ∃ yn, yn = y.2.length := ⟨_, rfl⟩
   rw [hys, Qa, <- hyn] at k0
   have HAT := hid (show ∀ (c : Int) (w' : World), Below w.heap.size w w' -> Calls Try.prog 45 #[.slice ya yn yc, .int .i64 c] w' fun e w'' => e = .returned (aggV (atP y.2 c)) ∧ Below w'.heap.size w' w'' from fun c w' h => by
    have h2 := zEv y.2 y.1 c w' (hy1.kept h) hy2
    rw [hys, Qa, <- hyn] at h2
    exact h2)
   have hlti : (q : Int) < (n : Int) := by omega
   have hq0 : (0 : Int) <= (q : Int) := by omega
   have hq1 : IntKind.i64.wrap ((q : Int) + 1) = (q : Int) + 1 := Qq _ (by omega)
   clear hy hy1 hy2 hy3 hcell hys hyn
   go_wp2_with fail
   clear k0
   go_loopw [22] (fun i wk => ∃ (k : Nat) (P : List El), k <= m ∧ i = .int .i64 (k : Int) ∧ P.length = n ∧ CoOwn w G wk (.slice (some ⟨G, 0, none⟩) n n) P ∧ ColP E cs q k P ∧ Below w.heap.size w wk) (fun i _ => m - (intOf i).toNat)
   case atStart => exact ⟨0, P, Qp _, rfl, HPL.out, HCO.out, HCP.out, HB.out⟩
   case round =>
    obtain ⟨k, Q, hk, rfl, hpl, hco, hcp, hb⟩ := hrel
    have HQL := hid hpl
    have HQO := hid hco
    have HQP := hid hcp
    have HBk := hid hb
    clear hpl hco hcp hb
    by_cases hltk : k < m
    ·obtain ⟨c, hc⟩ : ∃ c, cs[k]? = some c := ⟨_, Qh (by rw [<- HM.out]; exact hltk)⟩
     obtain ⟨cb, co, rfl, hcc⟩ := (zA4 (HC.out.kept HBk.out)).2 (by omega)
     have k1 : wr.cell? ⟨cb, co + k, none⟩ = some (.int .i64 c) := hcc k _ hltk (by rw [Qd, hc]; rfl)
     obtain ⟨x, hx⟩ : ∃ x, Q[q]? = some x := ⟨_, Qh (by rw [HQL.out]; exact hlt)⟩
     have hxr := HQO.out.row x (Qc hx)
     obtain ⟨y2, hy2, hxe⟩ := HQP.out q x hx
     have hxl : x.2.length = k := by
      have h := congrArg Qr hxe
      rw [if_neg (Qj _), if_pos rfl, Qa, List.length_take] at h
      unfold El.row at h
      rw [Qa, <- HM.out] at h
      omega
     rw [hxl] at hxr
     obtain ⟨xa, xc, hxs⟩ := zBz hxr.1
     have hgo : wr.ownsRow G 33 1 (.slice (some ⟨G, 0, none⟩) n n) n (Q.map Prod.fst) := by have h := HQO.out.own; rw [HQL.out] at h; exact h
     have HGO := hid hgo
     have k2 : wr.cell? ⟨G, q, none⟩ = some x.1 := (hgo.cellAt q (by omega)).trans (by rw [Qd, hx]; rfl)
     have HXL := hid hxl
     have HXR := hid hxr
     have HX := hid hx
     have HCK := hid hc
     obtain ⟨xv, xl⟩ := x
     simp only at hxs k2
     subst hxs
     obtain ⟨t, htd⟩ : ∃ t, t = atP y.2 c := ⟨_, rfl⟩
     have HTO := hid (show t.1.b.length <= 1000000 ∧ ∀ w', Below w.heap.size w w' -> OkV w' t from by
      rw [htd]
      exact ⟨(zC5 y.2 c).elim (fun h => by rw [h]; simp [nilQ]) (fun h => (HY3.out _ h).2), fun w' h => (zCw HY1.out c).kept h⟩)
     have HTE := hid (show t.1 = atT y.row c by rw [htd, zBo]; rfl)
     have HCALL := hid (show ∀ w', Below wr.heap.size wr w' -> Calls Try.prog 45 #[.slice ya yn yc, .int .i64 c] w' fun e w'' => e = .returned (aggV t) ∧ Below w'.heap.size w' w'' from fun w' h => by rw [htd]; exact HAT.out c w' (zAa HBk.out h))
     obtain ⟨⟨tu, tk, tn, tb⟩, ts⟩ := t
     obtain ⟨ta, tc, hts⟩ := zAo (HTO.out.2 w (Qt _ _)).1
     simp only at hts
     subst hts
     obtain ⟨tm, htm⟩ : ∃ tm, tm = tb.length := ⟨_, rfl⟩
     unfold aggV at HCALL
     simp only at HCALL
     rw [<- htm] at HCALL HTO HTE
     have HTM := hid htm
     have hlki : (k : Int) < (m : Int) := by omega
     have hk0 : (0 : Int) <= (k : Int) := by omega
     have hk1 : IntKind.i64.wrap ((k : Int) + 1) = (k : Int) + 1 := Qq _ (by omega)
     clear hc hcc hx hxr hy2 hxe hxl hgo htd htm
     go_upto_region 8 with (fail)
     have fr := HGO.out.frozenAt q
     go_region_law (first
      | (go_simp; go_at_call 45; refine (HCALL.out _ (by first | exact Qt _ _ | exact zAb _ _)).mono ?_; rintro e w2 ⟨rfl, hb2⟩; have HB2 := hid (show Below wr.heap.size wr w2 from by first | exact (zAb _ wr).trans hb2 | exact zAa (zAb _ wr) hb2 | exact hb2); have HG2 := hid (show w2.ownsRow G 33 1 (.slice (some ⟨G, 0, none⟩) n n) n (Q.map Prod.fst) from zAf HGO.out (zAc HB2.out) (Qb _)); have k3 : w2.cell? ⟨G, q, none⟩ = some (.slice xa k xc) := (HB2.out.cell (Qu _ _ k2)).trans k2; have k4 : (w2.alloc (.cells #[.bool tu, .int .i64 tk, .int .i64 tn, .slice ta tm tc] 36)).cell? ⟨G, q, none⟩ = some (.slice xa k xc) := (World.cell?_alloc_old _ _ _ (Nat.ne_of_lt (Qu _ _ k3))).trans k3; have HOX := hid (show (w2.alloc (.cells #[.bool tu, .int .i64 tk, .int .i64 tn, .slice ta tm tc] 36)).ownsRow G 36 4 (.slice xa k xc) k (xl.map cellsV).flatten from (zAf HXR.out.1 (zAc HB2.out) (Qb _)).alloc _); have HSZ := hid (show G <= (w2.alloc (.cells #[.bool tu, .int .i64 tk, .int .i64 tn, .slice ta tm tc] 36)).heap.size by have := HB2.out.size; have := HBk.out.size; rw [HGE.out]; simp; omega))
      | (refine zAh zCc (by rfl) _ _ (by rfl) G _ _ _ (by rfl) HOX.out _ [[.bool tu, .int .i64 tk, .int .i64 tn, .slice ta tm tc]] (by rfl) (zCr w2 #[.bool tu, .int .i64 tk, .int .i64 tn, .slice ta tm tc] 36 4 rfl) (zDm tu tk tn ta tm tc) (by simp; omega) HSZ.out (k + 1) rfl ?_; intro ao4 cap4 w4 hown4 hgrow4 hnew4; have HO4 := hid hown4; have HG4 := hid hgrow4; have HN4 := hid hnew4; have HX4 := hid (show w4.ownsRow G 33 1 (.slice (some ⟨G, 0, none⟩) n n) n (Q.map Prod.fst) from zAj HG2.out ((zBd _ w2 (.cells #[.bool tu, .int .i64 tk, .int .i64 tn, .slice ta tm tc] 36)).thenGrown HG4.out fun i _ h => h) fun b hb e => zA9 HG2.out (zAf HXR.out.1 (zAc HB2.out) (Qb _)) (by decide) hb e); have k5 : w4.cell? ⟨G, q, none⟩ = some (.slice xa k xc) := (HX4.out.cellAt q (by omega)).trans (by rw [Qd, HX.out]; rfl); have fr4 := HX4.out.frozenAt q; clear hown4 hgrow4 hnew4))
     all_goals
      have HQ4 := hid (show CoOwn w G (w4.setCell ⟨G, q, none⟩ (.slice ao4 (k + 1) cap4)) (.slice (some ⟨G, 0, none⟩) n n) (Q.set q (.slice ao4 (k + 1) cap4, xl ++ [(⟨tu, tk, tn, tb⟩, .slice ta tm tc)])) from
       (HQO.out.kept HB2.out).put HQL.out HX.out HG4.out HN4.out (by rw [HXL.out]; exact HO4.out) ⟨by show tb.length <= _; rw [<- HTM.out]; exact HTO.out.1, HTO.out.2⟩)
      have HB4 := hid (show Below w.heap.size w (w4.setCell ⟨G, q, none⟩ (.slice ao4 (k + 1) cap4)) from (((zAa HBk.out HB2.out).alloc (by have := HB2.out.size; have := HBk.out.size; omega) _).grown HG4.out (by rw [<- HGE.out]; exact HSZ.out) (by rw [<- HGE.out]; exact zAg HOX.out)).setCell (p := ⟨G, q, none⟩) (by show _ <= G; rw [HGE.out]; exact Qb _) _)
      go_wp2_with fail
      go_roundw
      case rel =>
       exact ⟨k + 1, _, by omega, by go_num, by rw [Qk]; exact HQL.out, HQ4.out, HQP.out.put HX.out HY.out HCK.out HTE.out, HB4.out⟩
      case measure => simp [intOf]; omega
    ·have hlki : ¬ (k : Int) < (m : Int) := by omega
     have hkm : k = m := by omega
     go_wp2_with fail
     go_roundw
     case rel =>
      exact ⟨q + 1, Q, by omega, by go_num, HQL.out, HQO.out, HQP.out.next (by rw [hkm, HM.out]), HBk.out⟩
     case measure => simp [intOf]; omega
  ·have hlti : ¬ (q : Int) < (n : Int) := by omega
   have hqn : q = n := by omega
   have hdone := HCP.out.done (by rw [hqn, HN.out]) (by rw [HPL.out, HN.out])
   have hown := HCO.out.own
   rw [HPL.out] at hown
   have HS := hid (zH9 ks P (by rw [hdone]; exact HK.out) (by rw [HPL.out]; exact hE) (.slice (some ⟨G, 0, none⟩) n n) wr (Rd.of_owns hown) (fun x hx => by
    have h := HCO.out.row x hx
    refine ⟨h.rd HB.out, ?_, fun t ht => (h.2.2 t ht).1⟩
    have h2 : x.row ∈ P.map El.row := List.mem_map_of_mem hx
    rw [hdone] at h2
    obtain ⟨y, _, hy⟩ := List.mem_map.1 h2
    have h3 := congrArg Qr hy
    rw [Qa] at h3
    unfold El.row at h3
    rw [Qa] at h3
    have := HM.out
    omega))
   rw [hdone] at HS
   clear hdone hown hqn
   go_wp2_with fail
   refine HS.out.mono ?_
   rintro e W2 ⟨v', rfl, Z, hZ1, hZ2, hZ3, hZ4⟩
   go_wp2_with fail
   go_ret
   exact ⟨_, rfl, Z, hZ1, hZ2, hZ3.above (Above.refl _ _) HB.out.size, zAa HB.out hZ4⟩
end Go.Proofs.Ytnfjdoeemnhkbaa
