import Derived.Test.YtnfjdoeemnhkbaaAgk
set_option linter.unusedVariables false
set_option linter.unusedSimpArgs false
set_option maxRecDepth 100000
set_option maxHeartbeats 8000000
open Go.Lib (hid)
namespace Go.Proofs.Ytnfjdoeemnhkbaa
open Go.RowKit Sy
open _root_.Nat renaming le_refl -> Qa, zero_le -> Qh
open _root_.List renaming mem_singleton -> Qb, map_append -> Qc, length_map -> Qd, mem_of_getElem? -> Qe, length_append -> Qf, getElem?_map -> Qi, mem_append -> Qj, mem_map -> Qk, getElem?_eq_getElem -> Ql
open Go.RowKit.Below renaming refl -> Qg
open Go renaming cell_of_row -> Qm
def RetT (w0 : World) (o : Option Vc) (e : Ending) : Prop := match o with
 | some x => ∃ s, e = .returned (.tuple #[aggV (x, s), .bool true]) ∧ x.b.length <= 1000000 ∧ ∀ w', Below w0.heap.size w0 w' -> OkV w' (x, s)
 | none => e = .returned (.tuple #[.agg #[.bool false, .int .i64 0, .int .i64 0, .slice none 0 0], .bool false])
def RowsIn (w0 : World) (E : List El) : Prop := ∀ x ∈ E, RdP w0 x.1 x.2 ∧ x.2.length <= 1000000 ∧ ∀ t ∈ x.2, I64 t.1.n ∧ t.1.b.length <= 1000000
def TotOK (a : Int × Int) : Prop := ∀ (E : List El) (v : Value) (w0 w : World), Below w0.heap.size w0 w -> E.length <= 1000000 -> Rd w v (E.map Prod.fst) -> RowsIn w0 E ->
 Calls Try.prog 46 #[v, .agg #[.int .i64 a.1, .int .i64 a.2]] w fun e w' => RetT w0 (totT (E.map El.row) a.1 a.2) e ∧ Below w.heap.size w w'
theorem zJ7 (c : Int) : TotOK (1, c) := fun E v w0 w hb hl hv hr => by
 refine (zJ6 E hl v c w hv).mono ?_
 rintro e w' ⟨h, hb2⟩
 refine ⟨?_, hb2⟩
 have ht : totT (E.map El.row) 1 c = some ⟨false, 1, ((E.map El.row).length : Int), []⟩ := by unfold totT; rw [if_pos rfl]
 rw [ht] at h ⊢
 obtain ⟨s, h1, h2⟩ := h
 exact ⟨s, h1, by simp, fun w'' _ => h2.bare _⟩
theorem zMp (c : Int) : TotOK (2, c) := fun E v w0 w hb hl hv hr => by
 refine (zMm E hl v c w hv (fun x hx => ⟨(hr x hx).1.kept hb, (hr x hx).2.1⟩) (fun x hx t ht => ((hr x hx).2.2 t ht).1)).mono ?_
 rintro e w' ⟨h, hb2⟩
 refine ⟨?_, hb2⟩
 obtain ⟨o, ho⟩ : ∃ o, o = totT (E.map El.row) 2 c := ⟨_, rfl⟩
 have hob : ∀ x, o = some x -> x.b = [] := fun x hx => by
  rw [ho] at hx
  unfold totT at hx
  rw [if_neg (by decide), if_pos rfl] at hx
  split at hx
  ·cases hx; rfl
  ·cases hx
 rw [<- ho] at h ⊢
 cases o with
 | none => exact h
 | some x =>
  obtain ⟨s, h1, h2⟩ := h
  have hx := hob x rfl
  obtain ⟨u, k, n, b⟩ := x
  simp only at hx
  subst hx
  exact ⟨s, h1, by simp, fun w'' _ => h2.bare _⟩
def PsRd (w : World) (v : Value) (Ps : List (Value × List El)) : Prop := Rd w v (Ps.map Prod.fst) ∧ ∀ p ∈ Ps, Rd w p.1 (p.2.map Prod.fst)
theorem PsRd.kept {w w' : World} {v : Value} {Ps : List (Value × List El)} (h : PsRd w v Ps) (hb : Below w.heap.size w w') : PsRd w' v Ps := ⟨h.1.kept hb, fun p hp => (h.2 p hp).kept hb⟩
theorem PsOwn.rd {B : Nat} {w : World} {v : Value} {Ps : List (Value × List El)} (h : PsOwn B w v Ps) : PsRd w v Ps := ⟨Rd.of_owns h.own, fun p hp => Rd.of_owns (h.part p hp)⟩
def RowOf (g : Int) (ags : List (Int × Int)) (p : List El) (r : List Vc) : Prop :=
 ∃ ts : List Vc, r = (if 0 <= g then [atT ((p.map El.row).headD []) g] else []) ++ ts ∧ ags.map (fun a => totT (p.map El.row) a.1 a.2) = ts.map some
theorem RdRA.agreeO {K K0 sz n : Nat} {w w' : World} {v v0 : Value} {l : List (Vc × Value)} {E0 : TypeId} {xs : List Value} (h : RdRA K w v l) (ha : Agree (fun b => v0.ownBlock = some b) w w') (h0 : w.ownsRow K0 E0 sz v0 n xs) (h1 : E0 ≠ 36) (h2 : E0 ≠ 5) : RdRA K w' v l :=
 zEt (zAj h.2.2.1 ha fun i hi e => zA9 h0 h.2.2.1 h1 e hi) fun t ht => ⟨zAj (h.2.2.2 t ht) ha fun i hi e => zA9 h0 (h.2.2.2 t ht) h2 e hi, (h.2.1 t ht).2⟩
theorem OwnD.add {K n cap : Nat} {ao : Option Addr} {w w3 w4 : World} {o : Obj} {v4 : Value} {x : El} {T : List El} (h : OwnD K w (.slice ao n cap) T) (hn : T.length = n) (hb : Below w.heap.size w w3) (hx : RdRA K w3 x.1 x.2) (hg : (w3.alloc o).grownBy w4 (Value.slice ao n cap).ownBlock)
  (h4 : w4.ownsRow K 33 1 v4 (T.length + 1) (T.map Prod.fst ++ [x.1])) : OwnD K w4 v4 (T ++ [x]) := by
 subst hn
 have ho := (zAf h.1 (zAc hb) (Qa _)).alloc o
 have hag : Agree (fun b => (Value.slice ao T.length cap).ownBlock = some b) (w3.alloc o) w4 := zGh hg
 have hal : Above K w3 (w3.alloc o) := zAc (zAi w3 o)
 refine ⟨by rw [Qf, Qc]; exact h4, fun y hy => ?_⟩
 rcases Qj.1 hy with hy | hy
 ·exact (((h.2 y hy).above (zAc hb) (Qa _)).above hal (Qa _)).agreeO hag ho (by decide) (by decide)
 ·rw [Qb.1 hy]
  exact (hx.above hal (Qa _)).agreeO hag ho (by decide) (by decide)
theorem zIa : (Try.prog.info? 36).map (fun i => (i.zero, i.size, i.bytes)) = some (some (.agg #[.bool false, .int .i64 0, .int .i64 0, .slice none 0 0]), 4, 48) := by kernel_rfl
theorem zCc : Elm Try.prog 33 36 4 48 := by
 cases hq : Try.prog.info? 36 with
 | none => have h := zIa; rw [hq] at h; cases h
 | some i =>
  have h := zIa
  rw [hq] at h
  simp only [Option.map_some, Option.some.injEq, Prod.mk.injEq] at h
  exact ⟨Try.underlying33, ⟨i, _, hq, h.1, h.2.1, by rw [h.2.2], rfl⟩, by decide, by decide⟩
def RowG (w0 : World) (B : Nat) (w : World) (v : Value) (n : Nat) (vs : List (Vc × Value)) : Prop :=
 w.ownsRow B 36 4 v n (vs.map cellsV).flatten ∧ n = vs.length ∧ ∀ t ∈ vs, t.1.b.length <= 1000000 ∧ ∀ w', Below w0.heap.size w0 w' -> OkV w' t
theorem RowG.rd {w0 w : World} {B n : Nat} {v : Value} {vs : List (Vc × Value)} (h : RowG w0 B w v n vs) (hb : Below w0.heap.size w0 w) : RdP w v vs :=
 ⟨zCb (ls := vs.map cellsV) h.1 (by rw [Qd]; exact h.2.1) (fun t ht => by obtain ⟨x, _, rfl⟩ := Qk.1 ht; rfl), fun t ht => (h.2.2 t ht).2 w hb⟩
theorem zDm (u : Bool) (k n : Int) (a : Option Addr) (m c : Nat) : Ones 4 [[.bool u, .int .i64 k, .int .i64 n, .slice a m c]] := fun t ht => by
 rw [Qb.1 ht]
 exact ⟨rfl, fun x hx => by simp only [List.mem_cons, List.not_mem_nil, or_false] at hx; rcases hx with rfl | rfl | rfl | rfl <;> rfl⟩
theorem zLg (P : List (List El) -> Prop) (ags : List (Int × Int)) (hT : ∀ a ∈ ags, TotOK a) (has : ags.length <= 1000) (E : List El) (g : Int) (v av : Value) (w : World) (hr : RowsIn w E)
  (hP : ∀ Ps, P Ps -> (∀ p ∈ Ps, (∀ x ∈ p, x ∈ E) ∧ p.length <= 1000000 ∧ (0 <= g -> p ≠ [])) ∧ Ps.length <= 1000000)
  (hav : RdS w 2 av (ags.map fun a => [.int .i64 a.1, .int .i64 a.2])) (hvs : ∃ a n c, v = .slice a n c)
  (hpc : Calls Try.prog 44 #[v, .int .i64 g] w fun e w' => ∃ v', e = .returned v' ∧ ∃ Ps : List (Value × List El), PsRd w' v' Ps ∧ P (Ps.map Prod.snd) ∧ Below w.heap.size w w') :
  Calls Try.prog 11 #[v, .int .i64 g, av] w fun e w' => ∃ Ps : List (List El), P Ps ∧ Below w.heap.size w w' ∧
   ((∃ v', e = .returned (.tuple #[v', .bool true]) ∧ ∃ T : List El, OwnD w.heap.size w' v' T ∧ T.length = Ps.length ∧ ∀ (i : Nat) (p : List El) (x : El), Ps[i]? = some p -> T[i]? = some x -> RowOf g ags p x.row) ∨
    (e = .returned (.tuple #[.slice none 0 0, .bool false]) ∧ ∃ p ∈ Ps, ∃ a ∈ ags, totT (p.map El.row) a.1 a.2 = none)) := by
 obtain ⟨va, vn, vc, rfl⟩ := hvs
 obtain ⟨aa, ac, rfl⟩ := zAl hav
 obtain ⟨an, han⟩ : ∃ an, an = ags.length := ⟨_, rfl⟩
 rw [Qd, <- han] at hav ⊢
 have HAN := hid han
 have HAV := hid hav
 have HT := hid hT
 have HR := hid hr
 have HP := hid hP
 have HPC := hid hpc
 have han6 : an <= 1000 := by rw [han]; exact has
 clear han hav hT hr hP hpc has
 go_enter Try.func11, Try.ntmps11
 go_wp2_with fail
 refine HPC.out.mono ?_
 rintro e W ⟨pv, rfl, Ps, hps, hpp, hb⟩
 have HPS := hid hps
 have HPP := hid hpp
 have HBW := hid hb
 obtain ⟨pa, pc, hpv⟩ : ∃ a c, pv = .slice a (Ps.map Prod.fst).length c := by obtain ⟨a, c, h, _⟩ := hps.1; exact ⟨a, c, h⟩
 obtain ⟨pn, hpn⟩ : ∃ pn, pn = Ps.length := ⟨_, rfl⟩
 rw [Qd, <- hpn] at hpv
 subst hpv
 have HPN := hid hpn
 have hpn6 : pn <= 1000000 := by have := (HP.out _ hpp).2; rw [Qd] at this; omega
 have HPE := hid (HP.out _ hpp).1
 clear hps hpp hb hpn
 go_wp2_with fail
 go_loopw [8, 20] (fun o i wr => ∃ (q : Nat) (oa : Option Addr) (oc : Nat) (T : List El), q <= pn ∧ i = .int .i64 (q : Int) ∧ o = .slice oa q oc ∧ T.length = q ∧ OwnD W.heap.size wr (.slice oa q oc) T ∧ (∀ (j : Nat) (p : List El) (x : El), (Ps.map Prod.snd)[j]? = some p -> T[j]? = some x -> RowOf g ags p x.row) ∧ Below W.heap.size W wr) (fun _ i _ => pn - (intOf i).toNat)
 case atStart => exact ⟨0, none, 0, [], Qh _, rfl, rfl, rfl, OwnD.nil _ _, (fun j p x _ h => by simp at h), Qg _ _⟩
 case round =>
  obtain ⟨q, oa, oc, T, hq, rfl, rfl, htl, hod, hro, hb⟩ := hrel
  have HTL := hid htl
  have HOD := hid hod
  have HRO := hid hro
  have HB := hid hb
  have HBw := hid (zAa HBW.out hb)
  clear htl hod hro hb
  by_cases hlt : q < pn
  ·obtain ⟨⟨pv, p⟩, hp⟩ : ∃ p, Ps[q]? = some p := ⟨_, Ql (by rw [<- HPN.out]; exact hlt)⟩
   have hlti : (q : Int) < (pn : Int) := by omega
   have hq0 : (0 : Int) <= (q : Int) := by omega
   obtain ⟨pb, po, rfl, hpcell⟩ := (zA4 (HPS.out.kept HB.out).1).2 (by omega)
   have cp : wr.cell? ⟨pb, po + q, none⟩ = some pv := hpcell q pv hlt (by rw [Qi, hp]; rfl)
   have hprd := (HPS.out.kept HB.out).2 (pv, p) (Qe hp)
   have hpin := HPE.out p (Qk.2 ⟨(pv, p), Qe hp, rfl⟩)
   obtain ⟨xa, xc, hxs⟩ : ∃ a c, pv = .slice a (p.map Prod.fst).length c := by obtain ⟨a, c, h, _⟩ := hprd; exact ⟨a, c, h⟩
   obtain ⟨xn, hxn⟩ : ∃ xn, xn = (p.map Prod.fst).length := ⟨_, rfl⟩
   rw [<- hxn] at hxs
   subst hxs
   have HXN := hid hxn
   have HPQ := hid (show (Ps.map Prod.snd)[q]? = some p by rw [Qi, hp]; rfl)
   have HPI := hid hpin
   have HPR := hid hprd
   have HRP := hid (show RowsIn w p from fun x hx => HR.out x (hpin.1 x hx))
   obtain ⟨wq, hwq⟩ : ∃ wq : World, wq = wr := ⟨_, rfl⟩
   rw [<- hwq] at cp HOD HB HBw HPR ⊢
   clear hwq hpcell hprd hpin hxn hp
   obtain ⟨H, hH⟩ : ∃ H : List Vc, H = if 0 <= g then [atT ((p.map El.row).headD []) g] else [] := ⟨_, rfl⟩
   have HH := hid hH
   clear hH
   go_upto_if 25 with (fail)
   go_cut [11] (fun r wx => ∃ (vs : List (Vc × Value)) (ra : Option Addr) (rc vn : Nat), r = .slice ra vn rc ∧ RowG w wq.heap.size wx (.slice ra vn rc) vn vs ∧ vs.map Prod.fst = H ∧ vn <= 1 ∧ Below wq.heap.size wq wx)
   case first =>
    by_cases hg : 0 <= g
    ·obtain ⟨x0, p0, hp0⟩ : ∃ x0 p0, p = x0 :: p0 := by
      cases hpp : p with
      | nil => exact absurd hpp (HPI.out.2.2 hg)
      | cons x r => exact ⟨x, r, rfl⟩
     have hgi : g ≥ 0 := hg
     have HH2 := hid (show H = [(atP x0.2 g).1] by rw [HH.out, if_pos hg, hp0, zBo]; rfl)
     obtain ⟨hrd0, hl0, hbb⟩ := HRP.out x0 (by rw [hp0]; exact List.mem_cons_self)
     have hxn0 : 0 < xn := by rw [HXN.out, hp0]; simp
     have hxn0i : (0 : Int) < (xn : Int) := by omega
     obtain ⟨b, off, rfl, hcell⟩ := (zA4 HPR.out).2 hxn0
     have c0 : wq.cell? ⟨b, off, none⟩ = some x0.1 := by have h := hcell 0 x0.1 hxn0 (by rw [hp0]; rfl); simpa using h
     have HAT := hid (zEv x0.2 x0.1 g wq (hrd0.kept HBw.out) hl0)
     obtain ⟨sa, sc, hes⟩ := zAl hrd0.1
     obtain ⟨sn, hsn⟩ : ∃ sn, sn = (x0.2.map cellsV).length := ⟨_, rfl⟩
     rw [<- hsn] at hes
     rw [hes] at c0 HAT
     have HOKP := hid (show ∀ w', Below w.heap.size w w' -> OkV w' (atP x0.2 g) from fun w' h => zCw (hrd0.kept h) g)
     have HBP := hid (show (atP x0.2 g).1.b.length <= 1000000 from by
      rcases zC5 x0.2 g with h | h
      ·rw [h]; simp [nilQ]
      ·exact (hbb _ h).2)
     obtain ⟨t, ht⟩ : ∃ t, t = atP x0.2 g := ⟨_, rfl⟩
     rw [<- ht] at HAT HOKP HBP HH2
     obtain ⟨ta, tc, hts⟩ := zAo (HOKP.out w (Qg _ _)).1
     obtain ⟨⟨tu, tk, tn, tb⟩, tv⟩ := t
     obtain ⟨tm, htm⟩ : ∃ tm, tm = tb.length := ⟨_, rfl⟩
     simp only at hts
     rw [<- htm] at hts
     subst hts
     unfold aggV at HAT
     simp only at HAT
     clear hcell hrd0 hl0 hbb hes hsn ht htm hp0
     go_wp2_with fail
     refine HAT.out.mono ?_
     rintro e w2 ⟨rfl, hb2⟩
     have HB2 := hid hb2
     have HOWN := hid (show (w2.alloc (.cells #[.bool tu, .int .i64 tk, .int .i64 tn, .slice ta tm tc] 36)).ownsRow wq.heap.size 36 4 (.slice none 0 0) 0 [] from World.ownsRow_nil ..)
     have HRD := hid (zCr w2 #[.bool tu, .int .i64 tk, .int .i64 tn, .slice ta tm tc] 36 4 rfl)
     have HSZ := hid (show wq.heap.size <= (w2.alloc (.cells #[.bool tu, .int .i64 tk, .int .i64 tn, .slice ta tm tc] 36)).heap.size by have := hb2.size; simp; omega)
     clear hb2 c0
     go_wp2_with (at_builtin; go_must (refine zAq zCc rfl _ _ rfl wq.heap.size _ _ _ rfl HOWN.out _ [[.bool tu, .int .i64 tk, .int .i64 tn, .slice ta tm tc]] rfl HRD.out (zDm _ _ _ _ _ _) (by simp) HSZ.out 1 rfl ?_); intro ao4 cap4 w4 hown4 hgrow4 hnew4; have HO4 := hid hown4; have HG4 := hid hgrow4; clear hown4 hgrow4 hnew4)
     go_meet
     refine ⟨[(⟨tu, tk, tn, tb⟩, .slice ta tm tc)], ao4, cap4, 1, rfl, ⟨?_, rfl, fun t ht => ?_⟩, by rw [HH2.out]; rfl, Qa _, (HB2.out.alloc HB2.out.size _).grown HG4.out HSZ.out (zAg HOWN.out)⟩
     ·have h := HO4.out
      simpa [cellsV] using h
     ·rw [Qb.1 ht]
      exact ⟨HBP.out, HOKP.out⟩
    ·have hgi : ¬ g ≥ 0 := hg
     have HH2 := hid (show H = [] by rw [HH.out, if_neg hg])
     go_wp2_with fail
     go_meet
     exact ⟨[], none, 0, 0, rfl, ⟨World.ownsRow_nil .., rfl, fun t ht => by cases ht⟩, HH2.out.symm, Qh _, Qg _ _⟩
   case rest =>
    obtain ⟨vs0, ra0, rc0, vn0, rfl, hrg, hvm, hvn, hbx⟩ := hcut
    obtain ⟨wx, hwx⟩ : ∃ wx : World, wx = wc := ⟨_, rfl⟩
    rw [<- hwx] at hrg hbx ⊢
    have HRG := hid hrg
    have HVM := hid hvm
    have HBX := hid hbx
    clear hwx hrg hvm hbx cp
    go_wp2_with fail
    go_loopw [11, 36] (fun r i wr => ∃ (j : Nat) (vs : List (Vc × Value)) (ra : Option Addr) (rc vn : Nat) (ts : List Vc), j <= an ∧ i = .int .i64 (j : Int) ∧ r = .slice ra vn rc ∧ RowG w wq.heap.size wr (.slice ra vn rc) vn vs ∧ vs.map Prod.fst = H ++ ts ∧ (ags.take j).map (fun a => totT (p.map El.row) a.1 a.2) = ts.map some ∧ vn <= 1 + j ∧ Below wq.heap.size wq wr) (fun _ i _ => an - (intOf i).toNat)
    case atStart => exact ⟨0, vs0, ra0, rc0, vn0, [], Qh _, rfl, rfl, HRG.out, by rw [HVM.out, List.append_nil], by simp, by omega, HBX.out⟩
    case round =>
     obtain ⟨j, vs, ra, rc, vn, ts, hj, rfl, rfl, hrg, hvm, hts, hvn, hb⟩ := hrel
     have HRGj := hid hrg
     have HVMj := hid hvm
     have HTSj := hid hts
     have HBj := hid hb
     have HBwj := hid (zAa HBw.out hb)
     clear hrg hvm hts hb
     by_cases hlj : j < an
     ·obtain ⟨a, ha⟩ : ∃ a, ags[j]? = some a := ⟨_, Ql (by rw [<- HAN.out]; exact hlj)⟩
      have hlji : (j : Int) < (an : Int) := by omega
      have hj0 : (0 : Int) <= (j : Int) := by omega
      have hav := HAV.out.kept HBwj.out
      obtain ⟨b, off, rfl, hcell⟩ := hav.at (k := j) (t := [.int .i64 a.1, .int .i64 a.2]) (by rw [Qi, ha]; rfl)
      have k0 : wr.cell? ⟨b, off + j * 2, none⟩ = some (.int .i64 a.1) := by have h := hcell 0 _ rfl; simpa using h
      have k1 : wr.cell? ⟨b, off + j * 2 + 1, none⟩ = some (.int .i64 a.2) := hcell 1 _ rfl
      have HAJ := hid ha
      have HTOT := hid (fun w' (h : Below wr.heap.size wr w') => HT.out a (Qe ha) p (.slice xa xn xc) w w' (zAa HBwj.out h) HPI.out.2.1 (HPR.out.kept (zAa HBj.out h)) HRP.out)
      obtain ⟨ot, hot⟩ : ∃ ot, ot = totT (p.map El.row) a.1 a.2 := ⟨_, rfl⟩
      rw [<- hot] at HTOT
      have HOT := hid hot
      obtain ⟨ak, ac2⟩ := a
      simp only at k0 k1 HTOT
      have HBA := hid (zAi wr (.cells #[.int .i64 ak, .int .i64 ac2] 32))
      clear hav hcell ha hot
      go_wp2_with fail
      refine (HTOT.out _ HBA.out).mono ?_
      rintro e w2 ⟨hret, hb2⟩
      have HB2 := hid (zAa HBA.out hb2)
      clear hb2 k0 k1
      cases ot with
      | none =>
       obtain rfl := hret
       go_wp2_with fail
       go_ret2
       refine ⟨Ps.map Prod.snd, HPP.out, (zAa HBwj.out HB2.out).alloc (by have := (zAa HBwj.out HB2.out).size; exact this) _, .inr ⟨rfl, p, Qe HPQ.out, (ak, ac2), Qe HAJ.out, HOT.out.symm⟩⟩
      | some x =>
       obtain ⟨s, rfl, hxb, hxo⟩ := hret
       obtain ⟨sa, sc, hss⟩ := zAo (hxo w (Qg _ _)).1
       obtain ⟨xu, xk, xm, xb⟩ := x
       obtain ⟨bm, hbm⟩ : ∃ bm, bm = xb.length := ⟨_, rfl⟩
       simp only at hss
       rw [<- hbm] at hss
       subst hss
       unfold aggV
       simp only
       have HXO := hid hxo
       have HXB := hid hxb
       obtain ⟨w3, hw3⟩ : ∃ w3 : World, w3 = w2.alloc (.cells #[.bool xu, .int .i64 xk, .int .i64 xm, .slice sa bm sc] 36) := ⟨_, rfl⟩
       have HB3 := hid (show Below wr.heap.size wr w3 by rw [hw3]; exact zAe HB2.out _)
       obtain ⟨VB, hVB⟩ : ∃ VB, VB = w2.heap.size := ⟨_, rfl⟩
       have hvb : w3.heap[VB]? = some (.cells #[.bool xu, .int .i64 xk, .int .i64 xm, .slice sa bm sc] 36 (0, 0)) := by rw [hw3, hVB]; exact heap_alloc_new _ _
       have v0 : w3.cell? ⟨VB, 0, none⟩ = some (.bool xu) := by rw [Qm w3 VB 0 _ _ _ hvb]; rfl
       have v1 : w3.cell? ⟨VB, 1, none⟩ = some (.int .i64 xk) := by rw [Qm w3 VB 1 _ _ _ hvb]; rfl
       have v2 : w3.cell? ⟨VB, 2, none⟩ = some (.int .i64 xm) := by rw [Qm w3 VB 2 _ _ _ hvb]; rfl
       have v3 : w3.cell? ⟨VB, 3, none⟩ = some (.slice sa bm sc) := by rw [Qm w3 VB 3 _ _ _ hvb]; rfl
       have HOWN := hid (show (w3.alloc (.cells #[.bool xu, .int .i64 xk, .int .i64 xm, .slice sa bm sc] 36)).ownsRow wq.heap.size 36 4 (.slice ra vn rc) vn (vs.map cellsV).flatten from (zAf HRGj.out.1 (zAc HB3.out) (Qa _)).alloc _)
       have HRD := hid (zCr w3 #[.bool xu, .int .i64 xk, .int .i64 xm, .slice sa bm sc] 36 4 rfl)
       have HSZ := hid (show wq.heap.size <= (w3.alloc (.cells #[.bool xu, .int .i64 xk, .int .i64 xm, .slice sa bm sc] 36)).heap.size by have := HB3.out.size; have := HBj.out.size; simp; omega)
       have HVN6 := hid (show vn + ([[.bool xu, .int .i64 xk, .int .i64 xm, .slice sa bm sc]] : List (List Value)).length <= 10000000 by simp; omega)
       clear hxo hxb hbm hvb
       go_upto_region 12 with (fail)
       rw [<- hw3, <- hVB]
       clear hw3 hVB
       go_wp2_with (at_builtin; go_must (refine zAq zCc rfl _ _ rfl wq.heap.size _ _ _ rfl HOWN.out _ [[.bool xu, .int .i64 xk, .int .i64 xm, .slice sa bm sc]] rfl HRD.out (zDm _ _ _ _ _ _) HVN6.out HSZ.out (vn + 1) rfl ?_); intro ao4 cap4 w4 hown4 hgrow4 hnew4; have HO4 := hid hown4; have HG4 := hid hgrow4; clear hown4 hgrow4 hnew4)
       go_roundw
       case rel =>
        refine ⟨j + 1, vs ++ [(⟨xu, xk, xm, xb⟩, .slice sa bm sc)], ao4, cap4, vn + 1, ts ++ [⟨xu, xk, xm, xb⟩], by omega, by go_num, rfl, ⟨?_, by rw [Qf, <- HRGj.out.2.1]; rfl, fun t ht => ?_⟩, ?_, ?_, by omega, ?_⟩
        ·have h := HO4.out
         rw [Qc, List.flatten_append]
         simpa [cellsV] using h
        ·rcases Qj.1 ht with ht | ht
         ·exact HRGj.out.2.2 t ht
         ·rw [Qb.1 ht]
          exact ⟨HXB.out, HXO.out⟩
        ·rw [Qc, HVMj.out, List.append_assoc]
         rfl
        ·rw [List.take_add_one, HAJ.out, Qc, HTSj.out, Qc]
         simp [HOT.out]
        ·exact ((zAa HBj.out HB3.out).alloc (by have := (zAa HBj.out HB3.out).size; exact this) _).grown HG4.out HSZ.out (zAg HOWN.out)
       case measure => simp [intOf]; omega
     ·have hjn : j = an := by omega
      have hlji : ¬ (j : Int) < (an : Int) := by omega
      have HFR := hid (zI6 (.slice ra vn rc, vs) wr (HRGj.out.rd HBwj.out) (by have := HRGj.out.2.1; simp only; omega) (fun t ht => (HRGj.out.2.2 t ht).1))
      have HRW := hid (show RowOf g ags p (vs.map Prod.fst) from ⟨ts, by rw [HVMj.out, HH.out], by have h := HTSj.out; rw [List.take_of_length_le (by rw [<- HAN.out]; omega)] at h; exact h⟩)
      simp only at HFR
      obtain ⟨wy, hwy⟩ : ∃ wy : World, wy = wr := ⟨_, rfl⟩
      rw [<- hwy] at HFR HBj HBwj ⊢
      clear hwy hjn
      go_wp2_with fail
      refine HFR.out.mono ?_
      rintro e w2 ⟨y, rfl, hyr, hya, hb2⟩
      have hb2q := zAa HBj.out hb2
      have HB2q := hid hb2q
      have HYR := hid hyr
      have HYA := hid (hya.above (Above.refl _ _) (show W.heap.size <= wy.heap.size by have := HBj.out.size; have := HB.out.size; omega))
      obtain ⟨ya, yc, hys⟩ := zCq hya.2.2.1
      obtain ⟨yv, yl⟩ := y
      obtain ⟨ym, hym⟩ : ∃ ym, ym = yl.length := ⟨_, rfl⟩
      simp only at hys
      rw [<- hym] at hys
      subst hys
      have HOT2 := hid (show (w2.alloc (.cells #[.slice ya ym yc] 33)).ownsRow W.heap.size 33 1 (.slice oa q oc) q (T.map Prod.fst) from by have h := (zAf HOD.out.1 (zAc hb2q) (Qa _)).alloc (.cells #[.slice ya ym yc] 33); rw [HTL.out] at h; exact h)
      have HRD := hid (zCr w2 #[.slice ya ym yc] 33 1 rfl)
      have HON := hid (show Ones 1 [[Value.slice ya ym yc]] from fun t ht => by rw [Qb.1 ht]; exact ⟨rfl, fun u hu => by rw [Qb.1 hu]; rfl⟩)
      have HSZ := hid (show W.heap.size <= (w2.alloc (.cells #[.slice ya ym yc] 33)).heap.size by have := hb2q.size; have := HB.out.size; simp; omega)
      have HQ6 := hid (show q + ([[Value.slice ya ym yc]] : List (List Value)).length <= 10000000 by simp; omega)
      clear hyr hya hb2 hb2q hym
      go_wp2_with (at_builtin; go_must (refine zAq zAm rfl _ _ rfl W.heap.size _ _ _ rfl HOT2.out _ [[.slice ya ym yc]] rfl HRD.out HON.out HQ6.out HSZ.out (q + 1) rfl ?_); intro ao4 cap4 w4 hown4 hgrow4 hnew4; have HO4 := hid hown4; have HG4 := hid hgrow4; clear hown4 hgrow4 hnew4)
      go_roundw
      case rel =>
       refine ⟨q + 1, ao4, cap4, T ++ [(.slice ya ym yc, yl)], by omega, by go_num, rfl, by rw [Qf, HTL.out]; rfl, HOD.out.add HTL.out HB2q.out HYA.out HG4.out (by rw [HTL.out]; simpa using HO4.out), ?_, ?_⟩
       ·intro k p2 x2 h1 h2
        by_cases hk : k < T.length
        ·rw [List.getElem?_append_left hk] at h2
         exact HRO.out k p2 x2 h1 h2
        ·have hk2 : k = q := by have := (List.getElem?_eq_some_iff.1 h2).1; rw [Qf, HTL.out] at this; have := HTL.out; simp at *; omega
         subst hk2
         rw [List.getElem?_append_right (by rw [HTL.out]; exact Qa _), HTL.out, Nat.sub_self] at h2
         rw [HPQ.out] at h1
         cases h1
         simp only [List.getElem?_cons_zero, Option.some.injEq] at h2
         rw [<- h2, HYR.out]
         exact HRW.out
       ·exact ((HB.out.trans (HB2q.out.mono HB.out.size)).alloc (by have := HB2q.out.size; have := HB.out.size; omega) _).grown HG4.out HSZ.out (zAg HOT2.out)
      case measure => simp [intOf]; omega
  ·have hqn : q = pn := by omega
   have hlti : ¬ (q : Int) < (pn : Int) := by omega
   go_wp2_with fail
   go_ret2
   refine ⟨Ps.map Prod.snd, HPP.out, HBw.out, .inl ⟨_, rfl, T, ?_, by rw [HTL.out, Qd, hqn, HPN.out], fun i p a b h1 h2 => HRO.out i p (a, b) h1 h2⟩⟩
   have h := HOD.out.above (Above.refl _ _) HBW.out.size
   rw [hqn] at h
   exact h
end Go.Proofs.Ytnfjdoeemnhkbaa
