import Derived.Test.YtnfjdoeemnhkbaaAgj
set_option linter.unusedVariables false
set_option linter.unusedSimpArgs false
set_option maxRecDepth 100000
set_option maxHeartbeats 8000000
open Go.Lib (hid)
namespace Go.Proofs.Ytnfjdoeemnhkbaa
open Go.RowKit Sy
open _root_.List renaming mem_singleton -> Qa, map_append -> Qb, length_map -> Qc, length_append -> Qd, mem_append -> Qe, getElem?_append_right -> Qh, pairwise_append -> Qj, length_take -> Qk, flatten_append -> Qm, getElem?_eq_some_iff -> Qn, length_singleton -> Qo, length -> Qp, take_add_one -> Qq, pairwise_singleton -> Qr, getElem?_eq_getElem -> Qt, mem_of_getElem? -> Qu, getElem?_map -> Qv, append_nil -> Qx
open _root_.Nat renaming le_refl -> Qf, sub_self -> Qg, succ_pos -> Qw
open _root_.Array renaming getElem?_eq_some_iff -> Qi
open Go.IntWalk renaming i64_in -> Ql
theorem zA9 {K1 K2 sz1 sz2 n1 n2 g : Nat} {w : World} {E1 E2 : TypeId} {v1 v2 : Value} {xs1 xs2 : List Value} (h1 : w.ownsRow K1 E1 sz1 v1 n1 xs1) (h2 : w.ownsRow K2 E2 sz2 v2 n2 xs2) (hE : E1 ≠ E2) (hg : v1.ownBlock = some g) : v2.ownBlock ≠ some g := by
 rcases h1.2 with ⟨rfl, _⟩ | ⟨g', cap, cur, rfl, _, hb, _⟩
 ·cases hg
 ·cases hg
  exact zGz h2 hb hE
structure PsOwn (B : Nat) (w : World) (v : Value) (Ps : List (Value × List El)) : Prop where
 own : w.ownsRow B 27 1 v Ps.length (Ps.map Prod.fst)
 apart : Ps.Pairwise fun p q => ∀ g, p.1.ownBlock = some g -> q.1.ownBlock ≠ some g
 part : ∀ p ∈ Ps, w.ownsRow B 33 1 p.1 p.2.length (p.2.map Prod.fst)
theorem zMn (B : Nat) (w : World) : PsOwn B w (.slice none 0 0) [] := ⟨World.ownsRow_nil .., .nil, fun p h => by cases h⟩
theorem PsOwn.kept {B : Nat} {w w' : World} {v : Value} {Ps : List (Value × List El)} (h : PsOwn B w v Ps) (hb : Below w.heap.size w w') : PsOwn B w' v Ps :=
 ⟨zAf h.own (zAc hb) (Qf _), h.apart, fun p hp => zAf (h.part p hp) (zAc hb) (Qf _)⟩
theorem PsOwn.new {B n cap : Nat} {ao : Option Addr} {w w4 : World} {o : Obj} {v4 : Value} {Ps : List (Value × List El)} (h : PsOwn B w (.slice ao n cap) Ps) (hg : (w.alloc o).grownBy w4 (Value.slice ao n cap).ownBlock)
  (h4 : w4.ownsRow B 27 1 v4 (Ps.length + 1) (Ps.map Prod.fst ++ [.slice none 0 0])) : PsOwn B w4 v4 (Ps ++ [(.slice none 0 0, [])]) := by
 have hag : Agree (fun b => (Value.slice ao n cap).ownBlock = some b) w w4 := (zBd _ w o).thenGrown hg fun i _ h => h
 refine ⟨by rw [Qd, Qb]; exact h4, ?_, fun p hp => ?_⟩
 ·refine Qj.2 ⟨h.apart, Qr .., fun p hp q hq g _ => ?_⟩
  rw [Qa.1 hq]
  intro e
  cases e
 ·rcases Qe.1 hp with hp | hp
  ·exact zAj (h.part p hp) hag fun b hb e => zA9 h.own (h.part p hp) (by decide) e hb
  ·rw [Qa.1 hp]
   exact World.ownsRow_nil ..
theorem PsOwn.more {B n cap R : Nat} {w w4 : World} {o : Obj} {pv pv4 : Value} {x : El} {Q : List (Value × List El)} {p : List El} (h : PsOwn B w (.slice (some ⟨R, 0, none⟩) n cap) (Q ++ [(pv, p)])) (hn : n = Q.length + 1)
  (hg : (w.alloc o).grownBy w4 pv.ownBlock) (hnew : ∀ b, pv4.ownBlock = some b -> pv.ownBlock = some b ∨ b = (w.alloc o).heap.size)
  (h4 : w4.ownsRow B 33 1 pv4 (p.length + 1) (p.map Prod.fst ++ [x.1])) : PsOwn B (w4.setCell ⟨R, Q.length, none⟩ pv4) (.slice (some ⟨R, 0, none⟩) n cap) (Q ++ [(pv4, p ++ [x])]) := by
 have hag : Agree (fun b => pv.ownBlock = some b) w w4 := (zBd _ w o).thenGrown hg fun i _ h => h
 have hl : (Q ++ [(pv, p)]).length = n := by rw [Qd, hn]; rfl
 have hp := h.part (pv, p) (Qe.2 (.inr (Qa.2 rfl)))
 have hown := h.own
 rw [hl] at hown
 have ho4 : w4.ownsRow B 27 1 (.slice (some ⟨R, 0, none⟩) n cap) n ((Q ++ [(pv, p)]).map Prod.fst) := zAj hown hag fun b hb e => zA9 hown hp (by decide) hb e
 have hRp : pv4.ownBlock ≠ some R := zA9 ho4 h4 (by decide) rfl
 have hset : Agree (fun b => b = R) w4 (w4.setCell ⟨R, Q.length, none⟩ pv4) := zAs _ w4 ⟨R, Q.length, none⟩ pv4 rfl
 refine ⟨?_, ?_, fun q hq => ?_⟩
 ·have h5 := (ho4.stored Q.length pv4).1
  have e1 : ((Q ++ [(pv, p)]).map Prod.fst).set Q.length pv4 = (Q ++ [(pv4, p ++ [x])]).map Prod.fst := by
   rw [Qb, List.set_append_right _ _ (by rw [Qc]; exact Qf _), Qc, Qg, Qb]
   rfl
  have e2 : (Q ++ [(pv4, p ++ [x])]).length = n := by rw [Qd, hn]; rfl
  rw [e1] at h5
  rw [e2]
  exact h5
 ·have h5 := Qj.1 h.apart
  refine Qj.2 ⟨h5.1, Qr .., fun q hq r hr g hgq => ?_⟩
  rw [Qa.1 hr]
  intro e
  rcases hnew g e with e | e
  ·exact h5.2.2 q hq (pv, p) (Qa.2 rfl) g hgq e
  ·have := ((h.part q (Qe.2 (.inl hq))).lt g hgq).2
   have hs : (w.alloc o).heap.size = w.heap.size + 1 := by simp
   omega
 ·rcases Qe.1 hq with hq | hq
  ·have h5 := h.part q (Qe.2 (.inl hq))
   have h6 : w4.ownsRow B 33 1 q.1 q.2.length (q.2.map Prod.fst) := zAj h5 hag fun b hb e => (Qj.1 h.apart).2.2 q hq (pv, p) (Qa.2 rfl) b hb e
   exact zAj h6 hset fun b hb e => zA9 ho4 h6 (by decide) rfl (by rw [hb, e])
  ·rw [Qa.1 hq]
   rw [Qd, Qb]
   exact zAj h4 hset fun b hb e => hRp (by rw [hb, e])
theorem zA3 {K sz n : Nat} {w : World} {E : TypeId} {a : Option Addr} {c : Nat} {xs : List Value} (h : w.ownsRow K E sz (.slice a n c) n xs) (hn : 0 < n) : ∃ g, a = some ⟨g, 0, none⟩ := by
 rcases h.2 with ⟨_, h⟩ | ⟨g, cap, cur, h, _⟩
 ·omega
 ·simp only [Value.slice.injEq] at h; exact ⟨g, h.1⟩
theorem zJb : ∀ args w, (callFunc 78 args).run Try.prog w = .ok (.enter 78 args) w := by
 intro args w
 go_simp
theorem zJc : Elm Try.prog 94 27 1 24 := by
 have h : (Try.prog.info? 27).map (fun i => (i.zero, i.size, i.bytes)) = some (some (.slice none 0 0), 1, 24) := by kernel_rfl
 cases hq : Try.prog.info? 27 with
 | none => rw [hq] at h; cases h
 | some i =>
  rw [hq] at h
  simp only [Option.map_some, Option.some.injEq, Prod.mk.injEq] at h
  exact ⟨Try.underlying94, ⟨i, _, hq, h.1, h.2.1, h.2.2, rfl⟩, by decide, by decide⟩
theorem zMo (kk : Int) (E : List El) (g : Int) (hg : 0 <= g) (hE : E.length <= 1000000) (v : Value) (w : World) (hv : Rd w v (E.map Prod.fst)) (hr : ∀ x ∈ E, RdP w x.1 x.2 ∧ x.2.length <= 1000000) (hk : ∀ x ∈ E, NormV (atT x.row g) ∧ (atT x.row g).k = kk) :
  Calls Try.prog 44 #[v, .int .i64 g] w fun e w' => ∃ v', e = .returned v' ∧ ∃ B : Nat, w.heap.size <= B ∧ ∃ Ps : List (Value × List El), PsOwn B w' v' Ps ∧ (Ps.map Prod.snd).flatten.Perm E ∧ Parted cmpK (fun x : El => keyV (atT x.row g)) (Ps.map Prod.snd) ∧ Below w.heap.size w w' := by
 have HCL := hid (fun w' (h : Below w.heap.size w w') => zLf E v w' hE (hv.kept h) (fun x hx => by obtain ⟨a, c, h⟩ := zAl (hr x hx).1.1; exact ⟨a, _, c, h⟩))
 obtain ⟨ao, cap, hvs⟩ : ∃ ao cap, v = .slice ao (E.map Prod.fst).length cap := by obtain ⟨ao, cap, h, _⟩ := hv; exact ⟨ao, cap, h⟩
 subst hvs
 obtain ⟨n, hN⟩ : ∃ n, n = E.length := ⟨_, rfl⟩
 rw [Qc, <- hN] at HCL ⊢
 rw [<- hN] at hE
 have HN := hid hN
 have HR := hid hr
 have HK := hid hk
 have hg2 : ¬ g < 0 := by omega
 clear hN hv hr hk
 go_enter Try.func44, Try.ntmps44
 go_upto_region 1 with (fail)
 obtain ⟨W, hW⟩ : ∃ W : World, W = w.alloc (.cells #[.int .i64 g] 3) := ⟨_, rfl⟩
 obtain ⟨X, hX⟩ : ∃ X, X = w.heap.size := ⟨_, rfl⟩
 have HX := hid (show W.heap[X]? = some (.cells #[.int .i64 g] 3 (0, 0)) by rw [hW, hX]; exact heap_alloc_new w _)
 have HBW := hid (show Below w.heap.size w W by rw [hW]; exact zAi w _)
 have HXE := hid hX
 have cX : W.cell? ⟨X, 0, none⟩ = some (.int .i64 g) := by rw [cell_of_row W X 0 _ _ _ HX.out]; rfl
 rw [<- hW, <- hX]
 clear hW hX
 go_wp2_with fail
 refine (HCL.out _ HBW.out).mono ?_
 rintro e w2 ⟨cv, rfl, hown, hb2⟩
 have HO := hid hown
 have HB2 := hid hb2
 have HX2 := hid ((hb2.block X (Qi.1 HX.out).1).trans HX.out)
 have HB02 := hid (zAa HBW.out hb2)
 have HSRT := hid (show Calls Try.prog 50 #[cv, .func (.func 78) #[] #[.pointer (some ⟨X, 0, none⟩)]] w2 fun e w' => e = .returned (.tuple #[]) ∧ ∃ Z : List El, Z.Perm E ∧ Srt (ltC cmpK fun x : El => keyV (atT x.row g)) Z ∧ w'.ownsRow W.heap.size 33 1 cv n (Z.map Prod.fst) ∧ Below W.heap.size W w' ∧ w'.heap[X]? = some (.cells #[.int .i64 g] 3 (0, 0)) from by
  rcases Joins.ownsRow_forms hown with ⟨hc, h0⟩ | ⟨gb, c', hc⟩
  ·subst hc
   refine (zHi _ w2).mono ?_
   rintro e w' ⟨rfl, rfl⟩
   have hE0 : E = [] := List.length_eq_zero_iff.1 (by rw [<- HN.out]; exact h0)
   subst hE0
   exact ⟨rfl, [], .refl _, .nil, hown, hb2, HX2.out⟩
  ·subst hc
   have hgb : X ≠ gb := by
    have := (hown.lt gb rfl).1
    have := (Qi.1 HX.out).1
    omega
   have hre : RowE W.heap.size gb n c' w2 E := ⟨hown, fun x hx => by obtain ⟨a, c, h⟩ := zAl (HR.out x hx).1.1; exact ⟨a, _, c, h⟩⟩
   have hrd : ∀ w', Agree (fun b => b = gb) w2 w' -> ∀ x ∈ E, RdP w' x.1 x.2 := fun w' ha x hx => (HR.out x hx).1.kept (HB02.out.trans (ha.below (fun i hi e => by have := (hown.lt gb rfl).1; have := HBW.out.size; omega) HB02.out.size))
   have hck : CmpOK 78 #[.pointer (some ⟨X, 0, none⟩)] (ltC cmpK fun x : El => keyV (atT x.row g)) E gb w2 := ⟨zJb, fun w' ha x hx y hy => by
    have hx2 : w'.heap[X]? = some (.cells #[.int .i64 g] 3 (0, 0)) := (ha.block X (Qi.1 HX2.out).1 hgb).trans HX2.out
    refine (zHj x y X g (0, 0) w' hx2 (hrd w' ha x hx) (hrd w' ha y hy) (HR.out x hx).2 (HR.out y hy).2).mono ?_
    rintro e w3 ⟨rfl, hb⟩
    refine ⟨_, rfl, ?_, hb⟩
    rw [zBo, zBo]
    show decide (cmpT (atT x.row g) (atT y.row g) < 0) = _
    unfold ltC
    rw [zBg (HK.out x hx).1 (HK.out y hy).1 ((HK.out x hx).2.trans (HK.out y hy).2.symm)]⟩
   refine (zH8 (zHz zBf _) hck hE E HN.out (fun x hx => hx) w2 (Agree.refl _ _) hre).mono ?_
   rintro e w' ⟨rfl, Z, hz1, hz2, hz3, hz4⟩
   refine ⟨rfl, Z, hz1, hz2, hz3.own, ?_, (hz4.block X (Qi.1 HX2.out).1 hgb).trans HX2.out⟩
   exact hb2.trans (hz4.below (fun i hi e => by have := (hown.lt gb rfl).1; omega) hb2.size))
 obtain ⟨ca, cc, hcs⟩ := zCq hown
 subst hcs
 clear hown hb2 cX HCL HO
 go_wp2_with fail
 refine HSRT.out.mono ?_
 rintro e w3 ⟨rfl, Z, hz1, hz2, hz3, hz4, hz5⟩
 have HZ1 := hid hz1
 have HZ2 := hid hz2
 have HZ3 := hid hz3
 have HZ4 := hid (HBW.out.trans (hz4.mono HBW.out.size))
 have HZ5 := hid hz5
 have HZL := hid (show Z.length = n by rw [hz1.length_eq, HN.out])
 have HSL := hid (zHg zBf hz2)
 clear hz1 hz2 hz3 hz4 hz5
 go_wp2_with fail
 go_loopw [7, 23] (fun o i wr => ∃ (q : Nat) (oa : Option Addr) (oc : Nat) (Ps : List (Value × List El)), q <= n ∧ i = .int .i64 (q : Int) ∧ o = .slice oa Ps.length oc ∧ PsOwn w3.heap.size wr (.slice oa Ps.length oc) Ps ∧ (Ps.map Prod.snd).flatten = Z.take q ∧ Parted cmpK (fun x : El => keyV (atT x.row g)) (Ps.map Prod.snd) ∧ Ps.length <= q ∧ (0 < q -> 0 < Ps.length) ∧ Below w3.heap.size w3 wr) (fun _ i _ => n - (intOf i).toNat)
 case atStart => exact ⟨0, none, 0, [], Nat.zero_le _, rfl, rfl, zMn _ _, by simp, zHh _ _, Qf _, (fun h => by omega), Below.refl _ _⟩
 case round =>
  obtain ⟨q, oa, oc, Ps, hq, rfl, rfl, hps, hfl, hpt, hlq, hpos, hb⟩ := hrel
  have HPS := hid hps
  have HFL := hid hfl
  have HPT := hid hpt
  have HB := hid hb
  obtain ⟨pn, hpn⟩ : ∃ pn, pn = Ps.length := ⟨_, rfl⟩
  rw [<- hpn] at HPS hlq hpos ⊢
  have HPN := hid hpn
  clear hps hfl hpt hb hpn
  by_cases hlt : q < n
  ·obtain ⟨z, hz⟩ : ∃ z, Z[q]? = some z := ⟨_, Qt (by rw [HZL.out]; exact hlt)⟩
   have hlti : (q : Int) < (n : Int) := by omega
   have hq0 : (0 : Int) <= (q : Int) := by omega
   have hzE : z ∈ E := HZ1.out.mem_iff.1 (Qu hz)
   have HOr := hid (zAf HZ3.out (zAc HB.out) (Qf _))
   obtain ⟨gs, hgs⟩ := zA3 HOr.out (by omega)
   subst hgs
   have cq : wr.cell? ⟨gs, q, none⟩ = some z.1 := (HOr.out.cellAt q (by omega)).trans (by rw [Qv, hz]; rfl)
   obtain ⟨za, zc, hzs⟩ := zAl (HR.out z hzE).1.1
   obtain ⟨zm, hzm⟩ : ∃ zm, zm = (z.2.map cellsV).length := ⟨_, rfl⟩
   rw [<- hzm] at hzs
   rw [hzs] at cq
   have HRDz := hid (show ∀ w', Below w3.heap.size w3 w' -> RdP w' z.1 z.2 from fun w' h => (HR.out z hzE).1.kept (HZ4.out.trans (h.mono HZ4.out.size)))
   have HLz := hid (HR.out z hzE).2
   have HKz := hid (HK.out z hzE)
   have HZQ := hid hz
   have HZS := hid (show ∀ y ∈ Z.take q, cmpK (keyV (atT y.row g)) (keyV (atT z.row g)) <= 0 from fun y hy => by
    obtain ⟨i, hi⟩ := List.getElem?_of_mem hy
    have hil := (Qn.1 hi).1
    rw [Qk] at hil
    rw [List.getElem?_take_of_lt (by omega)] at hi
    obtain ⟨h1, e1⟩ := Qn.1 hi
    obtain ⟨h2, e2⟩ := Qn.1 hz
    have := List.pairwise_iff_getElem.1 HSL.out i q h1 h2 (by omega)
    rw [e1, e2] at this
    exact this)
   have HZP := hid (show (Z.take q).Pairwise fun x y => cmpK (keyV (atT x.row g)) (keyV (atT y.row g)) <= 0 from HSL.out.sublist (List.take_sublist _ _))
   obtain ⟨zv, zl⟩ := z
   simp only at hzs
   subst hzs
   clear hz hzm hzE
   rcases Nat.eq_zero_or_pos q with h0 | h0
   ·have hqz : ((q : Int) == 0) = true := by rw [beq_iff_eq]; omega
    have HQ0 := hid h0
    have HNEW := hid (zE5 zBf (x := ((.slice za zm zc, zl) : El)) HPT.out (by rw [HFL.out]; exact HZS.out) (by rw [HFL.out, h0]; intro y hy; simp at hy) (by rw [HFL.out]; exact HZP.out))
    clear h0
    have HPSr := HPS
    have HBr := HB
    have HOW0 := hid (show (wr.alloc (.cells #[.slice none 0 0] 27)).ownsRow w3.heap.size 27 1 (.slice oa pn oc) pn (Ps.map Prod.fst) from by have h := HPSr.out.own.alloc (.cells #[.slice none 0 0] 27); rw [<- HPN.out] at h; exact h)
    have HRD0 := hid (zCr wr #[.slice none 0 0] 27 1 rfl)
    have HON0 := hid (show Ones 1 [[Value.slice none 0 0]] from fun t ht => by rw [Qa.1 ht]; exact ⟨rfl, fun u hu => by rw [Qa.1 hu]; rfl⟩)
    have HSZ0 := hid (show w3.heap.size <= (wr.alloc (.cells #[.slice none 0 0] 27)).heap.size by have := HBr.out.size; simp; omega)
    have HPN6 := hid (show pn + [[Value.slice none 0 0]].length <= 10000000 by simp; omega)
    go_upto_region 12 with (at_builtin; go_must (refine zAq zJc rfl _ _ rfl w3.heap.size _ _ _ rfl HOW0.out _ [[.slice none 0 0]] rfl HRD0.out HON0.out HPN6.out HSZ0.out (pn + 1) rfl ?_); intro ao4 kc wx hown4 hgrow4 hnew4; have HO4 := hid hown4; have HG4 := hid hgrow4; clear hown4 hgrow4 hnew4)
    obtain ⟨R, hR⟩ := zA3 HO4.out (Qw _)
    subst hR
    obtain ⟨Q, hQ⟩ : ∃ Q, Q = Ps := ⟨_, rfl⟩
    obtain ⟨k, hk⟩ : ∃ k, k = pn + 1 := ⟨_, rfl⟩
    rw [<- hk] at HO4 ⊢
    have HK1 := hid (show k = Q.length + 1 by rw [hk, hQ, HPN.out])
    have HKQ := hid (show k <= q + 1 by omega)
    obtain ⟨p, hp⟩ : ∃ p : List El, p = [] := ⟨_, rfl⟩
    obtain ⟨pa, hpa⟩ : ∃ pa : Option Addr, pa = none := ⟨_, rfl⟩
    obtain ⟨pm, hpm⟩ : ∃ pm : Nat, pm = 0 := ⟨_, rfl⟩
    obtain ⟨pc, hpc⟩ : ∃ pc : Nat, pc = 0 := ⟨_, rfl⟩
    have HPSx := hid (show PsOwn w3.heap.size wx (.slice (some ⟨R, 0, none⟩) k kc) (Q ++ [(.slice pa pm pc, p)]) from by
     have h := PsOwn.new HPSr.out HG4.out (v4 := .slice (some ⟨R, 0, none⟩) k kc) (by rw [<- HPN.out, <- hk]; exact HO4.out)
     rw [hQ, hp, hpa, hpm, hpc]
     exact h)
    have HPm := hid (show pm = p.length by rw [hpm, hp]; rfl)
    have HBx := hid (show Below w3.heap.size w3 wx from (HBr.out.alloc HBr.out.size _).grown HG4.out HSZ0.out (zAg HOW0.out))
    have HF2 := hid (show (Q.map Prod.snd).flatten ++ p = Z.take q by rw [hQ, hp, Qx]; exact HFL.out)
    have HPT2 := hid (show Parted cmpK (fun x : El => keyV (atT x.row g)) (Q.map Prod.snd ++ [p ++ [((.slice za zm zc, zl) : El)]]) from by rw [hQ, hp]; exact HNEW.out)
    clear hQ hk hp hpa hpm hpc
    obtain ⟨ql, hql⟩ : ∃ ql, ql = Q.length := ⟨_, rfl⟩
    have HQL := hid hql
    have hk1 : k = ql + 1 := by rw [HK1.out, hql]
    have hkq := HKQ.out
    have e1 : IntKind.i64.wrap ((k : Int) - 1) = (ql : Int) := by rw [Ql _ (by omega)]; omega
    have hq0 : (0 : Int) <= (ql : Int) := by omega
    have hqk : (ql : Int) < (k : Int) := by omega
    have hown : wx.ownsRow w3.heap.size 27 1 (.slice (some ⟨R, 0, none⟩) k kc) k ((Q ++ [((.slice pa pm pc, p) : Value × List El)]).map Prod.fst) := by have h := HPSx.out.own; rw [Qd, Qo, <- HK1.out] at h; exact h
    have cl : wx.cell? ⟨R, ql, none⟩ = some (.slice pa pm pc) := (hown.cellAt ql (by omega)).trans (by rw [Qb, Qh (by rw [Qc, <- hql]; exact Qf _), Qc, <- hql, Qg]; rfl)
    have HPO := hid (show (wx.alloc (.cells #[.slice za zm zc] 33)).ownsRow w3.heap.size 33 1 (.slice pa pm pc) pm (p.map Prod.fst) from by
     have h := (HPSx.out.part (.slice pa pm pc, p) (Qe.2 (.inr (Qa.2 rfl)))).alloc (.cells #[.slice za zm zc] 33)
     simp only at h
     rw [<- HPm.out] at h
     exact h)
    have HRD := hid (zCr wx #[.slice za zm zc] 33 1 rfl)
    have HON := hid (show Ones 1 [[.slice za zm zc]] from fun t ht => by rw [Qa.1 ht]; exact ⟨rfl, fun u hu => by rw [Qa.1 hu]; rfl⟩)
    have HSZ := hid (show w3.heap.size <= (wx.alloc (.cells #[.slice za zm zc] 33)).heap.size by have := HBx.out.size; simp; omega)
    have hpm : pm + ([[Value.slice za zm zc]] : List (List Value)).length <= 10000000 := by
     have h1 := congrArg Qp HF2.out
     rw [Qd, Qk] at h1
     have h2 := HPm.out
     simp
     omega
    have HPM6 := hid hpm
    have HOX := hid hown
    clear hql hk1 hown hpm hkq
    go_wp2_with (at_builtin; go_must (refine zAq zAm rfl _ _ rfl w3.heap.size _ _ _ rfl HPO.out _ [[.slice za zm zc]] rfl HRD.out HON.out HPM6.out HSZ.out (pm + 1) rfl ?_); intro ao5 cap5 w5 hown5 hgrow5 hnew5; have HO5 := hid hown5; have HG5 := hid hgrow5; have HN5 := hid hnew5; have HX5 := hid (zAj HOX.out ((zBd _ wx (.cells #[.slice za zm zc] 33)).thenGrown hgrow5 fun i _ h => h) fun b hb e => zA9 HOX.out (HPSx.out.part (.slice pa pm pc, p) (Qe.2 (.inr (Qa.2 rfl)))) (by decide) hb e); have c5 : w5.cell? ⟨R, ql, none⟩ = some (.slice pa pm pc) := (HX5.out.cellAt ql (by omega)).trans (by rw [Qb, Qh (by rw [Qc, <- HQL.out]; exact Qf _), Qc, <- HQL.out, Qg]; rfl); have f5 := HX5.out.frozenAt ql; clear hown5 hgrow5 hnew5)
    go_roundw
    case rel =>
     have hmore := HPSx.out.more (x := (.slice za zm zc, zl)) HK1.out HG5.out HN5.out (by rw [<- HPm.out]; exact HO5.out)
     rw [<- HQL.out] at hmore
     have hkl : (Q ++ [(Value.slice ao5 (pm + 1) cap5, p ++ [((.slice za zm zc, zl) : El)])]).length = k := by rw [Qd, HK1.out]; rfl
     refine ⟨q + 1, some ⟨R, 0, none⟩, kc, Q ++ [(.slice ao5 (pm + 1) cap5, p ++ [(.slice za zm zc, zl)])], by omega, by go_num, by rw [hkl], by rw [hkl]; exact hmore, ?_, ?_, by rw [hkl]; have := HK1.out; have := HKQ.out; omega, fun _ => by rw [hkl]; have := HK1.out; omega, ?_⟩
     ·rw [Qb, Qm, Qq, HZQ.out, <- HF2.out]
      simp
     ·rw [Qb]
      exact HPT2.out
     ·exact ((HBx.out.alloc HBx.out.size _).grown HG5.out HSZ.out (zAg HPO.out)).setCell (p := ⟨R, ql, none⟩) (by have := (HOX.out.lt R rfl).1; exact this) _
    case measure => simp [intOf]; omega
   ·obtain ⟨y, hy⟩ : ∃ y, Z[q - 1]? = some y := ⟨_, Qt (by rw [HZL.out]; omega)⟩
    have hyE : y ∈ E := HZ1.out.mem_iff.1 (Qu hy)
    obtain ⟨q1, hq1⟩ : ∃ q1, q1 = q - 1 := ⟨_, rfl⟩
    have e0 : IntKind.i64.wrap ((q : Int) - 1) = (q1 : Int) := by rw [Ql _ (by omega)]; omega
    have hq10 : (0 : Int) <= (q1 : Int) := by omega
    have hq1n : (q1 : Int) < (n : Int) := by omega
    have hqz : ((q : Int) == 0) = false := by rw [beq_eq_false_iff_ne]; omega
    have cq1 : wr.cell? ⟨gs, q1, none⟩ = some y.1 := (HOr.out.cellAt q1 (by omega)).trans (by rw [Qv, hq1, hy]; rfl)
    obtain ⟨ya, yc, hys⟩ := zAl (HR.out y hyE).1.1
    obtain ⟨ym, hym⟩ : ∃ ym, ym = (y.2.map cellsV).length := ⟨_, rfl⟩
    rw [<- hym] at hys
    rw [hys] at cq1
    have HXr := hid ((HB.out.block X (Qi.1 HZ5.out).1).trans HZ5.out)
    have HP1 := hid (zHj y (.slice za zm zc, zl) X g (0, 0) wr HXr.out ((HR.out y hyE).1.kept (HZ4.out.trans (HB.out.mono HZ4.out.size))) (HRDz.out wr HB.out) (HR.out y hyE).2 HLz.out)
    rw [hys] at HP1
    obtain ⟨c, hc⟩ : ∃ c, c = cmpT (atP y.2 g).1 (atP zl g).1 := ⟨_, rfl⟩
    simp only at HP1
    rw [<- hc] at HP1
    have hck : c = cmpK (keyV (atT y.row g)) (keyV (atT (El.row (.slice za zm zc, zl)) g)) := by
     rw [hc, zBo, zBo]
     exact zBg (HK.out y hyE).1 HKz.out.1 ((HK.out y hyE).2.trans HKz.out.2.symm)
    have HLAST := hid (show (Z.take q).getLast? = some y from by
     rw [List.getLast?_take, if_neg (by omega), hy]
     rfl)
    have HCK := hid hck
    clear hc hck hy hyE hys hym hq1
    have hposn : 0 < pn := hpos h0
    go_wp2_with fail
    refine HP1.out.mono ?_
    rintro e wr2 ⟨rfl, hb2⟩
    have HBr := hid (zAa HB.out hb2)
    have HPSr := hid (HPS.out.kept hb2)
    clear hb2 cq cq1
    by_cases hc0 : c = 0
    ·have hcb : (c != 0) = false := by rw [bne_eq_false_iff_eq]; exact hc0
     have HKEY := hid (show keyV (atT y.row g) = keyV (atT (El.row (.slice za zm zc, zl)) g) from (zBf.eq _ _).1 (by rw [<- HCK.out]; exact hc0))
     obtain ⟨Q, lp, hQ⟩ := zE8 (l := Ps) (by rw [<- HPN.out]; exact hposn)
     obtain ⟨pv, p⟩ := lp
     have hpart := HPSr.out.part (pv, p) (by rw [hQ]; exact Qe.2 (.inr (Qa.2 rfl)))
     obtain ⟨pa, pc, hpv⟩ := zCq hpart
     obtain ⟨pm, hpm⟩ : ∃ pm, pm = p.length := ⟨_, rfl⟩
     simp only at hpv
     rw [<- hpm] at hpv
     subst hpv
     have hown0 : wr2.ownsRow w3.heap.size 27 1 (.slice oa pn oc) pn (Ps.map Prod.fst) := by have h := HPSr.out.own; rw [<- HPN.out] at h; exact h
     obtain ⟨R, hR⟩ := zA3 hown0 hposn
     subst hR
     obtain ⟨k, hk⟩ : ∃ k, k = pn := ⟨_, rfl⟩
     obtain ⟨kc, hkc⟩ : ∃ kc, kc = oc := ⟨_, rfl⟩
     obtain ⟨wx, hwx⟩ : ∃ wx : World, wx = wr2 := ⟨_, rfl⟩
     rw [<- hk, <- hkc, <- hwx]
     have HK1 := hid (show k = Q.length + 1 by rw [hk, HPN.out, hQ, Qd]; rfl)
     have HKQ := hid (show k <= q + 1 by omega)
     have HPSx := hid (show PsOwn w3.heap.size wx (.slice (some ⟨R, 0, none⟩) k kc) (Q ++ [(.slice pa pm pc, p)]) from by rw [hk, hkc, hwx, <- hQ]; exact HPSr.out)
     have HPm := hid hpm
     have HBx := hid (show Below w3.heap.size w3 wx by rw [hwx]; exact HBr.out)
     have hf2 : (Q.map Prod.snd).flatten ++ p = Z.take q := by
      have h := HFL.out
      rw [hQ, Qb, Qm] at h
      simpa using h
     have HF2 := hid hf2
     have HPT2 := hid (show Parted cmpK (fun x : El => keyV (atT x.row g)) (Q.map Prod.snd ++ [p ++ [((.slice za zm zc, zl) : El)]]) from by
      have h := HPT.out
      rw [hQ, Qb] at h
      refine zGj (z := y) h ?_ HKEY.out
      have hpne := h.ne p (Qe.2 (.inr (Qa.2 rfl)))
      have hl := HLAST.out
      rw [<- hf2, List.getLast?_append] at hl
      cases hpl : p.getLast? with
      | none => exact absurd (List.getLast?_eq_none_iff.1 hpl) hpne
      | some u =>
       rw [hpl] at hl
       simp only [Option.some_or, Option.some.injEq] at hl
       rw [<- hl]
       exact List.mem_of_getLast? hpl)
     clear hQ hpart hpm hown0 hk hkc hwx hf2 hc0
     obtain ⟨ql, hql⟩ : ∃ ql, ql = Q.length := ⟨_, rfl⟩
     have HQL := hid hql
     have hk1 : k = ql + 1 := by rw [HK1.out, hql]
     have hkq := HKQ.out
     have e1 : IntKind.i64.wrap ((k : Int) - 1) = (ql : Int) := by rw [Ql _ (by omega)]; omega
     have hq0 : (0 : Int) <= (ql : Int) := by omega
     have hqk : (ql : Int) < (k : Int) := by omega
     have hown : wx.ownsRow w3.heap.size 27 1 (.slice (some ⟨R, 0, none⟩) k kc) k ((Q ++ [((.slice pa pm pc, p) : Value × List El)]).map Prod.fst) := by have h := HPSx.out.own; rw [Qd, Qo, <- HK1.out] at h; exact h
     have cl : wx.cell? ⟨R, ql, none⟩ = some (.slice pa pm pc) := (hown.cellAt ql (by omega)).trans (by rw [Qb, Qh (by rw [Qc, <- hql]; exact Qf _), Qc, <- hql, Qg]; rfl)
     have HPO := hid (show (wx.alloc (.cells #[.slice za zm zc] 33)).ownsRow w3.heap.size 33 1 (.slice pa pm pc) pm (p.map Prod.fst) from by
      have h := (HPSx.out.part (.slice pa pm pc, p) (Qe.2 (.inr (Qa.2 rfl)))).alloc (.cells #[.slice za zm zc] 33)
      simp only at h
      rw [<- HPm.out] at h
      exact h)
     have HRD := hid (zCr wx #[.slice za zm zc] 33 1 rfl)
     have HON := hid (show Ones 1 [[.slice za zm zc]] from fun t ht => by rw [Qa.1 ht]; exact ⟨rfl, fun u hu => by rw [Qa.1 hu]; rfl⟩)
     have HSZ := hid (show w3.heap.size <= (wx.alloc (.cells #[.slice za zm zc] 33)).heap.size by have := HBx.out.size; simp; omega)
     have hpm : pm + ([[Value.slice za zm zc]] : List (List Value)).length <= 10000000 := by
      have h1 := congrArg Qp HF2.out
      rw [Qd, Qk] at h1
      have h2 := HPm.out
      simp
      omega
     have HPM6 := hid hpm
     have HOX := hid hown
     clear hql hk1 hown hpm hkq
     go_wp2_with (at_builtin; go_must (refine zAq zAm rfl _ _ rfl w3.heap.size _ _ _ rfl HPO.out _ [[.slice za zm zc]] rfl HRD.out HON.out HPM6.out HSZ.out (pm + 1) rfl ?_); intro ao5 cap5 w5 hown5 hgrow5 hnew5; have HO5 := hid hown5; have HG5 := hid hgrow5; have HN5 := hid hnew5; have HX5 := hid (zAj HOX.out ((zBd _ wx (.cells #[.slice za zm zc] 33)).thenGrown hgrow5 fun i _ h => h) fun b hb e => zA9 HOX.out (HPSx.out.part (.slice pa pm pc, p) (Qe.2 (.inr (Qa.2 rfl)))) (by decide) hb e); have c5 : w5.cell? ⟨R, ql, none⟩ = some (.slice pa pm pc) := (HX5.out.cellAt ql (by omega)).trans (by rw [Qb, Qh (by rw [Qc, <- HQL.out]; exact Qf _), Qc, <- HQL.out, Qg]; rfl); have f5 := HX5.out.frozenAt ql; clear hown5 hgrow5 hnew5)
     go_roundw
     case rel =>
      have hmore := HPSx.out.more (x := (.slice za zm zc, zl)) HK1.out HG5.out HN5.out (by rw [<- HPm.out]; exact HO5.out)
      rw [<- HQL.out] at hmore
      have hkl : (Q ++ [(Value.slice ao5 (pm + 1) cap5, p ++ [((.slice za zm zc, zl) : El)])]).length = k := by rw [Qd, HK1.out]; rfl
      refine ⟨q + 1, some ⟨R, 0, none⟩, kc, Q ++ [(.slice ao5 (pm + 1) cap5, p ++ [(.slice za zm zc, zl)])], by omega, by go_num, by rw [hkl], by rw [hkl]; exact hmore, ?_, ?_, by rw [hkl]; have := HK1.out; have := HKQ.out; omega, fun _ => by rw [hkl]; have := HK1.out; omega, ?_⟩
      ·rw [Qb, Qm, Qq, HZQ.out, <- HF2.out]
       simp
      ·rw [Qb]
       exact HPT2.out
      ·exact ((HBx.out.alloc HBx.out.size _).grown HG5.out HSZ.out (zAg HPO.out)).setCell (p := ⟨R, ql, none⟩) (by have := (HOX.out.lt R rfl).1; exact this) _
     case measure => simp [intOf]; omega
    ·have hcb : (c != 0) = true := by rw [bne_iff_ne]; exact hc0
     have HKEY := hid (show keyV (atT y.row g) ≠ keyV (atT (El.row (.slice za zm zc, zl)) g) from fun e => hc0 (by rw [HCK.out]; exact (zBf.eq _ _).2 e))
     have HNEW := hid (zE5 zBf (x := ((.slice za zm zc, zl) : El)) HPT.out (by rw [HFL.out]; exact HZS.out) (by
      rw [HFL.out]
      intro u hu
      rw [HLAST.out] at hu
      cases hu
      exact HKEY.out) (by rw [HFL.out]; exact HZP.out))
     have HOW0 := hid (show (wr2.alloc (.cells #[.slice none 0 0] 27)).ownsRow w3.heap.size 27 1 (.slice oa pn oc) pn (Ps.map Prod.fst) from by have h := HPSr.out.own.alloc (.cells #[.slice none 0 0] 27); rw [<- HPN.out] at h; exact h)
     have HRD0 := hid (zCr wr2 #[.slice none 0 0] 27 1 rfl)
     have HON0 := hid (show Ones 1 [[Value.slice none 0 0]] from fun t ht => by rw [Qa.1 ht]; exact ⟨rfl, fun u hu => by rw [Qa.1 hu]; rfl⟩)
     have HSZ0 := hid (show w3.heap.size <= (wr2.alloc (.cells #[.slice none 0 0] 27)).heap.size by have := HBr.out.size; simp; omega)
     have HPN6 := hid (show pn + [[Value.slice none 0 0]].length <= 10000000 by simp; omega)
     go_upto_region 12 with (at_builtin; go_must (refine zAq zJc rfl _ _ rfl w3.heap.size _ _ _ rfl HOW0.out _ [[.slice none 0 0]] rfl HRD0.out HON0.out HPN6.out HSZ0.out (pn + 1) rfl ?_); intro ao4 kc wx hown4 hgrow4 hnew4; have HO4 := hid hown4; have HG4 := hid hgrow4; clear hown4 hgrow4 hnew4)
     obtain ⟨R, hR⟩ := zA3 HO4.out (Qw _)
     subst hR
     obtain ⟨Q, hQ⟩ : ∃ Q, Q = Ps := ⟨_, rfl⟩
     obtain ⟨k, hk⟩ : ∃ k, k = pn + 1 := ⟨_, rfl⟩
     rw [<- hk] at HO4 ⊢
     have HK1 := hid (show k = Q.length + 1 by rw [hk, hQ, HPN.out])
     have HKQ := hid (show k <= q + 1 by omega)
     obtain ⟨p, hp⟩ : ∃ p : List El, p = [] := ⟨_, rfl⟩
     obtain ⟨pa, hpa⟩ : ∃ pa : Option Addr, pa = none := ⟨_, rfl⟩
     obtain ⟨pm, hpm⟩ : ∃ pm : Nat, pm = 0 := ⟨_, rfl⟩
     obtain ⟨pc, hpc⟩ : ∃ pc : Nat, pc = 0 := ⟨_, rfl⟩
     have HPSx := hid (show PsOwn w3.heap.size wx (.slice (some ⟨R, 0, none⟩) k kc) (Q ++ [(.slice pa pm pc, p)]) from by
      have h := PsOwn.new HPSr.out HG4.out (v4 := .slice (some ⟨R, 0, none⟩) k kc) (by rw [<- HPN.out, <- hk]; exact HO4.out)
      rw [hQ, hp, hpa, hpm, hpc]
      exact h)
     have HPm := hid (show pm = p.length by rw [hpm, hp]; rfl)
     have HBx := hid (show Below w3.heap.size w3 wx from (HBr.out.alloc HBr.out.size _).grown HG4.out HSZ0.out (zAg HOW0.out))
     have HF2 := hid (show (Q.map Prod.snd).flatten ++ p = Z.take q by rw [hQ, hp, Qx]; exact HFL.out)
     have HPT2 := hid (show Parted cmpK (fun x : El => keyV (atT x.row g)) (Q.map Prod.snd ++ [p ++ [((.slice za zm zc, zl) : El)]]) from by rw [hQ, hp]; exact HNEW.out)
     clear hQ hk hp hpa hpm hpc
     obtain ⟨ql, hql⟩ : ∃ ql, ql = Q.length := ⟨_, rfl⟩
     have HQL := hid hql
     have hk1 : k = ql + 1 := by rw [HK1.out, hql]
     have hkq := HKQ.out
     have e1 : IntKind.i64.wrap ((k : Int) - 1) = (ql : Int) := by rw [Ql _ (by omega)]; omega
     have hq0 : (0 : Int) <= (ql : Int) := by omega
     have hqk : (ql : Int) < (k : Int) := by omega
     have hown : wx.ownsRow w3.heap.size 27 1 (.slice (some ⟨R, 0, none⟩) k kc) k ((Q ++ [((.slice pa pm pc, p) : Value × List El)]).map Prod.fst) := by have h := HPSx.out.own; rw [Qd, Qo, <- HK1.out] at h; exact h
     have cl : wx.cell? ⟨R, ql, none⟩ = some (.slice pa pm pc) := (hown.cellAt ql (by omega)).trans (by rw [Qb, Qh (by rw [Qc, <- hql]; exact Qf _), Qc, <- hql, Qg]; rfl)
     have HPO := hid (show (wx.alloc (.cells #[.slice za zm zc] 33)).ownsRow w3.heap.size 33 1 (.slice pa pm pc) pm (p.map Prod.fst) from by
      have h := (HPSx.out.part (.slice pa pm pc, p) (Qe.2 (.inr (Qa.2 rfl)))).alloc (.cells #[.slice za zm zc] 33)
      simp only at h
      rw [<- HPm.out] at h
      exact h)
     have HRD := hid (zCr wx #[.slice za zm zc] 33 1 rfl)
     have HON := hid (show Ones 1 [[.slice za zm zc]] from fun t ht => by rw [Qa.1 ht]; exact ⟨rfl, fun u hu => by rw [Qa.1 hu]; rfl⟩)
     have HSZ := hid (show w3.heap.size <= (wx.alloc (.cells #[.slice za zm zc] 33)).heap.size by have := HBx.out.size; simp; omega)
     have hpm : pm + ([[Value.slice za zm zc]] : List (List Value)).length <= 10000000 := by
      have h1 := congrArg Qp HF2.out
      rw [Qd, Qk] at h1
      have h2 := HPm.out
      simp
      omega
     have HPM6 := hid hpm
     have HOX := hid hown
     clear hql hk1 hown hpm hkq
     go_wp2_with (at_builtin; go_must (refine zAq zAm rfl _ _ rfl w3.heap.size _ _ _ rfl HPO.out _ [[.slice za zm zc]] rfl HRD.out HON.out HPM6.out HSZ.out (pm + 1) rfl ?_); intro ao5 cap5 w5 hown5 hgrow5 hnew5; have HO5 := hid hown5; have HG5 := hid hgrow5; have HN5 := hid hnew5; have HX5 := hid (zAj HOX.out ((zBd _ wx (.cells #[.slice za zm zc] 33)).thenGrown hgrow5 fun i _ h => h) fun b hb e => zA9 HOX.out (HPSx.out.part (.slice pa pm pc, p) (Qe.2 (.inr (Qa.2 rfl)))) (by decide) hb e); have c5 : w5.cell? ⟨R, ql, none⟩ = some (.slice pa pm pc) := (HX5.out.cellAt ql (by omega)).trans (by rw [Qb, Qh (by rw [Qc, <- HQL.out]; exact Qf _), Qc, <- HQL.out, Qg]; rfl); have f5 := HX5.out.frozenAt ql; clear hown5 hgrow5 hnew5)
     go_roundw
     case rel =>
      have hmore := HPSx.out.more (x := (.slice za zm zc, zl)) HK1.out HG5.out HN5.out (by rw [<- HPm.out]; exact HO5.out)
      rw [<- HQL.out] at hmore
      have hkl : (Q ++ [(Value.slice ao5 (pm + 1) cap5, p ++ [((.slice za zm zc, zl) : El)])]).length = k := by rw [Qd, HK1.out]; rfl
      refine ⟨q + 1, some ⟨R, 0, none⟩, kc, Q ++ [(.slice ao5 (pm + 1) cap5, p ++ [(.slice za zm zc, zl)])], by omega, by go_num, by rw [hkl], by rw [hkl]; exact hmore, ?_, ?_, by rw [hkl]; have := HK1.out; have := HKQ.out; omega, fun _ => by rw [hkl]; have := HK1.out; omega, ?_⟩
      ·rw [Qb, Qm, Qq, HZQ.out, <- HF2.out]
       simp
      ·rw [Qb]
       exact HPT2.out
      ·exact ((HBx.out.alloc HBx.out.size _).grown HG5.out HSZ.out (zAg HPO.out)).setCell (p := ⟨R, ql, none⟩) (by have := (HOX.out.lt R rfl).1; exact this) _
     case measure => simp [intOf]; omega
  ·have hqn : q = n := by omega
   have hlti : ¬ (q : Int) < (n : Int) := by omega
   have HFIN := hid (show (Ps.map Prod.snd).flatten.Perm E by rw [HFL.out, List.take_of_length_le (by rw [HZL.out]; omega)]; exact HZ1.out)
   go_wp2_with fail
   go_ret
   refine ⟨_, rfl, w3.heap.size, HZ4.out.size, Ps, ?_, HFIN.out, HPT.out, HZ4.out.trans (HB.out.mono HZ4.out.size)⟩
   rw [HPN.out] at HPS
   rw [HPN.out]
   exact HPS.out
end Go.Proofs.Ytnfjdoeemnhkbaa
