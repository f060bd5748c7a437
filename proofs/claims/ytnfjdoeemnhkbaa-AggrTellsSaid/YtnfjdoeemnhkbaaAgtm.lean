import Derived.Test.YtnfjdoeemnhkbaaAgm
import Derived.Test.YtnfjdoeemnhkbaaAgo
import Derived.Test.YtnfjdoeemnhkbaaAgn
import Derived.Test.YtnfjdoeemnhkbaaAgp
import Derived.Test.YtnfjdoeemnhkbaaAgq
set_option linter.unusedVariables false
set_option linter.unusedSimpArgs false
namespace Go.Proofs.Ytnfjdoeemnhkbaa
open Go.RowKit
open _root_.List renaming mem_cons_self -> Qa, flatten_cons -> Qb, mem_cons_of_mem -> Qc, mem_append -> Qd, map_map -> Qe, foldl -> Qf, length_append -> Qg, length_pos_iff -> Qh, pairwise_cons -> Qi, mem_flatten -> Qj, filter_eq_self -> Ql, filter_eq_nil_iff -> Qm, filter_append -> Qn, length_cons -> Qo, length_map -> Qp, map_cons -> Qq
open _root_.Int renaming le_refl -> Qk
theorem zLk {α β : Type} {f : β -> α -> β} {G : β -> Prop} {Q : α -> Prop} (hg : ∀ z x, G z -> Q x -> G (f z x)) (hc : ∀ z x y, G z -> Q x -> Q y -> f (f z x) y = f (f z y) x) {l1 l2 : List α} (h : l1.Perm l2) :
  (∀ x ∈ l1, Q x) -> ∀ z, G z -> l1.foldl f z = l2.foldl f z := by
 induction h with
 | nil => intro _ z _; rfl
 | cons x _ ih =>
  intro hq z hz
  exact ih (fun y hy => hq y (Qc _ hy)) _ (hg z x hz (hq x Qa))
 | swap x y l =>
  intro hq z hz
  show Qf f (f (f z y) x) l = Qf f (f (f z x) y) l
  rw [hc z y x hz (hq y Qa) (hq x (Qc _ Qa))]
 | trans h1 _ ih1 ih2 =>
  intro hq z hz
  exact (ih1 hq z hz).trans (ih2 (fun x hx => hq x (h1.mem_iff.2 hx)) z hz)
def GoodZ (kk : Int) (z : Vc) : Prop := (z.u = true ∧ z.n = 0 ∧ z.b = []) ∨ (z.u = false ∧ NormV z ∧ z.k = kk)
theorem zN2 {kk s : Int} (hs : s = 1 ∨ s = -1) {z x y : Vc} (hz : GoodZ kk z) (hx : NormV x ∧ x.k = kk) (hy : NormV y ∧ y.k = kk) : extStep s (extStep s z x) y = extStep s (extStep s z y) x := by
 have key : x.u = false -> y.u = false -> (cmpT y x = - cmpT x y ∧ (cmpT y x = 0 -> x = y)) := fun _ _ => by
  have h1 : cmpT y x = cmpK (keyV y) (keyV x) := zBg hy.1 hx.1 (hy.2.trans hx.2.symm)
  have h2 : cmpT x y = cmpK (keyV x) (keyV y) := zBg hx.1 hy.1 (hx.2.trans hy.2.symm)
  refine ⟨by rw [h1, h2]; exact zBf.anti _ _, fun h => ?_⟩
  rw [h1] at h
  exact (zHa (hx.2.trans hy.2.symm)).1 ((zBf.eq _ _).1 h).symm
 have nul : ∀ v : Vc, NormV v ∧ v.k = kk -> v.u = true -> ∀ b : Vc, b.u = true ∧ b.n = 0 ∧ b.b = [] -> extStep s b v = ⟨true, kk, 0, []⟩ := fun v hv hu b hb => by
  unfold extStep
  rw [if_pos hu, if_pos hb.1, hb.1, hb.2.1, hb.2.2, hv.2]
 have nul2 : ∀ v : Vc, v.u = true -> ∀ b : Vc, b.u = false -> extStep s b v = b := fun v hu b hb => by
  unfold extStep
  rw [if_pos hu, if_neg (by rw [hb]; decide)]
 have non : ∀ v : Vc, v.u = false -> ∀ b : Vc, b.u = true -> extStep s b v = v := fun v hu b hb => by
  unfold extStep
  rw [if_neg (by rw [hu]; decide), if_pos (.inl hb)]
 have non2 : ∀ v : Vc, v.u = false -> ∀ b : Vc, b.u = false -> extStep s b v = if 0 < cmpT v b * s then v else b := fun v hu b hb => by
  unfold extStep
  rw [if_neg (by rw [hu]; decide)]
  simp only [hb, Bool.false_eq_true, false_or]
 have hT : (⟨true, kk, 0, []⟩ : Vc).u = true ∧ (⟨true, kk, 0, []⟩ : Vc).n = 0 ∧ (⟨true, kk, 0, []⟩ : Vc).b = [] := ⟨rfl, rfl, rfl⟩
 cases hxu : x.u <;> cases hyu : y.u
 ·obtain ⟨ka, ke⟩ := key hxu hyu
  rcases hz with hz | ⟨hzu, hzn, hzk⟩
  ·rw [non x hxu z hz.1, non y hyu z hz.1, non2 y hyu x hxu, non2 x hxu y hyu]
   rcases hs with rfl | rfl
   ·by_cases h1 : 0 < cmpT y x * 1
    ·rw [if_pos h1, if_neg (by omega)]
    ·by_cases h2 : 0 < cmpT x y * 1
     ·rw [if_neg h1, if_pos h2]
     ·rw [if_neg h1, if_neg h2]; exact ke (by omega)
   ·by_cases h1 : 0 < cmpT y x * -1
    ·rw [if_pos h1, if_neg (by omega)]
    ·by_cases h2 : 0 < cmpT x y * -1
     ·rw [if_neg h1, if_pos h2]
     ·rw [if_neg h1, if_neg h2]; exact ke (by omega)
  ·have tr : ∀ a b c : Vc, NormV a ∧ a.k = kk -> NormV b ∧ b.k = kk -> NormV c ∧ c.k = kk -> cmpT a b <= 0 -> cmpT b c <= 0 -> cmpT a c <= 0 ∧ (cmpT a c = 0 -> cmpT a b = 0 ∧ cmpT b c = 0) := fun a b c ha hb hc => by
    rw [zBg ha.1 hb.1 (ha.2.trans hb.2.symm), zBg hb.1 hc.1 (hb.2.trans hc.2.symm), zBg ha.1 hc.1 (ha.2.trans hc.2.symm)]
    exact zBf.tr _ _ _
   have an : ∀ a b : Vc, NormV a ∧ a.k = kk -> NormV b ∧ b.k = kk -> cmpT b a = - cmpT a b := fun a b ha hb => by
    rw [zBg ha.1 hb.1 (ha.2.trans hb.2.symm), zBg hb.1 ha.1 (hb.2.trans ha.2.symm)]
    exact zBf.anti _ _
   have hzz : NormV z ∧ z.k = kk := ⟨hzn, hzk⟩
   have a1 := an x z hx hzz
   have a2 := an y z hy hzz
   have t1 := tr x y z hx hy hzz
   have t2 := tr y x z hy hx hzz
   have t3 := tr x z y hx hzz hy
   have t4 := tr y z x hy hzz hx
   have t5 := tr z x y hzz hx hy
   have t6 := tr z y x hzz hy hx
   rw [non2 x hxu z hzu, non2 y hyu z hzu]
   have eqc : ∀ σ : Int, (σ = 1 ∨ σ = -1) -> (if 0 < cmpT x z * σ then (if 0 < cmpT y x * σ then y else x) else (if 0 < cmpT y z * σ then y else z)) = (if 0 < cmpT y z * σ then (if 0 < cmpT x y * σ then x else y) else (if 0 < cmpT x z * σ then x else z)) := fun σ hσ => by
    rcases hσ with rfl | rfl
    ·by_cases c1 : 0 < cmpT x z * 1 <;> by_cases c2 : 0 < cmpT y z * 1 <;> by_cases c3 : 0 < cmpT y x * 1 <;> by_cases c4 : 0 < cmpT x y * 1 <;> simp only [c1, c2, c3, c4, if_true, if_false] <;> first | rfl | (exfalso; omega) | exact ke (by omega) | exact (ke (by omega)).symm
    ·by_cases c1 : 0 < cmpT x z * -1 <;> by_cases c2 : 0 < cmpT y z * -1 <;> by_cases c3 : 0 < cmpT y x * -1 <;> by_cases c4 : 0 < cmpT x y * -1 <;> simp only [c1, c2, c3, c4, if_true, if_false] <;> first | rfl | (exfalso; omega) | exact ke (by omega) | exact (ke (by omega)).symm
   have l1 : extStep s (if 0 < cmpT x z * s then x else z) y = (if 0 < cmpT x z * s then (if 0 < cmpT y x * s then y else x) else (if 0 < cmpT y z * s then y else z)) := by
    split
    ·exact non2 y hyu x hxu
    ·exact non2 y hyu z hzu
   have l2 : extStep s (if 0 < cmpT y z * s then y else z) x = (if 0 < cmpT y z * s then (if 0 < cmpT x y * s then x else y) else (if 0 < cmpT x z * s then x else z)) := by
    split
    ·exact non2 x hxu y hyu
    ·exact non2 x hxu z hzu
   rw [l1, l2]
   exact eqc s hs
 ·rcases hz with hz | ⟨hzu, _, _⟩
  ·rw [non x hxu z hz.1, nul2 y hyu x hxu, nul y hy hyu z hz, non x hxu _ rfl]
  ·rw [nul2 y hyu z hzu, non2 x hxu z hzu]
   split
   ·exact nul2 y hyu x hxu
   ·exact nul2 y hyu z hzu
 ·rcases hz with hz | ⟨hzu, _, _⟩
  ·rw [nul x hx hxu z hz, non y hyu _ rfl, non y hyu z hz.1, nul2 x hxu y hyu]
  ·rw [nul2 x hxu z hzu, non2 y hyu z hzu]
   split
   ·exact (nul2 x hxu y hyu).symm
   ·exact (nul2 x hxu z hzu).symm
 ·rcases hz with hz | ⟨hzu, _, _⟩
  ·rw [nul x hx hxu z hz, nul y hy hyu z hz, nul y hy hyu _ hT, nul x hx hxu _ hT]
  ·rw [nul2 x hxu z hzu, nul2 y hyu z hzu, nul2 x hxu z hzu]
theorem zN3 {kk s : Int} {z x : Vc} (hz : GoodZ kk z) (hx : NormV x ∧ x.k = kk) : GoodZ kk (extStep s z x) := by
 unfold extStep
 split
 ·rename_i hxu
  split
  ·rename_i hzu
   rcases hz with hz | hz
   ·exact .inl ⟨hz.1, hz.2.1, hz.2.2⟩
   ·rw [hz.1] at hzu; cases hzu
  ·exact hz
 ·rename_i hxu
  split
  ·exact .inr ⟨by simpa using hxu, hx.1, hx.2⟩
  ·exact hz
theorem zIf {kk s c : Int} (hs : s = 1 ∨ s = -1) {R S : List (List Vc)} (h : R.Perm S) (hn : ∀ r ∈ R, NormV (atT r c) ∧ (atT r c).k = kk) : extT R c s = extT S c s := by
 unfold extT
 exact zLk (G := GoodZ kk) (Q := fun r => NormV (atT r c) ∧ (atT r c).k = kk) (fun z x hz hx => zN3 hz hx) (fun z x y hz hx hy => zN2 hs hz hx hy) h hn _ (.inl ⟨rfl, rfl, rfl⟩)
theorem zMw {kk c : Int} {R S : List (List Vc)} (h : R.Perm S) (hn : ∀ r ∈ R, NormV (atT r c) ∧ (atT r c).k = kk) (k : Int) : totT R k c = totT S k c := by
 unfold totT
 rw [h.length_eq, zMk h, zIf (.inr rfl) h hn, zIf (.inl rfl) h hn]
theorem zGm {α β : Type} [DecidableEq β] {f : β -> β -> Int} (hf : Cmp3 f) {key : α -> β} : ∀ (Ps Qs : List (List α)), Parted f key Ps -> Parted f key Qs -> Ps.flatten.Perm Qs.flatten -> Ps.length = Qs.length ∧ ∀ (i : Nat) (p q : List α), Ps[i]? = some p -> Qs[i]? = some q -> p.Perm q
 | [], [], _, _, _ => ⟨rfl, fun i p q h => by simp at h⟩
 | [], q :: Qs, _, hq, h => by
  exfalso
  have h1 := h.length_eq
  have h2 := hq.ne q Qa
  rw [Qb, Qg] at h1
  have := Qh.2 h2
  simp at h1
  omega
 | p :: Ps, [], hp, _, h => by
  exfalso
  have h1 := h.length_eq
  have h2 := hp.ne p Qa
  rw [Qb, Qg] at h1
  have := Qh.2 h2
  rw [show ([] : List (List α)).flatten = [] from rfl, List.length_nil] at h1
  omega
 | p :: Ps, q :: Qs, hp, hq, h => by
  have tl : ∀ (A : List α) (As : List (List α)), Parted f key (A :: As) -> Parted f key As := fun A As h => ⟨fun x hx => h.ne x (Qc _ hx), fun x hx => h.same x (Qc _ hx), (Qi.1 h.rise).2⟩
  have least : ∀ (A : List α) (As : List (List α)), Parted f key (A :: As) -> ∀ a ∈ A, (∀ y ∈ A, key y = key a) ∧ ∀ y ∈ As.flatten, f (key a) (key y) < 0 := fun A As h a ha => by
   refine ⟨fun y hy => h.same A Qa y hy a ha, fun y hy => ?_⟩
   obtain ⟨B, hB, hyB⟩ := Qj.1 hy
   exact (Qi.1 h.rise).1 B hB a ha y hyB
  obtain ⟨a, ha⟩ : ∃ a, a ∈ p := by
   cases hpp : p with
   | nil => exact absurd hpp (hp.ne p Qa)
   | cons x t => exact ⟨x, Qa⟩
  obtain ⟨b, hb⟩ : ∃ b, b ∈ q := by
   cases hqq : q with
   | nil => exact absurd hqq (hq.ne q Qa)
   | cons x t => exact ⟨x, Qa⟩
  obtain ⟨pa, pr⟩ := least p Ps hp a ha
  obtain ⟨qb, qr⟩ := least q Qs hq b hb
  have self : ∀ k, f k k = 0 := fun k => (hf.eq k k).2 rfl
  have ge1 : f (key a) (key b) <= 0 := by
   have hm : b ∈ (p :: Ps).flatten := h.mem_iff.2 (by rw [Qb]; exact Qd.2 (.inl hb))
   rw [Qb] at hm
   rcases Qd.1 hm with hm | hm
   ·rw [pa b hm, self]; exact Qk _
   ·have := pr b hm; omega
  have ge2 : f (key b) (key a) <= 0 := by
   have hm : a ∈ (q :: Qs).flatten := h.mem_iff.1 (by rw [Qb]; exact Qd.2 (.inl ha))
   rw [Qb] at hm
   rcases Qd.1 hm with hm | hm
   ·rw [qb a hm, self]; exact Qk _
   ·have := qr a hm; omega
  have hab : key a = key b := (hf.eq _ _).1 (by have := hf.anti (key a) (key b); omega)
  have fil : ∀ (A : List α) (As : List (List α)) (d : α), (∀ y ∈ A, key y = key d) -> (∀ y ∈ As.flatten, f (key d) (key y) < 0) -> ((A :: As).flatten.filter fun y => decide (key y = key d)) = A ∧ ((A :: As).flatten.filter fun y => !decide (key y = key d)) = As.flatten := fun A As d h1 h2 => by
   have e1 : A.filter (fun y => decide (key y = key d)) = A := Ql.2 fun y hy => by rw [decide_eq_true_eq]; exact h1 y hy
   have e2 : As.flatten.filter (fun y => decide (key y = key d)) = [] := Qm.2 fun y hy e => by
    rw [decide_eq_true_eq] at e
    have := h2 y hy
    rw [e, self] at this
    omega
   have e3 : A.filter (fun y => !decide (key y = key d)) = [] := Qm.2 fun y hy e => by
    rw [h1 y hy] at e
    simp at e
   have e4 : As.flatten.filter (fun y => !decide (key y = key d)) = As.flatten := Ql.2 fun y hy => by
    rw [Bool.not_eq_true', decide_eq_false_iff_not]
    intro e
    have := h2 y hy
    rw [e, self] at this
    omega
   rw [Qb, Qn, Qn, e1, e2, e3, e4, List.append_nil, List.nil_append]
   exact ⟨rfl, rfl⟩
  obtain ⟨f1, f2⟩ := fil p Ps a pa pr
  obtain ⟨g1, g2⟩ := fil q Qs b qb qr
  rw [<- hab] at g1 g2
  have hpq : p.Perm q := by
   have := h.filter (fun y => decide (key y = key a))
   rw [f1, g1] at this
   exact this
  have hrest : Ps.flatten.Perm Qs.flatten := by
   have := h.filter (fun y => !decide (key y = key a))
   rw [f2, g2] at this
   exact this
  obtain ⟨hl, hi⟩ := zGm hf Ps Qs (tl p Ps hp) (tl q Qs hq) hrest
  refine ⟨by rw [Qo, Qo, hl], fun i x y hx hy => ?_⟩
  cases i with
  | zero => cases hx; cases hy; exact hpq
  | succ i => exact hi i x y hx hy
open Go.RowKit Sy
structure RowsX (cols : List Co) (l : List Int) (w : World) (v : Value) (E : List El) : Prop where
 mem : ∀ x ∈ E, x.row ∈ rows9 cols l
 le : E.length <= 40
 rd : Rd w v (E.map Prod.fst)
 el : ∀ x ∈ E, RdP w x.1 x.2
theorem RowsX.kept {cols : List Co} {l : List Int} {w w' : World} {v : Value} {E : List El} (h : RowsX cols l w v E) (hb : Below w.heap.size w w') : RowsX cols l w' v E := ⟨h.mem, h.le, h.rd.kept hb, fun x hx => (h.el x hx).kept hb⟩
theorem RowsX.rowsIn {cols : List Co} (hok : ColsOk cols) {l : List Int} {w : World} {v : Value} {E : List El} (h : RowsX cols l w v E) : RowsIn w E := fun x hx => by
 have hm := h.mem x hx
 have hl := zIc hm
 unfold El.row at hl
 rw [Qp] at hl
 refine ⟨h.el x hx, by have := hok.le; omega, fun t ht => ?_⟩
 have := zGk hm t.1 (by unfold El.row; exact List.mem_map_of_mem ht)
 exact ⟨this.1, by omega⟩
theorem RowsX.sum {cols : List Co} (hok : ColsOk cols) {l : List Int} {w : World} {v : Value} {E : List El} (h : RowsX cols l w v E) {p : List El} (hp : ∀ x ∈ p, x ∈ E) : 0 <= sumT (p.map El.row) 0 ∧ sumT (p.map El.row) 0 <= 200 * (p.length : Int) := by
 have := zKn (R := p.map El.row) fun r hr => by
  obtain ⟨x, hx, rfl⟩ := List.mem_map.1 hr
  exact zIe hok (h.mem x (hp x hx))
 rw [Qp] at this
 exact this
def PartQ (c : Int) (E : List El) (Ps : List (List El)) : Prop := (0 <= c -> Ps.flatten.Perm E ∧ Parted cmpK (fun x : El => keyV (atT x.row c)) Ps) ∧ (c < 0 -> Ps = [E])
theorem PartQ.sub {c : Int} {E : List El} {Ps : List (List El)} (h : PartQ c E Ps) (hE : E.length <= 40) : (∀ p ∈ Ps, (∀ x ∈ p, x ∈ E) ∧ p.length <= 40 ∧ (0 <= c -> p ≠ [])) ∧ Ps.length <= 41 ∧ (0 <= c -> Ps.length <= E.length) := by
 rcases Int.lt_or_le c 0 with hc | hc
 ·rw [h.2 hc]
  refine ⟨fun p hp => ?_, by simp, fun h => by omega⟩
  rw [List.mem_singleton.1 hp]
  exact ⟨fun x hx => hx, hE, fun h => by omega⟩
 ·obtain ⟨h1, h2⟩ := h.1 hc
  have hfl := h1.length_eq
  have hne := zOz Ps h2.ne
  refine ⟨fun p hp => ⟨fun x hx => h1.mem_iff.1 (Qj.2 ⟨p, hp, hx⟩), ?_, fun _ => h2.ne p hp⟩, by omega, fun _ => by omega⟩
  have := zO0 hp
  omega
theorem zIg {ks : List Int} : ∀ (R S : List (List Vc)), KindsR ks R -> KindsR ks S -> R.map keyR = S.map keyR -> R = S
 | [], [], _, _, _ => rfl
 | [], _ :: _, _, _, h => by cases h
 | _ :: _, [], _, _, h => by cases h
 | x :: R, y :: S, h1, h2, h => by
  rw [Qq, Qq, List.cons.injEq] at h
  have hx := (h1 x Qa).1
  have hy := (h2 y Qa).1
  rw [(zKk x y (hx.trans hy.symm)).1 h.1, zIg R S (fun r hr => h1 r (Qc _ hr)) (fun r hr => h2 r (Qc _ hr)) h.2]
theorem zGn {ks : List Int} {Z Y : List El} {R S : List (List Vc)} (hk : KindsR ks R) (hRS : S.Perm R) (h1 : (Z.map El.row).Perm R) (h2 : (Y.map El.row).Perm S) (s1 : Srt (ltC (lexL cmpK) fun x : El => keyR x.row) Z) (s2 : Srt (ltC (lexL cmpK) fun x : El => keyR x.row) Y) : Z.map El.row = Y.map El.row := by
 have hp : (Z.map El.row).Perm (Y.map El.row) := h1.trans (hRS.symm.trans h2.symm)
 have kz : KindsR ks (Z.map El.row) := fun r hr => hk r (h1.mem_iff.1 hr)
 have ky : KindsR ks (Y.map El.row) := fun r hr => hk r (hRS.mem_iff.1 (h2.mem_iff.1 hr))
 refine zIg _ _ kz ky ?_
 have h3 : (Z.map fun x : El => keyR x.row).Perm (Y.map fun x : El => keyR x.row) := by
  have := hp.map keyR
  rw [Qe, Qe] at this
  exact this
 have h4 := zNr (zC3 zBf) s1 s2 h3
 rw [Qe, Qe]
 exact h4
end Go.Proofs.Ytnfjdoeemnhkbaa
