import Derived.Test.YtnfjdoeemnhkbaaRfh
import Derived.Test.YtnfjdoeemnhkbaaRfi
import Derived.Test.YtnfjdoeemnhkbaaAgtm
set_option linter.unusedVariables false
set_option linter.unusedSimpArgs false
set_option maxHeartbeats 4000000
namespace Go.Proofs.Ytnfjdoeemnhkbaa
open Go.RowKit Sy
open _root_.List renaming mem_map -> Qa, getElem?_eq_getElem -> Qb, mem_map_of_mem -> Qc, length_map -> Qd, mem_of_getElem? -> Qe, getElem?_eq_some_iff -> Qf, length -> Qg, getElem?_map -> Qh, mem_cons_self -> Qi, map_cons -> Qj, getElem?_of_mem -> Qk, mem_cons -> Ql
open _root_.Option renaming map_some -> Qm
theorem zEc {ks : List Int} (h12 : Kind12 ks) (c : Int) (h0 : 0 <= c) (h1 : c < ks.length) : ∃ kk : Int, (kk = 1 ∨ kk = 2) ∧ ∀ (R : List (List Vc)), KindsR ks R -> ∀ r ∈ R, atT r c ∈ r ∧ NormV (atT r c) ∧ (atT r c).k = kk := by
 obtain ⟨kk, hkk⟩ : ∃ kk, ks[c.toNat]? = some kk := ⟨_, Qb (by omega)⟩
 refine ⟨kk, h12 kk (Qe hkk), fun R h r hr => ?_⟩
 obtain ⟨h2, h3⟩ := h r hr
 have hl : r.length = ks.length := by have := congrArg Qg h2; rw [Qd] at this; exact this
 obtain ⟨v, hv⟩ : ∃ v, r[c.toNat]? = some v := ⟨_, Qb (by omega)⟩
 have e : atT r c = v := by unfold atT; rw [if_neg (by omega), List.getD_eq_getElem?_getD, hv]; rfl
 rw [e]
 refine ⟨Qe hv, h3 v (Qe hv), ?_⟩
 have h4 : (r.map (·.k))[c.toNat]? = some v.k := by rw [Qh, hv]; rfl
 rw [h2, hkk] at h4
 exact (Option.some.inj h4).symm
structure RowsK (ks : List Int) (w : World) (v : Value) (E : List El) : Prop where
 k12 : Kind12 ks
 ne : 0 < ks.length
 wd : ks.length <= 6
 kinds : KindsR ks (E.map El.row)
 le : E.length <= 40
 small : ∀ x ∈ E, ∀ t ∈ x.2, I64 t.1.n ∧ t.1.b.length <= 8
 rd : Rd w v (E.map Prod.fst)
 el : ∀ x ∈ E, RdP w x.1 x.2
theorem RowsK.kept {ks : List Int} {w w' : World} {v : Value} {E : List El} (h : RowsK ks w v E) (hb : Below w.heap.size w w') : RowsK ks w' v E := ⟨h.k12, h.ne, h.wd, h.kinds, h.le, h.small, h.rd.kept hb, fun x hx => (h.el x hx).kept hb⟩
theorem RowsK.len {ks : List Int} {w : World} {v : Value} {E : List El} (h : RowsK ks w v E) {x : El} (hx : x ∈ E) : x.2.length = ks.length := by
 have h1 := congrArg Qg (h.kinds x.row (Qc hx)).1
 unfold El.row at h1
 rw [Qd, Qd] at h1
 exact h1
theorem RowsK.rowsIn {ks : List Int} {w : World} {v : Value} {E : List El} (h : RowsK ks w v E) : RowsIn w E := fun x hx => ⟨h.el x hx, by have := h.len hx; have := h.wd; omega, fun t ht => ⟨(h.small x hx t ht).1, by have := (h.small x hx t ht).2; omega⟩⟩
theorem RowsK.agOK {ks : List Int} {w : World} {v : Value} {E : List El} (h : RowsK ks w v E) {a : Int × Int} (h1 : a.1 = 1 ∨ a.1 = 2 ∨ a.1 = 3 ∨ a.1 = 4) (h2 : 0 <= a.2) (h3 : a.2 < ks.length) : AgOK E a := by
 obtain ⟨kk, hkk, hk⟩ := zEc h.k12 a.2 h2 h3
 refine ⟨h1, a.2.toNat, kk, by omega, hkk, fun x hx => ⟨by have := h.len hx; omega, ?_⟩⟩
 rw [show ((a.2.toNat : Nat) : Int) = a.2 by omega]
 obtain ⟨h4, h5, h6⟩ := hk _ h.kinds x.row (Qc hx)
 refine ⟨h5, h6, ?_⟩
 unfold El.row at h4
 obtain ⟨t, ht, he⟩ := Qa.1 h4
 show I64 (atT (x.2.map Prod.fst) a.2).n
 rw [<- he]
 exact (h.small x hx t ht).1
theorem RowsK.colsK {ks : List Int} {w : World} {v : Value} {E : List El} (h : RowsK ks w v E) : ∀ (cs : List Int), (∀ c ∈ cs, 0 <= c ∧ c < ks.length) -> ∃ ks', Kind12 ks' ∧ KindsR ks' (E.map fun y => cs.map (atT y.row))
 | [], _ => ⟨[], fun k hk => (by cases hk), fun r hr => by obtain ⟨y, _, rfl⟩ := Qa.1 hr; exact ⟨rfl, fun v hv => by cases hv⟩⟩
 | c :: cs, hc => by
  obtain ⟨ks', h1, h2⟩ := h.colsK cs fun c hc2 => hc c (List.mem_cons_of_mem _ hc2)
  obtain ⟨kk, hkk, hk⟩ := zEc h.k12 c (hc c Qi).1 (hc c Qi).2
  refine ⟨kk :: ks', fun k hk2 => ?_, fun r hr => ?_⟩
  ·rcases Ql.1 hk2 with rfl | h3
   ·exact hkk
   ·exact h1 k h3
  ·obtain ⟨y, hy, rfl⟩ := Qa.1 hr
   obtain ⟨_, h5, h6⟩ := hk _ h.kinds y.row (Qc hy)
   obtain ⟨h7, h8⟩ := h2 _ (Qc hy)
   refine ⟨by rw [Qj, Qj, h6, h7], fun v hv => ?_⟩
   rw [Qj] at hv
   rcases Ql.1 hv with rfl | h9
   ·exact h5
   ·exact h8 v h9
theorem zM0 {ks : List Int} (h12 : Kind12 ks) {E : List El} (hK : KindsR ks (E.map El.row)) {g : Int} {Ps : List (List El)} {Qs : List (List (List Vc))} (hP : PartQ g E Ps) (hQ : PartR g (E.map El.row) Qs) :
  Ps.length = Qs.length ∧ ∀ (i : Nat) (p : List El) (q : List (List Vc)), Ps[i]? = some p -> Qs[i]? = some q -> (p.map El.row).Perm q := by
 rcases Int.lt_or_le g 0 with h | h
 ·rw [hP.2 h, hQ.2 h]
  refine ⟨rfl, fun i p q hp hq => ?_⟩
  have hi : i = 0 := by have := (Qf.1 hp).1; simp at this; omega
  subst hi
  cases hp
  cases hq
  exact .refl _
 ·obtain ⟨p1, p2⟩ := hP.1 h
  obtain ⟨q1, q2⟩ := hQ.1 h
  have p3 : Parted cmpK (fun r => keyV (atT r g)) (Ps.map fun p => p.map El.row) := by
   refine ⟨fun p hp => ?_, fun p hp x hx y hy => ?_, List.pairwise_map.2 (p2.rise.imp fun h x hx y hy => ?_)⟩
   ·obtain ⟨p', hp', rfl⟩ := Qa.1 hp
    intro h0
    exact p2.ne p' hp' (List.map_eq_nil_iff.1 h0)
   ·obtain ⟨p', hp', rfl⟩ := Qa.1 hp
    obtain ⟨a, ha, rfl⟩ := Qa.1 hx
    obtain ⟨b, hb, rfl⟩ := Qa.1 hy
    exact p2.same p' hp' a ha b hb
   ·obtain ⟨a, ha, rfl⟩ := Qa.1 hx
    obtain ⟨b, hb, rfl⟩ := Qa.1 hy
    exact h a ha b hb
  have p4 : (Ps.map fun p => p.map El.row).flatten.Perm Qs.flatten := by
   rw [<- List.map_flatten]
   exact (p1.map _).trans q1.symm
  have h5 := zGm zBf _ Qs p3 q2 p4
  rw [Qd] at h5
  refine ⟨h5.1, fun i p q hp hq => h5.2 i _ q (by rw [Qh, hp]; rfl) hq⟩
theorem zJk {ks : List Int} (h12 : Kind12 ks) {R : List (List Vc)} (hK : KindsR ks R) {p q : List (List Vc)} (hpq : p.Perm q) (hp : ∀ r ∈ p, r ∈ R) {a : Int × Int} (h0 : 0 <= a.2) (h1 : a.2 < ks.length) : totT p a.1 a.2 = totT q a.1 a.2 := by
 obtain ⟨kk, _, hk⟩ := zEc h12 a.2 h0 h1
 exact zMw hpq (fun r hr => (hk _ hK r (hp r hr)).2) a.1
theorem zN8 {ks : List Int} (h12 : Kind12 ks) {R : List (List Vc)} (hK : KindsR ks R) {g : Int} (hg : 0 <= g -> g < ks.length) {ags : List (Int × Int)} (ha : ∀ a ∈ ags, 0 <= a.2 ∧ a.2 < ks.length) {p : List El} {q : List (List Vc)} (hpq : (p.map El.row).Perm q) (hp : ∀ r ∈ p.map El.row, r ∈ R) (hd : 0 <= g -> p ≠ [] ∧ ∀ x ∈ p, ∀ y ∈ p, keyV (atT x.row g) = keyV (atT y.row g))
  {r r' : List Vc} (h1 : RowOf g ags p r) (h2 : RowR g ags q r') : r = r' := by
 obtain ⟨ts, e1, e2⟩ := h1
 obtain ⟨ts', e3, e4⟩ := h2
 have ht : ags.map (fun a => totT (p.map El.row) a.1 a.2) = ags.map (fun a => totT q a.1 a.2) := List.map_congr_left fun a ham => zJk h12 hK hpq hp (ha a ham).1 (ha a ham).2
 rw [e2, e4] at ht
 have hts : ts = ts' := (List.map_inj_right (f := some) (fun a b h => Option.some.inj h)).1 ht
 rw [e1, e3, hts]
 congr 1
 by_cases h0 : 0 <= g
 ·rw [if_pos h0, if_pos h0]
  obtain ⟨kk, _, hk⟩ := zEc h12 g h0 (hg h0)
  obtain ⟨hne, hsame⟩ := hd h0
  match p, hne, hpq with
  | x :: p', _, h =>
   obtain ⟨y, q', hq⟩ : ∃ y q', q = y :: q' := by
    match q, h with
    | [], h => exact absurd h.length_eq (by simp)
    | y :: q', _ => exact ⟨y, q', rfl⟩
   subst hq
   have hy : y ∈ (x :: p').map El.row := h.mem_iff.2 Qi
   obtain ⟨z, hz, hzy⟩ := Qa.1 hy
   have hkk := hsame x Qi z hz
   have n1 := hk _ hK x.row (hp _ (by simp))
   have n2 := hk _ hK z.row (hp _ (Qc hz))
   rw [<- hzy]
   show [atT x.row g] = [atT z.row g]
   rw [(zHa (n1.2.2.trans n2.2.2.symm)).1 hkk]
 ·rw [if_neg h0, if_neg h0]
def AggrOut (K : Nat) (E : List El) (g : Int) (ags : List (Int × Int)) (e : Ending) (w' : World) : Prop := ∃ Ps : List (List El), PartQ g E Ps ∧
 ((∃ v', e = .returned (.tuple #[v', .bool true]) ∧ ∃ T : List El, OwnD K w' v' T ∧ T.length = Ps.length ∧ ∀ (i : Nat) (p : List El) (x : El), Ps[i]? = some p -> T[i]? = some x -> RowOf g ags p x.row) ∨
  (e = .returned (.tuple #[.slice none 0 0, .bool false]) ∧ ∃ p ∈ Ps, ∃ a ∈ ags, totT (p.map El.row) a.1 a.2 = none))
theorem zM1 {ks : List Int} (E : List El) (g : Int) (hg : g = -1 ∨ (0 <= g ∧ g < ks.length)) (ags : List (Int × Int)) (has : ags.length <= 1000) (hk : ∀ a ∈ ags, a.1 = 1 ∨ a.1 = 2 ∨ a.1 = 3 ∨ a.1 = 4) (v av : Value) (w : World) (hE : RowsK ks w v E) (hav : RdS w 2 av (ags.map fun a => [.int .i64 a.1, .int .i64 a.2])) :
  Calls Try.prog 11 #[v, .int .i64 g, av] w fun e w' => AggrOut w.heap.size E g ags e w' ∧ Below w.heap.size w w' := by
 have hle := hE.le
 have hin := hE.rowsIn
 refine (zLg (PartQ g E) ags (fun a ha => ?_) has E g v av w hin (fun Ps hP => ?_) hav ?_ ?_).mono ?_
 ·obtain ⟨a1, a2⟩ := a
  rcases hk _ ha with h | h | h | h <;> simp only at h <;> subst h
  ·exact zJ7 a2
  ·exact zMp a2
  ·exact zMt a2
  ·exact zMu a2
 ·obtain ⟨h1, h2, _⟩ := hP.sub hle
  exact ⟨fun p hp => ⟨(h1 p hp).1, by have := (h1 p hp).2.1; omega, (h1 p hp).2.2⟩, by omega⟩
 ·obtain ⟨ao, cap, h, _⟩ := hE.rd
  exact ⟨ao, _, cap, h⟩
 ·rcases hg with rfl | ⟨h0, h1⟩
  ·refine (zLj E v w hE.rd).mono ?_
   rintro e w' ⟨v', rfl, Ps, hrd, hps, hb⟩
   exact ⟨v', rfl, Ps, hrd, ⟨fun h => by omega, fun _ => hps⟩, hb⟩
  ·obtain ⟨kk, hkk, hnk⟩ := zEc hE.k12 g h0 h1
   refine (zMo kk E g h0 (by omega) v w hE.rd (fun x hx => ⟨hE.el x hx, (hin x hx).2.1⟩) (fun x hx => (hnk _ hE.kinds _ (Qc hx)).2)).mono ?_
   rintro e w' ⟨v', rfl, B, hB, Ps, ho, hp, hq, hb⟩
   exact ⟨v', rfl, Ps, ho.rd, ⟨fun _ => ⟨hp, hq⟩, fun h => by omega⟩, hb⟩
 ·rintro e w' ⟨Ps, hP, hb, h⟩
  exact ⟨⟨Ps, hP, h⟩, hb⟩
theorem zJl {ks : List Int} {w1 w2 w3 : World} {v0 : Value} {K : Nat} {E : List El} (hE : RowsK ks w1 v0 E) {g : Int} (hg : g = -1 ∨ (0 <= g ∧ g < ks.length)) {ags : List (Int × Int)} (ha : ∀ a ∈ ags, 0 <= a.2 ∧ a.2 < ks.length) {e1 e2 : Ending} (h1 : AggrOut K E g ags e1 w2) (h2 : RetG (E.map El.row) g ags e2 w3) (hag : ags.length <= 1000) :
  (∃ (v : Value) (T : List El) (v' : Value) (U : List El), e1 = .returned (.tuple #[v, .bool true]) ∧ e2 = .returned (.tuple #[v', .bool true]) ∧ OwnD K w2 v T ∧ Rd w3 v' (U.map Prod.fst) ∧ (∀ x ∈ U, RdP w3 x.1 x.2) ∧ T.map El.row = U.map El.row ∧ T.length <= 1000 ∧ ∀ x ∈ T, x.2.length <= 2000) ∨
   (e1 = .returned (.tuple #[.slice none 0 0, .bool false]) ∧ e2 = .returned (.tuple #[.slice none 0 0, .bool false])) := by
 obtain ⟨Ps, hP, h1⟩ := h1
 obtain ⟨Qs, hQ, h2⟩ := h2
 obtain ⟨hlen, hpq⟩ := zM0 hE.k12 hE.kinds hP hQ
 obtain ⟨hsub, hpl, _⟩ := hP.sub hE.le
 have hgl : 0 <= g -> g < ks.length := fun h => by rcases hg with rfl | h2; omega; exact h2.2
 have hin : ∀ p ∈ Ps, ∀ r ∈ p.map El.row, r ∈ E.map El.row := fun p hp r hr => by obtain ⟨x, hx, rfl⟩ := Qa.1 hr; exact Qc ((hsub p hp).1 x hx)
 have htot : ∀ (i : Nat) (p : List El) (q : List (List Vc)), Ps[i]? = some p -> Qs[i]? = some q -> ∀ a ∈ ags, totT (p.map El.row) a.1 a.2 = totT q a.1 a.2 := fun i p q hp hq a ham => zJk hE.k12 hE.kinds (hpq i p q hp hq) (hin p (Qe hp)) (ha a ham).1 (ha a ham).2
 rcases h1 with ⟨v, rfl, T, hT, hTl, hTr⟩ | ⟨rfl, p, hp, a, ham, hno⟩
 ·rcases h2 with ⟨v', U, rfl, hU1, hU2, hUl, hUr⟩ | ⟨rfl, q, hq, a, ham, hno⟩
  ·refine .inl ⟨v, T, v', U, rfl, rfl, hT, hU1, hU2, ?_, by omega, fun x hx => ?_⟩
   ·apply List.ext_getElem?
    intro i
    rw [Qh, Qh]
    cases hx : T[i]? with
    | none => rw [List.getElem?_eq_none (by have := List.getElem?_eq_none_iff.1 hx; omega)]
    | some x =>
     have hi := (Qf.1 hx).1
     obtain ⟨y, hy⟩ : ∃ y, U[i]? = some y := ⟨_, Qb (by omega)⟩
     obtain ⟨p, hp⟩ : ∃ p, Ps[i]? = some p := ⟨_, Qb (by omega)⟩
     obtain ⟨q, hq⟩ : ∃ q, Qs[i]? = some q := ⟨_, Qb (by omega)⟩
     have hpm := Qe hp
     rw [hy, Qm, Qm, zN8 hE.k12 hE.kinds hgl ha (hpq i p q hp hq) (hin p hpm) (fun h0 => ⟨(hP.1 h0).2.ne p hpm, (hP.1 h0).2.same p hpm⟩) (hTr i p x hp hx) (hUr i q y hq hy)]
   ·obtain ⟨i, hi⟩ := Qk hx
    have hil := (Qf.1 hi).1
    obtain ⟨p, hp⟩ : ∃ p, Ps[i]? = some p := ⟨_, Qb (by omega)⟩
    obtain ⟨ts, e1, e2⟩ := hTr i p x hp hi
    have h3 := congrArg Qg e2
    rw [Qd, Qd] at h3
    have h4 := congrArg Qg e1
    unfold El.row at h4
    rw [Qd, List.length_append] at h4
    split at h4 <;> simp at h4 <;> omega
  ·exfalso
   obtain ⟨i, hi⟩ := Qk hq
   have hil := (Qf.1 hi).1
   obtain ⟨p, hp⟩ : ∃ p, Ps[i]? = some p := ⟨_, Qb (by omega)⟩
   obtain ⟨x, hx⟩ : ∃ x, T[i]? = some x := ⟨_, Qb (by omega)⟩
   obtain ⟨ts, _, e2⟩ := hTr i p x hp hx
   have h5 : totT (p.map El.row) a.1 a.2 ∈ ts.map some := by rw [<- e2]; exact Qc (f := fun a : Int × Int => totT (p.map El.row) a.1 a.2) ham
   rw [htot i p q hp hi a ham, hno] at h5
   obtain ⟨z, _, hz⟩ := Qa.1 h5
   cases hz
 ·rcases h2 with ⟨v', U, rfl, hU1, hU2, hUl, hUr⟩ | ⟨rfl, q, hq, a, ham, hno⟩
  ·exfalso
   obtain ⟨i, hi⟩ := Qk hp
   have hil := (Qf.1 hi).1
   obtain ⟨q, hq⟩ : ∃ q, Qs[i]? = some q := ⟨_, Qb (by omega)⟩
   obtain ⟨x, hx⟩ : ∃ x, U[i]? = some x := ⟨_, Qb (by omega)⟩
   obtain ⟨ts, _, e2⟩ := hUr i q x hq hx
   have h5 : totT q a.1 a.2 ∈ ts.map some := by rw [<- e2]; exact Qc (f := fun a : Int × Int => totT q a.1 a.2) ham
   rw [<- htot i p q hi hq a ham, hno] at h5
   obtain ⟨z, _, hz⟩ := Qa.1 h5
   cases hz
  ·exact .inr ⟨rfl, rfl⟩
end Go.Proofs.Ytnfjdoeemnhkbaa
