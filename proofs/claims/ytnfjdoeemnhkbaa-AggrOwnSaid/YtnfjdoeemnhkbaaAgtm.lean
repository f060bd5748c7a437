/-
  Plain: what rows come to does not hang on their order.
  What the law's four come to, of rows and of the same rows in another order.
-/
import Derived.Test.YtnfjdoeemnhkbaaAgm
import Derived.Test.YtnfjdoeemnhkbaaAgo
import Derived.Test.YtnfjdoeemnhkbaaAgn
import Derived.Test.YtnfjdoeemnhkbaaAgp
import Derived.Test.YtnfjdoeemnhkbaaAgq
namespace Go.Proofs.Ytnfjdoeemnhkbaa
set_option linter.unusedVariables false
set_option linter.unusedSimpArgs false
open Go.RowKit

theorem foldl_perm {α β : Type} {f : β → α → β} {G : β → Prop} {Q : α → Prop} (hg : ∀ z x, G z → Q x → G (f z x)) (hc : ∀ z x y, G z → Q x → Q y → f (f z x) y = f (f z y) x) {l1 l2 : List α} (h : l1.Perm l2) :
    (∀ x ∈ l1, Q x) → ∀ z, G z → l1.foldl f z = l2.foldl f z := by
  induction h with
  | nil => intro _ z _; rfl
  | cons x _ ih =>
    intro hq z hz
    exact ih (fun y hy => hq y (List.mem_cons_of_mem _ hy)) _ (hg z x hz (hq x List.mem_cons_self))
  | swap x y l =>
    intro hq z hz
    show List.foldl f (f (f z y) x) l = List.foldl f (f (f z x) y) l
    rw [hc z y x hz (hq y List.mem_cons_self) (hq x (List.mem_cons_of_mem _ List.mem_cons_self))]
  | trans h1 _ ih1 ih2 =>
    intro hq z hz
    exact (ih1 hq z hz).trans (ih2 (fun x hx => hq x (h1.mem_iff.2 hx)) z hz)

def GoodZ (kk : Int) (z : Vc) : Prop := (z.u = true ∧ z.n = 0 ∧ z.b = []) ∨ (z.u = false ∧ NormV z ∧ z.k = kk)
theorem ext_comm {kk s : Int} (hs : s = 1 ∨ s = -1) {z x y : Vc} (hz : GoodZ kk z) (hx : NormV x ∧ x.k = kk) (hy : NormV y ∧ y.k = kk) : extStep s (extStep s z x) y = extStep s (extStep s z y) x := by
  have key : x.u = false → y.u = false → (cmpT y x = - cmpT x y ∧ (cmpT y x = 0 → x = y)) := fun _ _ => by
    have h1 : cmpT y x = cmpK (keyV y) (keyV x) := cmpT_key hy.1 hx.1 (hy.2.trans hx.2.symm)
    have h2 : cmpT x y = cmpK (keyV x) (keyV y) := cmpT_key hx.1 hy.1 (hx.2.trans hy.2.symm)
    refine ⟨by rw [h1, h2]; exact cmpK_ok.anti _ _, fun h => ?_⟩
    rw [h1] at h
    exact (key_eq (hx.2.trans hy.2.symm)).1 ((cmpK_ok.eq _ _).1 h).symm
  have nul : ∀ v : Vc, NormV v ∧ v.k = kk → v.u = true → ∀ b : Vc, b.u = true ∧ b.n = 0 ∧ b.b = [] → extStep s b v = ⟨true, kk, 0, []⟩ := fun v hv hu b hb => by
    unfold extStep
    rw [if_pos hu, if_pos hb.1, hb.1, hb.2.1, hb.2.2, hv.2]
  have nul2 : ∀ v : Vc, v.u = true → ∀ b : Vc, b.u = false → extStep s b v = b := fun v hu b hb => by
    unfold extStep
    rw [if_pos hu, if_neg (by rw [hb]; decide)]
  have non : ∀ v : Vc, v.u = false → ∀ b : Vc, b.u = true → extStep s b v = v := fun v hu b hb => by
    unfold extStep
    rw [if_neg (by rw [hu]; decide), if_pos (.inl hb)]
  have non2 : ∀ v : Vc, v.u = false → ∀ b : Vc, b.u = false → extStep s b v = if 0 < cmpT v b * s then v else b := fun v hu b hb => by
    unfold extStep
    rw [if_neg (by rw [hu]; decide)]
    simp only [hb, Bool.false_eq_true, false_or]
  have hT : (⟨true, kk, 0, []⟩ : Vc).u = true ∧ (⟨true, kk, 0, []⟩ : Vc).n = 0 ∧ (⟨true, kk, 0, []⟩ : Vc).b = [] := ⟨rfl, rfl, rfl⟩
  cases hxu : x.u <;> cases hyu : y.u
  · obtain ⟨ka, ke⟩ := key hxu hyu
    rcases hz with hz | ⟨hzu, hzn, hzk⟩
    · rw [non x hxu z hz.1, non y hyu z hz.1, non2 y hyu x hxu, non2 x hxu y hyu]
      rcases hs with rfl | rfl
      · by_cases h1 : 0 < cmpT y x * 1
        · rw [if_pos h1, if_neg (by omega)]
        · by_cases h2 : 0 < cmpT x y * 1
          · rw [if_neg h1, if_pos h2]
          · rw [if_neg h1, if_neg h2]; exact ke (by omega)
      · by_cases h1 : 0 < cmpT y x * -1
        · rw [if_pos h1, if_neg (by omega)]
        · by_cases h2 : 0 < cmpT x y * -1
          · rw [if_neg h1, if_pos h2]
          · rw [if_neg h1, if_neg h2]; exact ke (by omega)
    · have tr : ∀ a b c : Vc, NormV a ∧ a.k = kk → NormV b ∧ b.k = kk → NormV c ∧ c.k = kk → cmpT a b ≤ 0 → cmpT b c ≤ 0 → cmpT a c ≤ 0 ∧ (cmpT a c = 0 → cmpT a b = 0 ∧ cmpT b c = 0) := fun a b c ha hb hc => by
        rw [cmpT_key ha.1 hb.1 (ha.2.trans hb.2.symm), cmpT_key hb.1 hc.1 (hb.2.trans hc.2.symm), cmpT_key ha.1 hc.1 (ha.2.trans hc.2.symm)]
        exact cmpK_ok.tr _ _ _
      have an : ∀ a b : Vc, NormV a ∧ a.k = kk → NormV b ∧ b.k = kk → cmpT b a = - cmpT a b := fun a b ha hb => by
        rw [cmpT_key ha.1 hb.1 (ha.2.trans hb.2.symm), cmpT_key hb.1 ha.1 (hb.2.trans ha.2.symm)]
        exact cmpK_ok.anti _ _
      have hzz : NormV z ∧ z.k = kk := ⟨hzn, hzk⟩
      have a1 := an x z hx hzz
      have a2 := an y z hy hzz
      have t1 := tr x y z hx hy hzz
      have t2 := tr y x z hy hx hzz
      have t3 := tr x z y hx hzz hy
      have t4 := tr y z x hy hzz hx
      have t5 := tr z x y hzz hx hy
      have t6 := tr z y x hzz hy hx
      rw [non2 x hxu z hzu, non2 y hyu z hzu]
      have eqc : ∀ σ : Int, (σ = 1 ∨ σ = -1) → (if 0 < cmpT x z * σ then (if 0 < cmpT y x * σ then y else x) else (if 0 < cmpT y z * σ then y else z)) = (if 0 < cmpT y z * σ then (if 0 < cmpT x y * σ then x else y) else (if 0 < cmpT x z * σ then x else z)) := fun σ hσ => by
        rcases hσ with rfl | rfl
        · by_cases c1 : 0 < cmpT x z * 1 <;> by_cases c2 : 0 < cmpT y z * 1 <;> by_cases c3 : 0 < cmpT y x * 1 <;> by_cases c4 : 0 < cmpT x y * 1 <;> simp only [c1, c2, c3, c4, if_true, if_false] <;> first | rfl | (exfalso; omega) | exact ke (by omega) | exact (ke (by omega)).symm
        · by_cases c1 : 0 < cmpT x z * -1 <;> by_cases c2 : 0 < cmpT y z * -1 <;> by_cases c3 : 0 < cmpT y x * -1 <;> by_cases c4 : 0 < cmpT x y * -1 <;> simp only [c1, c2, c3, c4, if_true, if_false] <;> first | rfl | (exfalso; omega) | exact ke (by omega) | exact (ke (by omega)).symm
      have l1 : extStep s (if 0 < cmpT x z * s then x else z) y = (if 0 < cmpT x z * s then (if 0 < cmpT y x * s then y else x) else (if 0 < cmpT y z * s then y else z)) := by
        split
        · exact non2 y hyu x hxu
        · exact non2 y hyu z hzu
      have l2 : extStep s (if 0 < cmpT y z * s then y else z) x = (if 0 < cmpT y z * s then (if 0 < cmpT x y * s then x else y) else (if 0 < cmpT x z * s then x else z)) := by
        split
        · exact non2 x hxu y hyu
        · exact non2 x hxu z hzu
      rw [l1, l2]
      exact eqc s hs
  · rcases hz with hz | ⟨hzu, _, _⟩
    · rw [non x hxu z hz.1, nul2 y hyu x hxu, nul y hy hyu z hz, non x hxu _ rfl]
    · rw [nul2 y hyu z hzu, non2 x hxu z hzu]
      split
      · exact nul2 y hyu x hxu
      · exact nul2 y hyu z hzu
  · rcases hz with hz | ⟨hzu, _, _⟩
    · rw [nul x hx hxu z hz, non y hyu _ rfl, non y hyu z hz.1, nul2 x hxu y hyu]
    · rw [nul2 x hxu z hzu, non2 y hyu z hzu]
      split
      · exact (nul2 x hxu y hyu).symm
      · exact (nul2 x hxu z hzu).symm
  · rcases hz with hz | ⟨hzu, _, _⟩
    · rw [nul x hx hxu z hz, nul y hy hyu z hz, nul y hy hyu _ hT, nul x hx hxu _ hT]
    · rw [nul2 x hxu z hzu, nul2 y hyu z hzu, nul2 x hxu z hzu]
theorem ext_good {kk s : Int} {z x : Vc} (hz : GoodZ kk z) (hx : NormV x ∧ x.k = kk) : GoodZ kk (extStep s z x) := by
  unfold extStep
  split
  · rename_i hxu
    split
    · rename_i hzu
      rcases hz with hz | hz
      · exact .inl ⟨hz.1, hz.2.1, hz.2.2⟩
      · rw [hz.1] at hzu; cases hzu
    · exact hz
  · rename_i hxu
    split
    · exact .inr ⟨by simpa using hxu, hx.1, hx.2⟩
    · exact hz
theorem extT_perm {kk s c : Int} (hs : s = 1 ∨ s = -1) {R S : List (List Vc)} (h : R.Perm S) (hn : ∀ r ∈ R, NormV (atT r c) ∧ (atT r c).k = kk) : extT R c s = extT S c s := by
  unfold extT
  exact foldl_perm (G := GoodZ kk) (Q := fun r => NormV (atT r c) ∧ (atT r c).k = kk) (fun z x hz hx => ext_good hz hx) (fun z x y hz hx hy => ext_comm hs hz hx hy) h hn _ (.inl ⟨rfl, rfl, rfl⟩)
theorem totT_perm {kk c : Int} {R S : List (List Vc)} (h : R.Perm S) (hn : ∀ r ∈ R, NormV (atT r c) ∧ (atT r c).k = kk) (k : Int) : totT R k c = totT S k c := by
  unfold totT
  rw [h.length_eq, sumT_perm h, extT_perm (.inr rfl) h hn, extT_perm (.inl rfl) h hn]

/-- Parted ones of the same things are the same parts. -/
theorem parted_same {α β : Type} [DecidableEq β] {f : β → β → Int} (hf : Cmp3 f) {key : α → β} : ∀ (Ps Qs : List (List α)), Parted f key Ps → Parted f key Qs → Ps.flatten.Perm Qs.flatten → Ps.length = Qs.length ∧ ∀ (i : Nat) (p q : List α), Ps[i]? = some p → Qs[i]? = some q → p.Perm q
  | [], [], _, _, _ => ⟨rfl, fun i p q h => by simp at h⟩
  | [], q :: Qs, _, hq, h => by
    exfalso
    have h1 := h.length_eq
    have h2 := hq.ne q List.mem_cons_self
    rw [List.flatten_cons, List.length_append] at h1
    have := List.length_pos_iff.2 h2
    simp at h1
    omega
  | p :: Ps, [], hp, _, h => by
    exfalso
    have h1 := h.length_eq
    have h2 := hp.ne p List.mem_cons_self
    rw [List.flatten_cons, List.length_append] at h1
    have := List.length_pos_iff.2 h2
    rw [show ([] : List (List α)).flatten = [] from rfl, List.length_nil] at h1
    omega
  | p :: Ps, q :: Qs, hp, hq, h => by
    have tl : ∀ (A : List α) (As : List (List α)), Parted f key (A :: As) → Parted f key As := fun A As h => ⟨fun x hx => h.ne x (List.mem_cons_of_mem _ hx), fun x hx => h.same x (List.mem_cons_of_mem _ hx), (List.pairwise_cons.1 h.rise).2⟩
    have least : ∀ (A : List α) (As : List (List α)), Parted f key (A :: As) → ∀ a ∈ A, (∀ y ∈ A, key y = key a) ∧ ∀ y ∈ As.flatten, f (key a) (key y) < 0 := fun A As h a ha => by
      refine ⟨fun y hy => h.same A List.mem_cons_self y hy a ha, fun y hy => ?_⟩
      obtain ⟨B, hB, hyB⟩ := List.mem_flatten.1 hy
      exact (List.pairwise_cons.1 h.rise).1 B hB a ha y hyB
    obtain ⟨a, ha⟩ : ∃ a, a ∈ p := by
      cases hpp : p with
      | nil => exact absurd hpp (hp.ne p List.mem_cons_self)
      | cons x t => exact ⟨x, List.mem_cons_self⟩
    obtain ⟨b, hb⟩ : ∃ b, b ∈ q := by
      cases hqq : q with
      | nil => exact absurd hqq (hq.ne q List.mem_cons_self)
      | cons x t => exact ⟨x, List.mem_cons_self⟩
    obtain ⟨pa, pr⟩ := least p Ps hp a ha
    obtain ⟨qb, qr⟩ := least q Qs hq b hb
    have self : ∀ k, f k k = 0 := fun k => (hf.eq k k).2 rfl
    have ge1 : f (key a) (key b) ≤ 0 := by
      have hm : b ∈ (p :: Ps).flatten := h.mem_iff.2 (by rw [List.flatten_cons]; exact List.mem_append.2 (.inl hb))
      rw [List.flatten_cons] at hm
      rcases List.mem_append.1 hm with hm | hm
      · rw [pa b hm, self]; exact Int.le_refl _
      · have := pr b hm; omega
    have ge2 : f (key b) (key a) ≤ 0 := by
      have hm : a ∈ (q :: Qs).flatten := h.mem_iff.1 (by rw [List.flatten_cons]; exact List.mem_append.2 (.inl ha))
      rw [List.flatten_cons] at hm
      rcases List.mem_append.1 hm with hm | hm
      · rw [qb a hm, self]; exact Int.le_refl _
      · have := qr a hm; omega
    have hab : key a = key b := (hf.eq _ _).1 (by have := hf.anti (key a) (key b); omega)
    have fil : ∀ (A : List α) (As : List (List α)) (d : α), (∀ y ∈ A, key y = key d) → (∀ y ∈ As.flatten, f (key d) (key y) < 0) → ((A :: As).flatten.filter fun y => decide (key y = key d)) = A ∧ ((A :: As).flatten.filter fun y => !decide (key y = key d)) = As.flatten := fun A As d h1 h2 => by
      have e1 : A.filter (fun y => decide (key y = key d)) = A := List.filter_eq_self.2 fun y hy => by rw [decide_eq_true_eq]; exact h1 y hy
      have e2 : As.flatten.filter (fun y => decide (key y = key d)) = [] := List.filter_eq_nil_iff.2 fun y hy e => by
        rw [decide_eq_true_eq] at e
        have := h2 y hy
        rw [e, self] at this
        omega
      have e3 : A.filter (fun y => !decide (key y = key d)) = [] := List.filter_eq_nil_iff.2 fun y hy e => by
        rw [h1 y hy] at e
        simp at e
      have e4 : As.flatten.filter (fun y => !decide (key y = key d)) = As.flatten := List.filter_eq_self.2 fun y hy => by
        rw [Bool.not_eq_true', decide_eq_false_iff_not]
        intro e
        have := h2 y hy
        rw [e, self] at this
        omega
      rw [List.flatten_cons, List.filter_append, List.filter_append, e1, e2, e3, e4, List.append_nil, List.nil_append]
      exact ⟨rfl, rfl⟩
    obtain ⟨f1, f2⟩ := fil p Ps a pa pr
    obtain ⟨g1, g2⟩ := fil q Qs b qb qr
    rw [← hab] at g1 g2
    have hpq : p.Perm q := by
      have := h.filter (fun y => decide (key y = key a))
      rw [f1, g1] at this
      exact this
    have hrest : Ps.flatten.Perm Qs.flatten := by
      have := h.filter (fun y => !decide (key y = key a))
      rw [f2, g2] at this
      exact this
    obtain ⟨hl, hi⟩ := parted_same hf Ps Qs (tl p Ps hp) (tl q Qs hq) hrest
    refine ⟨by rw [List.length_cons, List.length_cons, hl], fun i x y hx hy => ?_⟩
    cases i with
    | zero => cases hx; cases hy; exact hpq
    | succ i => exact hi i x y hx hy
end Go.Proofs.Ytnfjdoeemnhkbaa

namespace Go.Proofs.Ytnfjdoeemnhkbaa
set_option linter.unusedVariables false
set_option linter.unusedSimpArgs false
open Go.RowKit Sy

/-- Rows such as the law's, in any order. -/
structure RowsX (cols : List Co) (l : List Int) (w : World) (v : Value) (E : List El) : Prop where
  mem : ∀ x ∈ E, x.row ∈ rows9 cols l
  le : E.length ≤ 40
  rd : Rd w v (E.map Prod.fst)
  el : ∀ x ∈ E, RdP w x.1 x.2
theorem RowsX.kept {cols : List Co} {l : List Int} {w w' : World} {v : Value} {E : List El} (h : RowsX cols l w v E) (hb : Below w.heap.size w w') : RowsX cols l w' v E := ⟨h.mem, h.le, h.rd.kept hb, fun x hx => (h.el x hx).kept hb⟩
theorem RowsX.rowsIn {cols : List Co} (hok : ColsOk cols) {l : List Int} {w : World} {v : Value} {E : List El} (h : RowsX cols l w v E) : RowsIn w E := fun x hx => by
  have hm := h.mem x hx
  have hl := row9_lenA hm
  unfold El.row at hl
  rw [List.length_map] at hl
  refine ⟨h.el x hx, by have := hok.le; omega, fun t ht => ?_⟩
  have := row9_smallA hm t.1 (by unfold El.row; exact List.mem_map_of_mem ht)
  exact ⟨this.1, by omega⟩
theorem RowsX.sum {cols : List Co} (hok : ColsOk cols) {l : List Int} {w : World} {v : Value} {E : List El} (h : RowsX cols l w v E) {p : List El} (hp : ∀ x ∈ p, x ∈ E) : 0 ≤ sumT (p.map El.row) 0 ∧ sumT (p.map El.row) 0 ≤ 200 * (p.length : Int) := by
  have := sumT_le (R := p.map El.row) fun r hr => by
    obtain ⟨x, hx, rfl⟩ := List.mem_map.1 hr
    exact row9_addA hok (h.mem x (hp x hx))
  rw [List.length_map] at this
  exact this
/-- The parts of a column; or all in one. -/
def PartQ (c : Int) (E : List El) (Ps : List (List El)) : Prop := (0 ≤ c → Ps.flatten.Perm E ∧ Parted cmpK (fun x : El => keyV (atT x.row c)) Ps) ∧ (c < 0 → Ps = [E])
theorem PartQ.sub {c : Int} {E : List El} {Ps : List (List El)} (h : PartQ c E Ps) (hE : E.length ≤ 40) : (∀ p ∈ Ps, (∀ x ∈ p, x ∈ E) ∧ p.length ≤ 40 ∧ (0 ≤ c → p ≠ [])) ∧ Ps.length ≤ 41 ∧ (0 ≤ c → Ps.length ≤ E.length) := by
  rcases Int.lt_or_le c 0 with hc | hc
  · rw [h.2 hc]
    refine ⟨fun p hp => ?_, by simp, fun h => by omega⟩
    rw [List.mem_singleton.1 hp]
    exact ⟨fun x hx => hx, hE, fun h => by omega⟩
  · obtain ⟨h1, h2⟩ := h.1 hc
    have hfl := h1.length_eq
    have hne := ne_flat Ps h2.ne
    refine ⟨fun p hp => ⟨fun x hx => h1.mem_iff.1 (List.mem_flatten.2 ⟨p, hp, hx⟩), ?_, fun _ => h2.ne p hp⟩, by omega, fun _ => by omega⟩
    have := mem_len hp
    omega
def ags4 (c : Int) : List (Int × Int) := [(1, 0), (2, 0), (3, c), (4, c)]
/-- What the groups come to. -/
structure GrpX (w0 w : World) (v : Value) (g c : Int) (E : List El) (Ps : List (List El)) (T : List El) : Prop where
  part : PartQ g E Ps
  own : OwnD w0.heap.size w v T
  len : T.length = Ps.length
  row : ∀ (i : Nat) (p : List El) (x : El), Ps[i]? = some p → T[i]? = some x → RowOf g (ags4 c) p x.row
set_option maxHeartbeats 4000000 in
theorem grpX_any {cols : List Co} (hok : ColsOk cols) (l : List Int) (E : List El) (g c : Int) (hg : g = -1 ∨ (0 ≤ g ∧ g < cols.length)) (v av : Value) (w : World) (hE : RowsX cols l w v E) (hav : RdS w 2 av ((ags4 c).map fun a => [.int .i64 a.1, .int .i64 a.2])) :
    Calls Try.prog 11 #[v, .int .i64 g, av] w fun e w' => ∃ (v' : Value) (Ps : List (List El)) (T : List El), e = .returned (.tuple #[v', .bool true]) ∧ GrpX w w' v' g c E Ps T ∧ Below w.heap.size w w' := by
  have hle := hE.le
  have hin := hE.rowsIn hok
  refine (groups_any (PartQ g E) (ags4 c) (fun a ha => ?_) (by unfold ags4; simp) E g v av w hin (fun Ps hP => ?_) hav ?_ ?_).mono ?_
  · unfold ags4 at ha
    simp only [List.mem_cons, List.not_mem_nil, or_false] at ha
    rcases ha with rfl | rfl | rfl | rfl
    · exact totOK_count 0
    · exact totOK_sum 0
    · exact totOK_min c
    · exact totOK_max c
  · obtain ⟨h1, h2, _⟩ := hP.sub hle
    exact ⟨fun p hp => ⟨(h1 p hp).1, by have := (h1 p hp).2.1; omega, (h1 p hp).2.2⟩, by omega⟩
  · obtain ⟨ao, cap, h, _⟩ := hE.rd
    exact ⟨ao, _, cap, h⟩
  · rcases hg with rfl | ⟨h0, h1⟩
    · refine (partsN_any E v w hE.rd).mono ?_
      rintro e w' ⟨v', rfl, Ps, hrd, hps, hb⟩
      exact ⟨v', rfl, Ps, hrd, ⟨fun h => by omega, fun _ => hps⟩, hb⟩
    · obtain ⟨kk, hkk, hnk⟩ := row9_atA hok g h0 h1
      refine (parts_any kk E g h0 (by omega) v w hE.rd (fun x hx => ⟨hE.el x hx, (hin x hx).2.1⟩) (fun x hx => hnk l _ (hE.mem x hx))).mono ?_
      rintro e w' ⟨v', rfl, B, hB, Ps, ho, hp, hq, hb⟩
      exact ⟨v', rfl, Ps, ho.rd, ⟨fun _ => ⟨hp, hq⟩, fun h => by omega⟩, hb⟩
  · rintro e w' ⟨Ps, hP, hb, h⟩
    rcases h with ⟨v', rfl, T, hT, hTl, hTr⟩ | ⟨_, p, hpm, a, ha, hn⟩
    · exact ⟨v', Ps, T, rfl, ⟨hP, hT, hTl, hTr⟩, hb⟩
    · exfalso
      obtain ⟨h1, _, _⟩ := hP.sub hle
      have hs := hE.sum hok (h1 p hpm).1
      have hpl := (h1 p hpm).2.1
      unfold ags4 at ha
      simp only [List.mem_cons, List.not_mem_nil, or_false] at ha
      rcases ha with rfl | rfl | rfl | rfl
      · rw [tot1] at hn; cases hn
      · rw [tot2 ⟨hs.1, by omega⟩] at hn; cases hn
      · unfold totT at hn; simp at hn
      · unfold totT at hn; simp at hn

/-- Of the same rows, the same. -/
theorem rowOf_same {cols : List Co} (hok : ColsOk cols) {l : List Int} {g c : Int} (hg : g < cols.length) (hc0 : 0 ≤ c) (hc : c < cols.length) {p q : List El} (hp : ∀ x ∈ p, x.row ∈ rows9 cols l) (hpq : p.Perm q) (hd : 0 ≤ g → p ≠ [] ∧ ∀ x ∈ p, ∀ y ∈ p, keyV (atT x.row g) = keyV (atT y.row g)) {r r' : List Vc}
    (h1 : RowOf g (ags4 c) p r) (h2 : RowOf g (ags4 c) q r') : r = r' := by
  obtain ⟨ts, e1, e2⟩ := h1
  obtain ⟨ts', e3, e4⟩ := h2
  have hperm : (p.map El.row).Perm (q.map El.row) := hpq.map _
  have hmem : ∀ r ∈ p.map El.row, r ∈ rows9 cols l := fun r hr => by obtain ⟨x, hx, rfl⟩ := List.mem_map.1 hr; exact hp x hx
  have ht : (ags4 c).map (fun a => totT (p.map El.row) a.1 a.2) = (ags4 c).map (fun a => totT (q.map El.row) a.1 a.2) := by
    refine List.map_congr_left fun a ha => ?_
    have hca : 0 ≤ a.2 ∧ a.2 < cols.length := by
      have := hok.ne
      unfold ags4 at ha
      simp only [List.mem_cons, List.not_mem_nil, or_false] at ha
      rcases ha with rfl | rfl | rfl | rfl <;> simp only <;> omega
    obtain ⟨kk, _, hnk⟩ := row9_atA hok a.2 hca.1 hca.2
    exact totT_perm hperm (fun r hr => hnk l r (hmem r hr)) a.1
  rw [e2, e4] at ht
  have hts : ts = ts' := (List.map_inj_right (f := some) (fun a b h => Option.some.inj h)).1 ht
  rw [e1, e3, hts]
  congr 1
  by_cases h0 : 0 ≤ g
  · rw [if_pos h0, if_pos h0]
    obtain ⟨kk, _, hnk⟩ := row9_atA hok g h0 hg
    obtain ⟨hne, hsame⟩ := hd h0
    match p, q, hne, hpq with
    | x :: p', [], _, h => exact absurd h.length_eq (by simp)
    | x :: p', y :: q', _, h =>
      have hy : y ∈ x :: p' := h.mem_iff.2 List.mem_cons_self
      have hk := hsame x List.mem_cons_self y hy
      have n1 := hnk l x.row (hp x List.mem_cons_self)
      have n2 := hnk l y.row (hp y hy)
      show [atT x.row g] = [atT y.row g]
      rw [(key_eq (n1.2.trans n2.2.symm)).1 hk]
  · rw [if_neg h0, if_neg h0]
theorem grpX_same {cols : List Co} (hok : ColsOk cols) {l : List Int} {g c : Int} (hg : g < cols.length) (hc0 : 0 ≤ c) (hc : c < cols.length) {w1 w2 w3 w4 : World} {v1 v2 : Value} {E M T U : List El} {Ps Qs : List (List El)} (hE : ∀ x ∈ E, x.row ∈ rows9 cols l) (hEM : M.Perm E)
    (h1 : GrpX w1 w2 v1 g c E Ps T) (h2 : GrpX w3 w4 v2 g c M Qs U) : T.map El.row = U.map El.row := by
  have hfl : Ps.length = Qs.length ∧ ∀ (i : Nat) (p q : List El), Ps[i]? = some p → Qs[i]? = some q → p.Perm q := by
    rcases Int.lt_or_le g 0 with h0 | h0
    · rw [h1.part.2 h0, h2.part.2 h0]
      refine ⟨rfl, fun i p q hp hq => ?_⟩
      cases i with
      | zero => cases hp; cases hq; exact hEM.symm
      | succ i => simp at hp
    · obtain ⟨a1, a2⟩ := h1.part.1 h0
      obtain ⟨b1, b2⟩ := h2.part.1 h0
      exact parted_same cmpK_ok Ps Qs a2 b2 (a1.trans (hEM.symm.trans b1.symm))
  apply List.ext_getElem?
  intro i
  rw [List.getElem?_map, List.getElem?_map]
  have hlen : T.length = U.length := by rw [h1.len, h2.len, hfl.1]
  cases hx : T[i]? with
  | none => rw [List.getElem?_eq_none (by have := List.getElem?_eq_none_iff.1 hx; omega)]
  | some x =>
    have hi := (List.getElem?_eq_some_iff.1 hx).1
    obtain ⟨y, hy⟩ : ∃ y, U[i]? = some y := ⟨_, List.getElem?_eq_getElem (by omega)⟩
    obtain ⟨p, hp⟩ : ∃ p, Ps[i]? = some p := ⟨_, List.getElem?_eq_getElem (by rw [← h1.len]; exact hi)⟩
    obtain ⟨q, hq⟩ : ∃ q, Qs[i]? = some q := ⟨_, List.getElem?_eq_getElem (by rw [← h2.len]; omega)⟩
    have hpm := List.mem_of_getElem? hp
    have hpE : ∀ x ∈ p, x ∈ E := by
      rcases Int.lt_or_le g 0 with h0 | h0
      · rw [h1.part.2 h0] at hpm
        rw [List.mem_singleton.1 hpm]
        exact fun x hx => hx
      · exact fun x hx => (h1.part.1 h0).1.mem_iff.1 (List.mem_flatten.2 ⟨p, hpm, hx⟩)
    rw [hy, Option.map_some, Option.map_some, rowOf_same hok hg hc0 hc (fun x hx => hE x (hpE x hx)) (hfl.2 i p q hp hq) (fun h0 => ⟨(h1.part.1 h0).2.ne p hpm, (h1.part.1 h0).2.same p hpm⟩) (h1.row i p x hp hx) (h2.row i q y hq hy)]

/-- Sorted ones of the same rows are the same. -/
theorem kinds_inj {ks : List Int} : ∀ (R S : List (List Vc)), KindsR ks R → KindsR ks S → R.map keyR = S.map keyR → R = S
  | [], [], _, _, _ => rfl
  | [], _ :: _, _, _, h => by cases h
  | _ :: _, [], _, _, h => by cases h
  | x :: R, y :: S, h1, h2, h => by
    rw [List.map_cons, List.map_cons, List.cons.injEq] at h
    have hx := (h1 x List.mem_cons_self).1
    have hy := (h2 y List.mem_cons_self).1
    rw [(keys_eq x y (hx.trans hy.symm)).1 h.1, kinds_inj R S (fun r hr => h1 r (List.mem_cons_of_mem _ hr)) (fun r hr => h2 r (List.mem_cons_of_mem _ hr)) h.2]
theorem sorted_same {ks : List Int} {Z Y : List El} {R S : List (List Vc)} (hk : KindsR ks R) (hRS : S.Perm R) (h1 : (Z.map El.row).Perm R) (h2 : (Y.map El.row).Perm S) (s1 : Srt (ltC (lexL cmpK) fun x : El => keyR x.row) Z) (s2 : Srt (ltC (lexL cmpK) fun x : El => keyR x.row) Y) : Z.map El.row = Y.map El.row := by
  have hp : (Z.map El.row).Perm (Y.map El.row) := h1.trans (hRS.symm.trans h2.symm)
  have kz : KindsR ks (Z.map El.row) := fun r hr => hk r (h1.mem_iff.1 hr)
  have ky : KindsR ks (Y.map El.row) := fun r hr => hk r (hRS.mem_iff.1 (h2.mem_iff.1 hr))
  refine kinds_inj _ _ kz ky ?_
  have h3 : (Z.map fun x : El => keyR x.row).Perm (Y.map fun x : El => keyR x.row) := by
    have := hp.map keyR
    rw [List.map_map, List.map_map] at this
    exact this
  have h4 := srt_keys (lexL_ok cmpK_ok) s1 s2 h3
  rw [List.map_map, List.map_map]
  exact h4
theorem rows9_kinds {cols : List Co} (hok : ColsOk cols) (l : List Int) : KindsR (cols.map (·.k)) (rows9 cols l) := fun r hr => by
  obtain ⟨i, n, hi, rfl⟩ := rows9_memA hr
  obtain ⟨c0, hc0⟩ : ∃ c0, cols[0]? = some c0 := ⟨_, List.getElem?_eq_getElem hok.ne⟩
  have hk := (hok.hd _ hc0).1
  refine ⟨?_, fun v hv => ?_⟩
  · rw [List.map_set, rowOf_kinds cols hok]
    apply List.ext_getElem?
    intro j
    by_cases hj : j = 0
    · subst hj
      rw [List.getElem?_set_self (by rw [List.length_map]; exact hok.ne), List.getElem?_map, hc0, Option.map_some, hk]
    · rw [List.getElem?_set_ne (fun e => hj e.symm)]
  · rcases List.mem_or_eq_of_mem_set hv with h | rfl
    · exact rowOf_norm cols hok n v h
    · exact ⟨(fun h => by cases h), (fun h => by simp at h), fun _ => rfl⟩
theorem cols_kinds {cols : List Co} (hok : ColsOk cols) (l : List Int) (c : Int) (h0 : 0 ≤ c) (h1 : c < cols.length) : ∃ ks, ∀ E : List El, (∀ x ∈ E, x.row ∈ rows9 cols l) → KindsR ks (E.map fun y => [c, 0].map (atT y.row)) := by
  obtain ⟨k1, _, n1⟩ := row9_atA hok c h0 h1
  obtain ⟨k2, _, n2⟩ := row9_atA hok 0 (Int.le_refl _) (by have := hok.ne; omega)
  refine ⟨[k1, k2], fun E hE r hr => ?_⟩
  obtain ⟨y, hy, rfl⟩ := List.mem_map.1 hr
  have a := n1 l _ (hE y hy)
  have b := n2 l _ (hE y hy)
  refine ⟨?_, fun v hv => ?_⟩
  · show [(atT y.row c).k, (atT y.row 0).k] = _
    rw [a.2, b.2]
  · simp only [List.map_cons, List.map_nil, List.mem_cons, List.not_mem_nil, or_false] at hv
    rcases hv with rfl | rfl
    · exact a.1
    · exact b.1
/-- Two of them change places. -/
theorem swap2_perm {α : Type} (l : List α) (i j : Nat) (x y : α) (hi : l[i]? = some x) (hj : l[j]? = some y) : ((l.set i y).set j x).Perm l := by
  obtain ⟨h1, rfl⟩ := List.getElem?_eq_some_iff.1 hi
  obtain ⟨h2, rfl⟩ := List.getElem?_eq_some_iff.1 hj
  classical
  rw [List.perm_iff_count]
  intro b
  have c1 : (if l[i] == b then 1 else 0) ≤ l.count b := by
    split
    · rename_i h
      rw [← beq_iff_eq.1 h]
      exact List.count_pos_iff.2 (List.getElem_mem h1)
    · exact Nat.zero_le _
  rw [List.count_set (by rw [List.length_set]; exact h2), List.count_set h1, List.getElem_set, ite_self]
  omega
end Go.Proofs.Ytnfjdoeemnhkbaa
