/-
  Plain: what rows come to does not hang on their order.
-/
import Derived.Test.YtnfjdoeemnhkbaaAgm
namespace Go.Proofs.Ytnfjdoeemnhkbaa
set_option linter.unusedVariables false
set_option linter.unusedSimpArgs false
open Go.RowKit

theorem foldl_perm {α β : Type} {f : β → α → β} {G : β → Prop} {Q : α → Prop} (hg : ∀ z x, G z → Q x → G (f z x)) (hc : ∀ z x y, G z → Q x → Q y → f (f z x) y = f (f z y) x) {l1 l2 : List α} (h : l1.Perm l2) :
    (∀ x ∈ l1, Q x) → ∀ z, G z → l1.foldl f z = l2.foldl f z := by
  induction h with
  | nil => intro _ z _; rfl
  | cons x _ ih =>
    intro hq z hz
    exact ih (fun y hy => hq y (List.mem_cons_of_mem _ hy)) _ (hg z x hz (hq x List.mem_cons_self))
  | swap x y l =>
    intro hq z hz
    show List.foldl f (f (f z y) x) l = List.foldl f (f (f z x) y) l
    rw [hc z y x hz (hq y List.mem_cons_self) (hq x (List.mem_cons_of_mem _ List.mem_cons_self))]
  | trans h1 _ ih1 ih2 =>
    intro hq z hz
    exact (ih1 hq z hz).trans (ih2 (fun x hx => hq x (h1.mem_iff.2 hx)) z hz)

def GoodZ (kk : Int) (z : Vc) : Prop := (z.u = true ∧ z.n = 0 ∧ z.b = []) ∨ (z.u = false ∧ NormV z ∧ z.k = kk)
theorem ext_comm {kk s : Int} (hs : s = 1 ∨ s = -1) {z x y : Vc} (hz : GoodZ kk z) (hx : NormV x ∧ x.k = kk) (hy : NormV y ∧ y.k = kk) : extStep s (extStep s z x) y = extStep s (extStep s z y) x := by
  have key : x.u = false → y.u = false → (cmpT y x = - cmpT x y ∧ (cmpT y x = 0 → x = y)) := fun _ _ => by
    have h1 : cmpT y x = cmpK (keyV y) (keyV x) := cmpT_key hy.1 hx.1 (hy.2.trans hx.2.symm)
    have h2 : cmpT x y = cmpK (keyV x) (keyV y) := cmpT_key hx.1 hy.1 (hx.2.trans hy.2.symm)
    refine ⟨by rw [h1, h2]; exact cmpK_ok.anti _ _, fun h => ?_⟩
    rw [h1] at h
    exact (key_eq (hx.2.trans hy.2.symm)).1 ((cmpK_ok.eq _ _).1 h).symm
  have nul : ∀ v : Vc, NormV v ∧ v.k = kk → v.u = true → ∀ b : Vc, b.u = true ∧ b.n = 0 ∧ b.b = [] → extStep s b v = ⟨true, kk, 0, []⟩ := fun v hv hu b hb => by
    unfold extStep
    rw [if_pos hu, if_pos hb.1, hb.1, hb.2.1, hb.2.2, hv.2]
  have nul2 : ∀ v : Vc, v.u = true → ∀ b : Vc, b.u = false → extStep s b v = b := fun v hu b hb => by
    unfold extStep
    rw [if_pos hu, if_neg (by rw [hb]; decide)]
  have non : ∀ v : Vc, v.u = false → ∀ b : Vc, b.u = true → extStep s b v = v := fun v hu b hb => by
    unfold extStep
    rw [if_neg (by rw [hu]; decide), if_pos (.inl hb)]
  have non2 : ∀ v : Vc, v.u = false → ∀ b : Vc, b.u = false → extStep s b v = if 0 < cmpT v b * s then v else b := fun v hu b hb => by
    unfold extStep
    rw [if_neg (by rw [hu]; decide)]
    simp only [hb, Bool.false_eq_true, false_or]
  have hT : (⟨true, kk, 0, []⟩ : Vc).u = true ∧ (⟨true, kk, 0, []⟩ : Vc).n = 0 ∧ (⟨true, kk, 0, []⟩ : Vc).b = [] := ⟨rfl, rfl, rfl⟩
  cases hxu : x.u <;> cases hyu : y.u
  · obtain ⟨ka, ke⟩ := key hxu hyu
    rcases hz with hz | ⟨hzu, hzn, hzk⟩
    · rw [non x hxu z hz.1, non y hyu z hz.1, non2 y hyu x hxu, non2 x hxu y hyu]
      rcases hs with rfl | rfl
      · by_cases h1 : 0 < cmpT y x * 1
        · rw [if_pos h1, if_neg (by omega)]
        · by_cases h2 : 0 < cmpT x y * 1
          · rw [if_neg h1, if_pos h2]
          · rw [if_neg h1, if_neg h2]; exact ke (by omega)
      · by_cases h1 : 0 < cmpT y x * -1
        · rw [if_pos h1, if_neg (by omega)]
        · by_cases h2 : 0 < cmpT x y * -1
          · rw [if_neg h1, if_pos h2]
          · rw [if_neg h1, if_neg h2]; exact ke (by omega)
    · have tr : ∀ a b c : Vc, NormV a ∧ a.k = kk → NormV b ∧ b.k = kk → NormV c ∧ c.k = kk → cmpT a b ≤ 0 → cmpT b c ≤ 0 → cmpT a c ≤ 0 ∧ (cmpT a c = 0 → cmpT a b = 0 ∧ cmpT b c = 0) := fun a b c ha hb hc => by
        rw [cmpT_key ha.1 hb.1 (ha.2.trans hb.2.symm), cmpT_key hb.1 hc.1 (hb.2.trans hc.2.symm), cmpT_key ha.1 hc.1 (ha.2.trans hc.2.symm)]
        exact cmpK_ok.tr _ _ _
      have an : ∀ a b : Vc, NormV a ∧ a.k = kk → NormV b ∧ b.k = kk → cmpT b a = - cmpT a b := fun a b ha hb => by
        rw [cmpT_key ha.1 hb.1 (ha.2.trans hb.2.symm), cmpT_key hb.1 ha.1 (hb.2.trans ha.2.symm)]
        exact cmpK_ok.anti _ _
      have hzz : NormV z ∧ z.k = kk := ⟨hzn, hzk⟩
      have a1 := an x z hx hzz
      have a2 := an y z hy hzz
      have t1 := tr x y z hx hy hzz
      have t2 := tr y x z hy hx hzz
      have t3 := tr x z y hx hzz hy
      have t4 := tr y z x hy hzz hx
      have t5 := tr z x y hzz hx hy
      have t6 := tr z y x hzz hy hx
      rw [non2 x hxu z hzu, non2 y hyu z hzu]
      have eqc : ∀ σ : Int, (σ = 1 ∨ σ = -1) → (if 0 < cmpT x z * σ then (if 0 < cmpT y x * σ then y else x) else (if 0 < cmpT y z * σ then y else z)) = (if 0 < cmpT y z * σ then (if 0 < cmpT x y * σ then x else y) else (if 0 < cmpT x z * σ then x else z)) := fun σ hσ => by
        rcases hσ with rfl | rfl
        · by_cases c1 : 0 < cmpT x z * 1 <;> by_cases c2 : 0 < cmpT y z * 1 <;> by_cases c3 : 0 < cmpT y x * 1 <;> by_cases c4 : 0 < cmpT x y * 1 <;> simp only [c1, c2, c3, c4, if_true, if_false] <;> first | rfl | (exfalso; omega) | exact ke (by omega) | exact (ke (by omega)).symm
        · by_cases c1 : 0 < cmpT x z * -1 <;> by_cases c2 : 0 < cmpT y z * -1 <;> by_cases c3 : 0 < cmpT y x * -1 <;> by_cases c4 : 0 < cmpT x y * -1 <;> simp only [c1, c2, c3, c4, if_true, if_false] <;> first | rfl | (exfalso; omega) | exact ke (by omega) | exact (ke (by omega)).symm
      have l1 : extStep s (if 0 < cmpT x z * s then x else z) y = (if 0 < cmpT x z * s then (if 0 < cmpT y x * s then y else x) else (if 0 < cmpT y z * s then y else z)) := by
        split
        · exact non2 y hyu x hxu
        · exact non2 y hyu z hzu
      have l2 : extStep s (if 0 < cmpT y z * s then y else z) x = (if 0 < cmpT y z * s then (if 0 < cmpT x y * s then x else y) else (if 0 < cmpT x z * s then x else z)) := by
        split
        · exact non2 x hxu y hyu
        · exact non2 x hxu z hzu
      rw [l1, l2]
      exact eqc s hs
  · rcases hz with hz | ⟨hzu, _, _⟩
    · rw [non x hxu z hz.1, nul2 y hyu x hxu, nul y hy hyu z hz, non x hxu _ rfl]
    · rw [nul2 y hyu z hzu, non2 x hxu z hzu]
      split
      · exact nul2 y hyu x hxu
      · exact nul2 y hyu z hzu
  · rcases hz with hz | ⟨hzu, _, _⟩
    · rw [nul x hx hxu z hz, non y hyu _ rfl, non y hyu z hz.1, nul2 x hxu y hyu]
    · rw [nul2 x hxu z hzu, non2 y hyu z hzu]
      split
      · exact (nul2 x hxu y hyu).symm
      · exact (nul2 x hxu z hzu).symm
  · rcases hz with hz | ⟨hzu, _, _⟩
    · rw [nul x hx hxu z hz, nul y hy hyu z hz, nul y hy hyu _ hT, nul x hx hxu _ hT]
    · rw [nul2 x hxu z hzu, nul2 y hyu z hzu, nul2 x hxu z hzu]
theorem ext_good {kk s : Int} {z x : Vc} (hz : GoodZ kk z) (hx : NormV x ∧ x.k = kk) : GoodZ kk (extStep s z x) := by
  unfold extStep
  split
  · rename_i hxu
    split
    · rename_i hzu
      rcases hz with hz | hz
      · exact .inl ⟨hz.1, hz.2.1, hz.2.2⟩
      · rw [hz.1] at hzu; cases hzu
    · exact hz
  · rename_i hxu
    split
    · exact .inr ⟨by simpa using hxu, hx.1, hx.2⟩
    · exact hz
theorem extT_perm {kk s c : Int} (hs : s = 1 ∨ s = -1) {R S : List (List Vc)} (h : R.Perm S) (hn : ∀ r ∈ R, NormV (atT r c) ∧ (atT r c).k = kk) : extT R c s = extT S c s := by
  unfold extT
  exact foldl_perm (G := GoodZ kk) (Q := fun r => NormV (atT r c) ∧ (atT r c).k = kk) (fun z x hz hx => ext_good hz hx) (fun z x y hz hx hy => ext_comm hs hz hx hy) h hn _ (.inl ⟨rfl, rfl, rfl⟩)
theorem totT_perm {kk c : Int} {R S : List (List Vc)} (h : R.Perm S) (hn : ∀ r ∈ R, NormV (atT r c) ∧ (atT r c).k = kk) (k : Int) : totT R k c = totT S k c := by
  unfold totT
  rw [h.length_eq, sumT_perm h, extT_perm (.inr rfl) h hn, extT_perm (.inl rfl) h hn]

/-- Parted ones of the same things are the same parts. -/
theorem parted_same {α β : Type} [DecidableEq β] {f : β → β → Int} (hf : Cmp3 f) {key : α → β} : ∀ (Ps Qs : List (List α)), Parted f key Ps → Parted f key Qs → Ps.flatten.Perm Qs.flatten → Ps.length = Qs.length ∧ ∀ (i : Nat) (p q : List α), Ps[i]? = some p → Qs[i]? = some q → p.Perm q
  | [], [], _, _, _ => ⟨rfl, fun i p q h => by simp at h⟩
  | [], q :: Qs, _, hq, h => by
    exfalso
    have h1 := h.length_eq
    have h2 := hq.ne q List.mem_cons_self
    rw [List.flatten_cons, List.length_append] at h1
    have := List.length_pos_iff.2 h2
    simp at h1
    omega
  | p :: Ps, [], hp, _, h => by
    exfalso
    have h1 := h.length_eq
    have h2 := hp.ne p List.mem_cons_self
    rw [List.flatten_cons, List.length_append] at h1
    have := List.length_pos_iff.2 h2
    rw [show ([] : List (List α)).flatten = [] from rfl, List.length_nil] at h1
    omega
  | p :: Ps, q :: Qs, hp, hq, h => by
    have tl : ∀ (A : List α) (As : List (List α)), Parted f key (A :: As) → Parted f key As := fun A As h => ⟨fun x hx => h.ne x (List.mem_cons_of_mem _ hx), fun x hx => h.same x (List.mem_cons_of_mem _ hx), (List.pairwise_cons.1 h.rise).2⟩
    have least : ∀ (A : List α) (As : List (List α)), Parted f key (A :: As) → ∀ a ∈ A, (∀ y ∈ A, key y = key a) ∧ ∀ y ∈ As.flatten, f (key a) (key y) < 0 := fun A As h a ha => by
      refine ⟨fun y hy => h.same A List.mem_cons_self y hy a ha, fun y hy => ?_⟩
      obtain ⟨B, hB, hyB⟩ := List.mem_flatten.1 hy
      exact (List.pairwise_cons.1 h.rise).1 B hB a ha y hyB
    obtain ⟨a, ha⟩ : ∃ a, a ∈ p := by
      cases hpp : p with
      | nil => exact absurd hpp (hp.ne p List.mem_cons_self)
      | cons x t => exact ⟨x, List.mem_cons_self⟩
    obtain ⟨b, hb⟩ : ∃ b, b ∈ q := by
      cases hqq : q with
      | nil => exact absurd hqq (hq.ne q List.mem_cons_self)
      | cons x t => exact ⟨x, List.mem_cons_self⟩
    obtain ⟨pa, pr⟩ := least p Ps hp a ha
    obtain ⟨qb, qr⟩ := least q Qs hq b hb
    have self : ∀ k, f k k = 0 := fun k => (hf.eq k k).2 rfl
    have ge1 : f (key a) (key b) ≤ 0 := by
      have hm : b ∈ (p :: Ps).flatten := h.mem_iff.2 (by rw [List.flatten_cons]; exact List.mem_append.2 (.inl hb))
      rw [List.flatten_cons] at hm
      rcases List.mem_append.1 hm with hm | hm
      · rw [pa b hm, self]; exact Int.le_refl _
      · have := pr b hm; omega
    have ge2 : f (key b) (key a) ≤ 0 := by
      have hm : a ∈ (q :: Qs).flatten := h.mem_iff.1 (by rw [List.flatten_cons]; exact List.mem_append.2 (.inl ha))
      rw [List.flatten_cons] at hm
      rcases List.mem_append.1 hm with hm | hm
      · rw [qb a hm, self]; exact Int.le_refl _
      · have := qr a hm; omega
    have hab : key a = key b := (hf.eq _ _).1 (by have := hf.anti (key a) (key b); omega)
    have fil : ∀ (A : List α) (As : List (List α)) (d : α), (∀ y ∈ A, key y = key d) → (∀ y ∈ As.flatten, f (key d) (key y) < 0) → ((A :: As).flatten.filter fun y => decide (key y = key d)) = A ∧ ((A :: As).flatten.filter fun y => !decide (key y = key d)) = As.flatten := fun A As d h1 h2 => by
      have e1 : A.filter (fun y => decide (key y = key d)) = A := List.filter_eq_self.2 fun y hy => by rw [decide_eq_true_eq]; exact h1 y hy
      have e2 : As.flatten.filter (fun y => decide (key y = key d)) = [] := List.filter_eq_nil_iff.2 fun y hy e => by
        rw [decide_eq_true_eq] at e
        have := h2 y hy
        rw [e, self] at this
        omega
      have e3 : A.filter (fun y => !decide (key y = key d)) = [] := List.filter_eq_nil_iff.2 fun y hy e => by
        rw [h1 y hy] at e
        simp at e
      have e4 : As.flatten.filter (fun y => !decide (key y = key d)) = As.flatten := List.filter_eq_self.2 fun y hy => by
        rw [Bool.not_eq_true', decide_eq_false_iff_not]
        intro e
        have := h2 y hy
        rw [e, self] at this
        omega
      rw [List.flatten_cons, List.filter_append, List.filter_append, e1, e2, e3, e4, List.append_nil, List.nil_append]
      exact ⟨rfl, rfl⟩
    obtain ⟨f1, f2⟩ := fil p Ps a pa pr
    obtain ⟨g1, g2⟩ := fil q Qs b qb qr
    rw [← hab] at g1 g2
    have hpq : p.Perm q := by
      have := h.filter (fun y => decide (key y = key a))
      rw [f1, g1] at this
      exact this
    have hrest : Ps.flatten.Perm Qs.flatten := by
      have := h.filter (fun y => !decide (key y = key a))
      rw [f2, g2] at this
      exact this
    obtain ⟨hl, hi⟩ := parted_same hf Ps Qs (tl p Ps hp) (tl q Qs hq) hrest
    refine ⟨by rw [List.length_cons, List.length_cons, hl], fun i x y hx hy => ?_⟩
    cases i with
    | zero => cases hx; cases hy; exact hpq
    | succ i => exact hi i x y hx hy
end Go.Proofs.Ytnfjdoeemnhkbaa
