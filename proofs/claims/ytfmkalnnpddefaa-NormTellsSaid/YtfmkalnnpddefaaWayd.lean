/-
  What reads in every world that agrees but for X, reads so whatever becomes of X. Predicates of which the reference makes a form.
-/
import Derived.Test.YtfmkalnnpddefaaWayc
namespace Go.Proofs.Ytfmkalnnpddefaa
set_option linter.unusedVariables false
set_option linter.unusedSimpArgs false
open Go.RowKit


theorem cellsP_inj {k c o k' c' o' : Int} {v v' : Vc} {s ls s' ls' : Value} (e : cellsP k c o v s ls = cellsP k' c' o' v' s' ls') : s = s' ∧ ls = ls' := by
  have e6 : some s = some s' := congrArg (fun x => x[6]?) e
  have e7 : some ls = some ls' := congrArg (fun x => x[7]?) e
  exact ⟨Option.some.inj e6, Option.some.inj e7⟩
mutual
theorem rdT1F_all (X : Nat → Prop) (w : World) : ∀ (p : Pt) {cs : List Value}, (∀ w', Agree X w w' → RdT1 w' p cs) → RdT1F X w p cs
  | .mk k c o v l, cs, h => by
    have h0 := h w (Agree.refl X w)
    unfold RdT1 at h0
    obtain ⟨s, ls, css, rfl, hok, hls, hts⟩ := h0
    have each : ∀ w', Agree X w w' → OkV w' (v, s) ∧ ∃ css', RdS w' 8 ls css' ∧ RdTs w' l css' := by
      intro w' ha
      have h1 := h w' ha
      unfold RdT1 at h1
      obtain ⟨s', ls', css', e, a, b, c⟩ := h1
      obtain ⟨rfl, rfl⟩ := cellsP_inj e
      exact ⟨a, css', b, c⟩
    have same : ∀ w', Agree X w w' → RdS w' 8 ls css ∧ RdTs w' l css := by
      intro w' ha
      obtain ⟨_, css', hs', ht'⟩ := each w' ha
      have hl1 := rdTs_len hts
      have hl2 := rdTs_len ht'
      have hlen1 := rdTs_ones hts
      have hlen2 := rdTs_ones ht'
      obtain ⟨ao, cap, hv, hn, hc⟩ := hls
      subst hv
      by_cases hz : css.length = 0
      · have e1 : css = [] := List.length_eq_zero_iff.1 hz
        have e2 : css' = [] := List.length_eq_zero_iff.1 (by omega)
        subst e1
        rw [e2] at hs' ht'
        exact ⟨hs', ht'⟩
      · obtain ⟨b, off, hao, hcell⟩ := hc 0 css[0] (List.getElem?_eq_getElem (by omega))
        subst hao
        have hX : ¬ X b := by
          intro hx
          have h8 := (hlen1 css[0] (List.getElem_mem _)).1
          have hc3 := hcell 3 css[0][3] (List.getElem?_eq_getElem (by omega))
          obtain ⟨_, cs2, hs2, ht2⟩ := each (w.setCell ⟨b, off + 0 * 8 + 3, none⟩ (.int .i64 0)) (agree_set X w ⟨b, off + 0 * 8 + 3, none⟩ _ hx)
          obtain ⟨c0, hc0, hq⟩ := rdTs_at ht2 (k := 0) (q := l[0]'(by omega)) (List.getElem?_eq_getElem (by omega))
          obtain ⟨b', off', hao', hcell2⟩ := hs2.at hc0
          cases hao'
          obtain ⟨k1, k2, k3, k4, k5, k6, x1, x2, x3, x4, x5, x6, rfl⟩ := rdT1_shape hq
          have h3 := hcell2 3 _ rfl
          rw [World.cell?_setCell_same _ _ _ hc3] at h3
          cases h3
        have hcellw : ∀ j u, w.cell? ⟨b, j, none⟩ = some u → w'.cell? ⟨b, j, none⟩ = some u := fun j u hu => by
          have hb := ha.block b (World.block_lt_of_cell? _ _ hu) hX
          rw [← hu]
          exact World.cell?_of_block hb
        have hR : RdS w' 8 (.slice (some ⟨b, off, none⟩) css.length cap) css := by
          refine ⟨some ⟨b, off, none⟩, cap, rfl, hn, fun k t ht => ⟨b, off, rfl, fun j u hu => ?_⟩⟩
          obtain ⟨b2, off2, e2, h2⟩ := hc k t ht
          cases e2
          exact hcellw _ _ (h2 j u hu)
        have he : css' = css := by
          refine List.ext_getElem (by omega) fun i h1 h2 => ?_
          have g1 := (hlen2 css'[i] (List.getElem_mem _)).1
          have g2 := (hlen1 css[i] (List.getElem_mem _)).1
          obtain ⟨b1, o1, e1, c1⟩ := hs'.at (List.getElem?_eq_getElem h1)
          obtain ⟨b2, o2, e2, c2⟩ := hR.at (List.getElem?_eq_getElem h2)
          cases e1
          cases e2
          refine List.ext_getElem (by omega) fun j j1 j2 => ?_
          have x1 := c1 j _ (List.getElem?_eq_getElem j1)
          have x2 := c2 j _ (List.getElem?_eq_getElem j2)
          rw [x1] at x2
          exact Option.some.inj x2
        rw [he] at ht'
        exact ⟨hR, ht'⟩
    unfold RdT1F
    exact ⟨s, ls, css, rfl, fun w' ha => (each w' ha).1, fun w' ha => (same w' ha).1, rdTsF_all X w l fun w' ha => (same w' ha).2⟩
theorem rdTsF_all (X : Nat → Prop) (w : World) : ∀ (l : List Pt) {css : List (List Value)}, (∀ w', Agree X w w' → RdTs w' l css) → RdTsF X w l css
  | [], [], _ => by unfold RdTsF; trivial
  | q :: r, cs :: t, h => by
    unfold RdTsF
    refine ⟨rdT1F_all X w q fun w' ha => ?_, rdTsF_all X w r fun w' ha => ?_⟩
    · have := h w' ha; unfold RdTs at this; exact this.1
    · have := h w' ha; unfold RdTs at this; exact this.2
  | [], _ :: _, h => by have := h w (Agree.refl X w); unfold RdTs at this; exact this.elim
  | _ :: _, [], h => by have := h w (Agree.refl X w); unfold RdTs at this; exact this.elim
end

mutual
/-- A predicate of such kinds, and such ops, as there are; its lists short. -/
def goodP : Pt → Prop
  | .mk k _ o _ l => (1 ≤ k ∧ k ≤ 6) ∧ (k = 2 → 1 ≤ o ∧ o ≤ 6) ∧ (k = 6 → l.length = 1) ∧ l.length ≤ 1000 ∧ goodL l
def goodL : List Pt → Prop
  | [] => True
  | q :: r => goodP q ∧ goodL r
end
theorem goodL_mem : ∀ {l : List Pt}, goodL l → ∀ q ∈ l, goodP q
  | [], _, q, hq => by cases hq
  | p :: t, h, q, hq => by
    unfold goodL at h
    rcases List.mem_cons.1 hq with rfl | h1
    · exact h.1
    · exact goodL_mem h.2 q h1
theorem goodL_of : ∀ {l : List Pt}, (∀ q ∈ l, goodP q) → goodL l
  | [], _ => by unfold goodL; trivial
  | p :: t, h => by unfold goodL; exact ⟨h p List.mem_cons_self, goodL_of fun q hq => h q (List.mem_cons_of_mem _ hq)⟩
mutual
theorem good_kinds : ∀ (p : Pt), goodP p → kindsT p
  | .mk k c o v l, h => by
    unfold goodP at h
    unfold kindsT
    exact ⟨h.1, h.2.2.1, good_kindsL l h.2.2.2.2⟩
theorem good_kindsL : ∀ (l : List Pt), goodL l → kindsL l
  | [], _ => by unfold kindsL; trivial
  | q :: r, h => by unfold goodL at h; unfold kindsL; exact ⟨good_kinds q h.1, good_kindsL r h.2⟩
end
mutual
theorem good_inw : ∀ (p : Pt), goodP p → InwOK p
  | .mk k c o v l, h => by
    unfold goodP at h
    obtain ⟨⟨h1, h2⟩, h3, h4, h5, h6⟩ := h
    have ih := good_inwL l h6
    rcases (by omega : k = 1 ∨ k = 2 ∨ k = 3 ∨ k = 4 ∨ k = 5 ∨ k = 6) with rfl | rfl | rfl | rfl | rfl | rfl
    · exact inw_1 c o v l
    · exact inw_2 c o v l (h3 rfl).1 (h3 rfl).2
    · exact inw_3 c o v l
    · exact inw_list 4 c o v l (.inl rfl) ih h5
    · exact inw_list 5 c o v l (.inr rfl) ih h5
    · have hl := h4 rfl
      match l, hl, ih with
      | [q], _, ih => exact inw_6 c o v q (ih q List.mem_cons_self)
theorem good_inwL : ∀ (l : List Pt), goodL l → ∀ q ∈ l, InwOK q
  | [], _, q, hq => by cases hq
  | p :: r, h, q, hq => by
    unfold goodL at h
    rcases List.mem_cons.1 hq with h1 | hq
    · rw [h1]; exact good_inw p h.1
    · exact good_inwL r h.2 q hq
end
mutual
theorem inw_short : ∀ (p : Pt) (nt : Bool), goodP p → shortT (inwT p nt)
  | .mk k c o v l, nt, h => by
    unfold goodP at h
    obtain ⟨⟨h1, h2⟩, h3, h4, h5, h6⟩ := h
    have ih := fun nt => inw_shortL l nt h6
    rcases (by omega : k = 1 ∨ k = 2 ∨ k = 3 ∨ k = 4 ∨ k = 5 ∨ k = 6) with rfl | rfl | rfl | rfl | rfl | rfl
    · rw [inwT, if_pos rfl]; unfold shortT; exact ⟨by simp, by unfold shortL; trivial⟩
    · rw [inwT, if_neg (by decide), if_neg (by decide), if_pos rfl]; unfold shortT; exact ⟨h5, good_short l h6⟩
    · rw [inwT, if_neg (by decide), if_neg (by decide), if_neg (by decide), if_pos rfl]
      cases nt
      · unfold shortT; exact ⟨h5, good_short l h6⟩
      · simp only [if_true]
        unfold shortT
        refine ⟨by simp, ?_⟩
        unfold shortL
        refine ⟨?_, by unfold shortL; trivial⟩
        unfold shortT; exact ⟨h5, good_short l h6⟩
    · rw [inwT, if_neg (by decide), if_neg (by decide), if_neg (by decide), if_neg (by decide)]
      unfold shortT
      exact ⟨by rw [inwL_map, List.length_map]; exact h5, ih nt⟩
    · rw [inwT, if_neg (by decide), if_neg (by decide), if_neg (by decide), if_neg (by decide)]
      unfold shortT
      exact ⟨by rw [inwL_map, List.length_map]; exact h5, ih nt⟩
    · have hl := h4 rfl
      match l, hl, h6 with
      | [q], _, h6 =>
        rw [inwT, if_neg (by decide), if_pos rfl, inwO]
        unfold goodL at h6
        exact inw_short q (!nt) h6.1
theorem inw_shortL : ∀ (l : List Pt) (nt : Bool), goodL l → shortL (inwL l nt)
  | [], nt, _ => by unfold inwL shortL; trivial
  | q :: r, nt, h => by
    unfold goodL at h
    unfold inwL shortL
    exact ⟨inw_short q nt h.1, inw_shortL r nt h.2⟩
theorem good_shortP : ∀ (p : Pt), goodP p → shortT p
  | .mk k c o v l, h => by
    unfold goodP at h
    unfold shortT
    exact ⟨h.2.2.2.1, good_short l h.2.2.2.2⟩
theorem good_short : ∀ (l : List Pt), goodL l → shortL l
  | [], _ => by unfold shortL; trivial
  | q :: r, h => by
    unfold goodL at h
    unfold shortL
    exact ⟨good_shortP q h.1, good_short r h.2⟩
end
theorem leafOf_good {cols : List Co} (h : ColsOk cols) (n k : Int) : goodP (leafOf cols n k) := by
  unfold leafOf
  split
  · unfold goodP; exact ⟨by omega, fun h => by omega, fun h => by omega, by simp, by unfold goodL; trivial⟩
  · split
    · unfold goodP; exact ⟨by omega, fun h => by omega, fun h => by omega, by simp, by unfold goodL; trivial⟩
    · unfold goodP; exact ⟨by omega, fun _ => by omega, fun h => by omega, by simp, by unfold goodL; trivial⟩
theorem predOf_good {cols : List Co} (h : ColsOk cols) (l : List Int) : ∀ (d at_ : Nat), goodP (predOf cols l d at_)
  | 0, at_ => by unfold predOf; exact leafOf_good h _ _
  | d + 1, at_ => by
    unfold predOf
    split
    · rename_i hk
      unfold goodP
      refine ⟨by omega, fun h => by omega, fun h => by omega, by rw [List.length_map, List.length_range]; omega, goodL_of fun q hq => ?_⟩
      obtain ⟨i, _, rfl⟩ := List.mem_map.1 hq
      exact predOf_good h l d _
    · split
      · unfold goodP
        exact ⟨by omega, fun h => by omega, fun _ => rfl, by simp, goodL_of fun q hq => by rw [List.mem_singleton.1 hq]; exact predOf_good h l d _⟩
      · exact leafOf_good h _ _

end Go.Proofs.Ytfmkalnnpddefaa
