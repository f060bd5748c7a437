/-
  Plain: zones are safe: what is true of a row of them may be of them.
-/
import Derived.Test.YtpabneinikbneaaRow9
import Derived.Test.YtpabneinikbneaaZmay
namespace Go.Proofs.Ytpabneinikbneaa
set_option linter.unusedVariables false
set_option linter.unusedSimpArgs false

/-- A value such as may be, of that kind. -/
def OfK (kd : Int) (v : Vc) : Prop := NormV v ∧ v.k = kd
theorem noneV_of (kd : Int) : OfK kd (noneV kd) := ⟨⟨fun _ => ⟨rfl, rfl⟩, fun _ => rfl, fun _ => rfl⟩, rfl⟩
theorem cmp_self {kd : Int} {a : Vc} (ha : OfK kd a) : cmpT a a = 0 := by rw [cmpT_key ha.1 ha.1 rfl]; exact (cmpK_ok.eq _ _).2 rfl
theorem cmp_anti {kd : Int} {a b : Vc} (ha : OfK kd a) (hb : OfK kd b) : cmpT b a = - cmpT a b := by
  rw [cmpT_key ha.1 hb.1 (ha.2.trans hb.2.symm), cmpT_key hb.1 ha.1 (hb.2.trans ha.2.symm)]
  exact cmpK_ok.anti _ _
theorem cmp_tr {kd : Int} {a b c : Vc} (ha : OfK kd a) (hb : OfK kd b) (hc : OfK kd c) (h1 : cmpT a b ≤ 0) (h2 : cmpT b c ≤ 0) : cmpT a c ≤ 0 ∧ (cmpT a c = 0 → cmpT a b = 0 ∧ cmpT b c = 0) := by
  rw [cmpT_key ha.1 hb.1 (ha.2.trans hb.2.symm)] at h1 ⊢
  rw [cmpT_key hb.1 hc.1 (hb.2.trans hc.2.symm)] at h2 ⊢
  rw [cmpT_key ha.1 hc.1 (ha.2.trans hc.2.symm)]
  exact cmpK_ok.tr _ _ _ h1 h2

/-- What a zone tells of the values that it has seen. -/
structure Seen (kd : Int) (z : Zt) (S : List Vc) : Prop where
  lo : OfK kd z.lo
  hi : OfK kd z.hi
  all : ∀ v ∈ S, OfK kd v
  n : z.n = ((S.countP fun v => v.u : Nat) : Int)
  in_ : ∀ v ∈ S, v.u = false → z.lo.u = false ∧ z.hi.u = false ∧ cmpT z.lo v ≤ 0 ∧ cmpT v z.hi ≤ 0
theorem Seen.step {kd : Int} {z : Zt} {S : List Vc} (h : Seen kd z S) {v : Vc} (hv : OfK kd v) : Seen kd (widenT z v) (v :: S) := by
  have hall : ∀ x ∈ v :: S, OfK kd x := fun x hx => by
    rcases List.mem_cons.1 hx with rfl | hx
    · exact hv
    · exact h.all x hx
  unfold widenT
  by_cases hu : v.u = true
  · rw [if_pos hu]
    refine ⟨h.lo, h.hi, hall, ?_, fun x hx hxu => ?_⟩
    · show z.n + 1 = _
      rw [List.countP_cons, h.n, hu]
      simp
    · rcases List.mem_cons.1 hx with rfl | hx
      · rw [hu] at hxu; cases hxu
      · exact h.in_ x hx hxu
  · rw [if_neg hu]
    have hu' : v.u = false := by simpa using hu
    refine ⟨?_, ?_, hall, ?_, fun x hx hxu => ?_⟩
    · show OfK kd (if _ then v else z.lo)
      split
      · exact hv
      · exact h.lo
    · show OfK kd (if _ then v else z.hi)
      split
      · exact hv
      · exact h.hi
    · show z.n = _
      rw [List.countP_cons, h.n, hu']
      simp
    · show (if _ then v else z.lo).u = false ∧ (if _ then v else z.hi).u = false ∧ cmpT (if _ then v else z.lo) x ≤ 0 ∧ cmpT x (if _ then v else z.hi) ≤ 0
      have hlo : (if z.lo.u = true ∨ cmpT v z.lo < 0 then v else z.lo).u = false ∧ cmpT (if z.lo.u = true ∨ cmpT v z.lo < 0 then v else z.lo) x ≤ 0 := by
        by_cases hc : z.lo.u = true ∨ cmpT v z.lo < 0
        · rw [if_pos hc]
          refine ⟨hu', ?_⟩
          rcases List.mem_cons.1 hx with rfl | hx
          · rw [cmp_self hv]; exact Int.le_refl 0
          · have h1 := h.in_ x hx hxu
            rcases hc with hc | hc
            · rw [h1.1] at hc; cases hc
            · exact (cmp_tr hv h.lo (h.all x hx) (by omega) h1.2.2.1).1
        · rw [if_neg hc]
          have hc1 : z.lo.u = false := by
            cases hh : z.lo.u
            · rfl
            · exact absurd (.inl hh) hc
          have hc2 : ¬ cmpT v z.lo < 0 := fun hh => hc (.inr hh)
          refine ⟨hc1, ?_⟩
          rcases List.mem_cons.1 hx with rfl | hx
          · rw [cmp_anti hv h.lo]; omega
          · exact (h.in_ x hx hxu).2.2.1
      have hhi : (if z.hi.u = true ∨ 0 < cmpT v z.hi then v else z.hi).u = false ∧ cmpT x (if z.hi.u = true ∨ 0 < cmpT v z.hi then v else z.hi) ≤ 0 := by
        by_cases hc : z.hi.u = true ∨ 0 < cmpT v z.hi
        · rw [if_pos hc]
          refine ⟨hu', ?_⟩
          rcases List.mem_cons.1 hx with rfl | hx
          · rw [cmp_self hv]; exact Int.le_refl 0
          · have h1 := h.in_ x hx hxu
            rcases hc with hc | hc
            · rw [h1.2.1] at hc; cases hc
            · exact (cmp_tr (h.all x hx) h.hi hv h1.2.2.2 (by rw [cmp_anti hv h.hi]; omega)).1
        · rw [if_neg hc]
          have hc1 : z.hi.u = false := by
            cases hh : z.hi.u
            · rfl
            · exact absurd (.inl hh) hc
          have hc2 : ¬ 0 < cmpT v z.hi := fun hh => hc (.inr hh)
          refine ⟨hc1, ?_⟩
          rcases List.mem_cons.1 hx with rfl | hx
          · omega
          · exact (h.in_ x hx hxu).2.2.2
      exact ⟨hlo.1, hhi.1, hlo.2, hhi.2⟩

/-- Each row has a value of that kind there. -/
def ColK (kd : Int) (c : Nat) (rows : List (List Vc)) : Prop := ∀ r ∈ rows, ∃ v, r[c]? = some v ∧ OfK kd v
theorem seen_fold {kd : Int} {c : Nat} : ∀ (rows : List (List Vc)) (z : Zt) (S : List Vc), ColK kd c rows → Seen kd z S → ∃ S', Seen kd (rows.foldl (stepT c) z) S' ∧ S'.length = S.length + rows.length ∧ (∀ v ∈ S, v ∈ S') ∧ ∀ r ∈ rows, ∀ v, r[c]? = some v → v ∈ S'
  | [], z, S, _, h => ⟨S, h, rfl, fun _ h => h, fun r hr => by cases hr⟩
  | r :: t, z, S, hk, h => by
    obtain ⟨v, hv, hvk⟩ := hk r List.mem_cons_self
    have e : stepT c z r = widenT z v := by unfold stepT; rw [hv]
    obtain ⟨S', h1, h2, h3, h4⟩ := seen_fold t (widenT z v) (v :: S) (fun x hx => hk x (List.mem_cons_of_mem _ hx)) (h.step hvk)
    refine ⟨S', by rw [List.foldl_cons, e]; exact h1, by rw [h2, List.length_cons, List.length_cons]; omega, fun x hx => h3 x (List.mem_cons_of_mem _ hx), fun x hx y hy => ?_⟩
    rcases List.mem_cons.1 hx with rfl | hx
    · rw [hv] at hy
      cases hy
      exact h3 v List.mem_cons_self
    · exact h4 x hx y hy
/-- What the zone of a column tells of a value of it. -/
theorem zone_tells {kd : Int} {c : Nat} {rows : List (List Vc)} (hk : ColK kd c rows) {r : List Vc} (hr : r ∈ rows) {v : Vc} (hv : r[c]? = some v) :
    (v.u = true → 0 < (zoneT kd c rows).n) ∧ (v.u = false → (zoneT kd c rows).n < rows.length ∧ (zoneT kd c rows).lo.u = false ∧ (zoneT kd c rows).hi.u = false ∧ cmpT (zoneT kd c rows).lo v ≤ 0 ∧ cmpT v (zoneT kd c rows).hi ≤ 0) ∧ OfK kd (zoneT kd c rows).lo ∧ OfK kd (zoneT kd c rows).hi := by
  obtain ⟨S, h1, h2, _, h4⟩ := seen_fold rows (zone0 kd) [] hk ⟨noneV_of kd, noneV_of kd, fun v hv => (by cases hv), rfl, fun v hv => (by cases hv)⟩
  have hS : Seen kd (zoneT kd c rows) S := h1
  have hin := h4 r hr v hv
  rw [List.length_nil, Nat.zero_add] at h2
  refine ⟨fun hu => ?_, fun hu => ⟨?_, hS.in_ v hin hu⟩, hS.lo, hS.hi⟩
  · rw [hS.n]
    have : 0 < S.countP fun v => v.u := List.countP_pos_iff.2 ⟨v, hin, hu⟩
    omega
  · rw [hS.n]
    have hle : S.countP (fun v => v.u) ≤ S.length := List.countP_le_length
    have hne : S.countP (fun v => v.u) ≠ S.length := fun e => by
      have := List.countP_eq_length.1 e v hin
      rw [hu] at this
      cases this
    omega

/-- A comparison that is true of a value that lies between may be. -/
theorem cmpPos_true {kd : Int} {z : Zt} {x v : Vc} {o : Int} (hl : OfK kd z.lo) (hh : OfK kd z.hi) (hx : OfK kd x) (hv : OfK kd v) (h1 : cmpT z.lo x ≤ 0) (h2 : cmpT x z.hi ≤ 0) (ho1 : 1 ≤ o) (ho2 : o ≤ 6) (ht : holdsB o (cmpT x v) = true) : cmpPosT o v z = true := by
  have a1 := fun h => cmp_tr hl hx hv h1 h
  have a2 := fun h => cmp_tr hv hx hh h h2
  have e1 := cmp_anti hx hv
  have e2 := cmp_anti hh hv
  unfold cmpPosT
  rcases (by omega : o = 1 ∨ o = 2 ∨ o = 3 ∨ o = 4 ∨ o = 5 ∨ o = 6) with rfl | rfl | rfl | rfl | rfl | rfl
  · have ht' : (cmpT x v == 0) = true := ht
    rw [beq_iff_eq] at ht'
    have := a1 (by omega)
    have := a2 (by omega)
    simp only [if_true, Bool.and_eq_true, decide_eq_true_eq]
    omega
  · have ht' : (cmpT x v != 0) = true := ht
    rw [bne_iff_ne] at ht'
    simp only [show ¬ (2 : Int) = 1 by decide, if_false, if_true, Bool.or_eq_true, bne_iff_ne]
    rcases (by omega : cmpT x v < 0 ∨ 0 < cmpT x v) with h | h
    · have h3 := a1 (by omega)
      exact .inl fun h0 => ht' (h3.2 h0).2
    · have h3 := a2 (by omega)
      exact .inr fun h0 => by have := (h3.2 (by omega)).1; omega
  · have ht' : decide (cmpT x v < 0) = true := ht
    rw [decide_eq_true_eq] at ht'
    simp only [show ¬ (3 : Int) = 1 by decide, show ¬ (3 : Int) = 2 by decide, if_false, if_true, decide_eq_true_eq]
    have h3 := a1 (by omega)
    rcases (by omega : cmpT z.lo v < 0 ∨ cmpT z.lo v = 0) with h | h
    · exact h
    · have := h3.2 h; omega
  · have ht' : decide (cmpT x v ≤ 0) = true := ht
    rw [decide_eq_true_eq] at ht'
    simp only [show ¬ (4 : Int) = 1 by decide, show ¬ (4 : Int) = 2 by decide, show ¬ (4 : Int) = 3 by decide, if_false, if_true, decide_eq_true_eq]
    exact (a1 ht').1
  · have ht' : decide (0 < cmpT x v) = true := ht
    rw [decide_eq_true_eq] at ht'
    simp only [show ¬ (5 : Int) = 1 by decide, show ¬ (5 : Int) = 2 by decide, show ¬ (5 : Int) = 3 by decide, show ¬ (5 : Int) = 4 by decide, if_false, if_true, decide_eq_true_eq]
    have h3 := a2 (by omega)
    rcases (by omega : 0 < cmpT z.hi v ∨ cmpT z.hi v ≤ 0) with h | h
    · exact h
    · have h4 : cmpT v z.hi = 0 := by omega
      have := (h3.2 h4).1; omega
  · have ht' : decide (0 ≤ cmpT x v) = true := ht
    rw [decide_eq_true_eq] at ht'
    simp only [show ¬ (6 : Int) = 1 by decide, show ¬ (6 : Int) = 2 by decide, show ¬ (6 : Int) = 3 by decide, show ¬ (6 : Int) = 4 by decide, show ¬ (6 : Int) = 5 by decide, if_false, if_true, decide_eq_true_eq]
    have h3 := a2 (by omega)
    omega

/-- Leaves of which the zones may be asked; the columns' kinds are kc. -/
def leafK (kc : Nat → Int) (t : Pt) : Prop := match t with
  | .mk k c o v l => (k = 2 → 0 ≤ c ∧ 1 ≤ o ∧ o ≤ 6 ∧ OfK (kc c.toNat) v) ∧ (k = 3 → 0 ≤ c)
mutual
def okK (kc : Nat → Int) : Pt → Prop
  | .mk k c o v l => ((k = 2 → 0 ≤ c ∧ 1 ≤ o ∧ o ≤ 6 ∧ OfK (kc c.toNat) v) ∧ (k = 3 → 0 ≤ c)) ∧ okKs kc l
def okKs (kc : Nat → Int) : List Pt → Prop
  | [] => True
  | q :: t => okK kc q ∧ okKs kc t
end
theorem okKs_mem {kc : Nat → Int} : ∀ {l : List Pt}, okKs kc l → ∀ q ∈ l, okK kc q
  | [], _, q, hq => by cases hq
  | p :: t, h, q, hq => by
    unfold okKs at h
    rcases List.mem_cons.1 hq with rfl | h1
    · exact h.1
    · exact okKs_mem h.2 q h1
theorem okKs_of {kc : Nat → Int} : ∀ {l : List Pt}, (∀ q ∈ l, okK kc q) → okKs kc l
  | [], _ => by unfold okKs; trivial
  | p :: t, h => by unfold okKs; exact ⟨h p List.mem_cons_self, okKs_of fun q hq => h q (List.mem_cons_of_mem _ hq)⟩
/-- A thing of a form of such. -/
def thingK (kc : Nat → Int) (t : Pt) : Prop := match t with
  | .mk k c o v l => (k = 2 ∧ 0 ≤ c ∧ 1 ≤ o ∧ o ≤ 6 ∧ OfK (kc c.toNat) v) ∨ (k = 3 ∧ 0 ≤ c) ∨ (k = 6 ∧ ∃ c' o' v' l', l = [.mk 3 c' o' v' l'] ∧ 0 ≤ c')
theorem things_ofK {kc : Nat → Int} {p : Pt} (hp : okK kc p) {nt : Bool} {a : List (List Pt)} (h : nrm p nt = some a) : ∀ x ∈ a, ∀ t ∈ x, thingK kc t :=
  nrm_all (R := okK kc) (Q := thingK kc) ⟨fun c o v l hr o' ho => by
      unfold okK at hr
      obtain ⟨h1, h2, h3, h4⟩ := hr.1.1 rfl
      refine .inl ⟨rfl, h1, ?_, ?_, h4⟩
      · rcases ho with rfl | rfl
        · exact h2
        · exact (opN_range o h2 h3).1
      · rcases ho with rfl | rfl
        · exact h3
        · exact (opN_range o h2 h3).2,
    fun c o v l hr => by
      unfold okK at hr
      have := hr.1.2 rfl
      exact ⟨.inr (.inl ⟨rfl, this⟩), .inr (.inr ⟨rfl, c, o, v, l, rfl, this⟩)⟩⟩
    (fun k c o v l _ hr q hq => by unfold okK at hr; exact okKs_mem hr.2 q hq) p nt hp h

/-- Rows of these columns. -/
def RowsK (cols : List Co) (rows : List (List Vc)) : Prop := ∀ r ∈ rows, r.length = cols.length ∧ ∀ (i : Nat) (c : Co) (v : Vc), cols[i]? = some c → r[i]? = some v → OfK c.k v
theorem RowsK.col {cols : List Co} {rows : List (List Vc)} (h : RowsK cols rows) {i : Nat} {c : Co} (hc : cols[i]? = some c) : ColK c.k i rows := fun r hr => by
  have hi := (List.getElem?_eq_some_iff.1 hc).1
  obtain ⟨h1, h2⟩ := h r hr
  have h3 : r[i]? = some r[i] := List.getElem?_eq_getElem (by rw [h1]; exact hi)
  exact ⟨_, h3, h2 i c _ hc h3⟩
def kcOf (cols : List Co) (i : Nat) : Int := match cols[i]? with | some c => c.k | none => 0
theorem zonesT_at {cols : List Co} {rows : List (List Vc)} (i : Nat) : (zonesT cols rows)[i]? = (cols[i]?).map fun c => zoneT c.k i rows := by
  unfold zonesT
  rw [List.getElem?_mapIdx]
theorem pos_true {cols : List Co} {rows : List (List Vc)} (h : RowsK cols rows) {r : List Vc} (hr : r ∈ rows) {t : Pt} (ht : thingK (kcOf cols) t) (he : evalT r t = 1) : posT t (zonesT cols rows) rows.length = true := by
  obtain ⟨k, c, o, v, l⟩ := t
  have hlen := (h r hr).1
  have key : ∀ (c : Int), 0 ≤ c → (cols[c.toNat]? = none) ∨ ∃ co x, cols[c.toNat]? = some co ∧ r[c.toNat]? = some x ∧ OfK co.k x ∧ (zonesT cols rows)[c.toNat]? = some (zoneT co.k c.toNat rows) ∧ kcOf cols c.toNat = co.k := by
    intro c hc
    cases hco : cols[c.toNat]? with
    | none => exact .inl rfl
    | some co =>
      have hi := (List.getElem?_eq_some_iff.1 hco).1
      have h3 : r[c.toNat]? = some r[c.toNat] := List.getElem?_eq_getElem (by rw [hlen]; exact hi)
      exact .inr ⟨co, _, rfl, h3, (h r hr).2 _ co _ hco h3, by rw [zonesT_at, hco]; rfl, by unfold kcOf; rw [hco]⟩
  have none_pos : ∀ (nt : Bool) (k c o : Int) (v : Vc), cols[c.toNat]? = none → posB nt k c o v (zonesT cols rows) rows.length = true := by
    intro nt k c o v hn
    unfold posB
    split
    · rfl
    · rw [zonesT_at, hn]; rfl
  rcases ht with ⟨rfl, hc, ho1, ho2, hv⟩ | ⟨rfl, hc⟩ | ⟨rfl, c', o', v', l', rfl, hc⟩
  · unfold posT
    simp only [show ¬ (2 : Int) = 6 by decide, if_false]
    rcases key c hc with hn | ⟨co, x, hco, hx, hxk, hz, hkc⟩
    · exact none_pos _ _ _ _ _ hn
    · rw [evalT] at he
      simp only [show ¬ (2 : Int) = 1 by decide, if_false, if_true] at he
      unfold cmpE colT at he
      simp only [show ¬ c < 0 by omega, if_false, hx] at he
      split at he
      · omega
      · rename_i hu
        rw [verdB_one] at he
        have hu' : x.u = false := by simpa using hu
        obtain ⟨_, h2, h3, h4⟩ := zone_tells (h.col hco) hr hx
        obtain ⟨g1, g2, g3, g4, g5⟩ := h2 hu'
        unfold posB
        rw [if_neg (by omega), hz]
        simp only [Bool.false_eq_true, if_false, show ¬ (2 : Int) = 3 by decide, g2, g3, Bool.not_false, Bool.and_true, Bool.and_eq_true, decide_eq_true_eq]
        exact ⟨g1, cmpPos_true h3 h4 hxk (hkc ▸ hv) g4 g5 ho1 ho2 he⟩
  · unfold posT
    simp only [show ¬ (3 : Int) = 6 by decide, if_false]
    rcases key c hc with hn | ⟨co, x, hco, hx, hxk, hz, hkc⟩
    · exact none_pos _ _ _ _ _ hn
    · rw [evalT] at he
      simp only [show ¬ (3 : Int) = 1 by decide, show ¬ (3 : Int) = 2 by decide, if_false, if_true] at he
      unfold nullE colT at he
      simp only [show ¬ c < 0 by omega, if_false, hx] at he
      unfold posB
      rw [if_neg (by omega), hz]
      simp only [Bool.false_eq_true, if_false, if_true, decide_eq_true_eq]
      refine (zone_tells (h.col hco) hr hx).1 ?_
      first
        | exact (verdB_one _).1 he
        | (split at he <;> first | assumption | omega)
  · unfold posT
    simp only [if_true]
    rcases key c' hc with hn | ⟨co, x, hco, hx, hxk, hz, hkc⟩
    · exact none_pos _ _ _ _ _ hn
    · have e : evalT r (.mk 6 c o v [.mk 3 c' o' v' l']) = otherT (evalT r (.mk 3 c' o' v' l')) := by rw [evalT, evalL, evalL]; simp
      rw [e, otherT_one, evalT] at he
      simp only [show ¬ (3 : Int) = 1 by decide, show ¬ (3 : Int) = 2 by decide, if_false, if_true] at he
      unfold nullE colT at he
      simp only [show ¬ c' < 0 by omega, if_false, hx] at he
      unfold posB
      rw [if_neg (by omega), hz]
      simp only [if_true, decide_eq_true_eq]
      refine ((zone_tells (h.col hco) hr hx).2.1 ?_).1
      first
        | exact (verdB_two _).1 he
        | (split at he <;> first | assumption | omega | (rename_i hh; simpa using hh))
/-- What is true of a row may be of its zones. -/
theorem zone_safe {cols : List Co} {rows : List (List Vc)} (h : RowsK cols rows) {r : List Vc} (hr : r ∈ rows) {p : Pt} (hp : okK (kcOf cols) p) (hok : okE r p) (he : evalT r p = 1) : mayT p (zonesT cols rows) rows.length = true := by
  have hl : 0 < rows.length := List.length_pos_of_mem hr
  unfold mayT
  rw [if_neg (by omega)]
  cases hn : nrm p false with
  | none => rfl
  | some a =>
    obtain ⟨x, hx, hxt⟩ := (nrm_eval r p false hok hn).2 he
    unfold mayR
    simp only [List.any_eq_true, List.all_eq_true]
    exact ⟨x, hx, fun t ht => pos_true h hr (things_ofK hp hn x hx t ht) (hxt t ht)⟩

/-! The law's rows and predicates. -/
theorem rows9_at {cols : List Co} {l : List Int} {i : Nat} {r : List Vc} (h : (rows9 cols l)[i]? = some r) : ∃ n : Int, (l.take 40)[i]? = some n ∧ r = (rowOf cols n).set 0 ⟨false, 1, (i : Int) * 3 + n % 2, []⟩ := by
  unfold rows9 at h
  rw [List.getElem?_mapIdx] at h
  obtain ⟨n, hn, rfl⟩ := Option.map_eq_some_iff.1 h
  exact ⟨n, hn, rfl⟩
theorem rows9_mem {cols : List Co} {l : List Int} {r : List Vc} (h : r ∈ rows9 cols l) : ∃ (n m : Int), r = (rowOf cols n).set 0 ⟨false, 1, m, []⟩ := by
  obtain ⟨i, hi, rfl⟩ := List.mem_iff_getElem.1 h
  obtain ⟨n, _, e⟩ := rows9_at (List.getElem?_eq_getElem hi)
  exact ⟨n, _, e⟩
theorem rows9_len (cols : List Co) (l : List Int) : (rows9 cols l).length = min 40 l.length := by
  unfold rows9
  rw [List.length_mapIdx, List.length_take]
theorem rows9_K {cols : List Co} (h : ColsOk cols) (l : List Int) : RowsK cols (rows9 cols l) := by
  intro r hr
  obtain ⟨n, m, rfl⟩ := rows9_mem hr
  refine ⟨by rw [List.length_set, rowOf_len], fun i c v hc hv => ?_⟩
  by_cases hi : i = 0
  · subst hi
    rw [List.getElem?_set_self (by rw [rowOf_len]; exact h.ne)] at hv
    cases hv
    exact ⟨⟨fun h => (by cases h), fun h => (by cases h), fun _ => rfl⟩, (h.hd c hc).1.symm⟩
  · rw [List.getElem?_set_ne (fun e => hi e.symm), rowOf_at] at hv
    rw [hc] at hv
    cases hv
    exact eltOf_norm cols h n i c hc
theorem row9_k {cols : List Co} (h : ColsOk cols) {l : List Int} {r : List Vc} (hr : r ∈ rows9 cols l) {i : Nat} {x : Vc} (hx : r[i]? = some x) : ∃ c, cols[i]? = some c ∧ x.k = c.k := by
  obtain ⟨h1, h2⟩ := rows9_K h l r hr
  have hi := (List.getElem?_eq_some_iff.1 hx).1
  rw [h1] at hi
  exact ⟨_, List.getElem?_eq_getElem hi, (h2 i _ x (List.getElem?_eq_getElem hi) hx).2⟩
theorem leafOf_ok9 {cols : List Co} (h : ColsOk cols) {l : List Int} {r : List Vc} (hr : r ∈ rows9 cols l) (n k : Int) : okE r (leafOf cols n k) := by
  have hl := colOf_lt cols h.ne n
  have hlen := (rows9_K h l r hr).1
  unfold leafOf
  split
  · unfold okE; exact .inl rfl
  · split
    · unfold okE; exact .inr (.inr (.inl ⟨rfl, by omega, by omega⟩))
    · unfold okE
      refine .inr (.inl ⟨rfl, by omega, by omega, by omega, by omega, fun x hx _ => ?_⟩)
      rw [Int.toNat_natCast] at hx
      obtain ⟨c, hc, hk⟩ := row9_k h hr hx
      refine refC_cmpT (by rw [hk, cmpV_k h n hc]) ?_
      rw [hk]
      exact h.ks c (List.mem_of_getElem? hc)
theorem predOf_ok9 {cols : List Co} (h : ColsOk cols) {lr : List Int} {r : List Vc} (hr : r ∈ rows9 cols lr) (l : List Int) : ∀ (d at_ : Nat), okE r (predOf cols l d at_)
  | 0, at_ => by unfold predOf; exact leafOf_ok9 h hr _ _
  | d + 1, at_ => by
    unfold predOf
    split
    · rename_i hk
      unfold okE
      refine .inr (.inr (.inr (.inl ⟨by omega, okEs_of fun q hq => ?_⟩)))
      obtain ⟨i, _, rfl⟩ := List.mem_map.1 hq
      exact predOf_ok9 h hr l d _
    · split
      · unfold okE
        exact .inr (.inr (.inr (.inr ⟨rfl, rfl, by unfold okEs; exact ⟨predOf_ok9 h hr l d _, by unfold okEs; trivial⟩⟩)))
      · exact leafOf_ok9 h hr _ _
theorem cmpV_of {cols : List Co} (h : ColsOk cols) (n : Int) : OfK (kcOf cols (colOf cols n)) (cmpV cols n) := by
  have hl := colOf_lt cols h.ne n
  have hc : cols[colOf cols n]? = some cols[colOf cols n] := List.getElem?_eq_getElem hl
  refine ⟨?_, by unfold kcOf; rw [hc]; exact cmpV_k h n hc⟩
  unfold cmpV
  rw [hc]
  simp only
  split
  · exact ⟨fun h => (by cases h), fun h => (by cases h), fun _ => rfl⟩
  · have hks := h.ks _ (List.mem_of_getElem? hc)
    exact (valOf_norm ⟨_, _, false⟩ _ hks).1
theorem leafOf_okK {cols : List Co} (h : ColsOk cols) (n k : Int) : okK (kcOf cols) (leafOf cols n k) := by
  unfold leafOf
  split
  · unfold okK; exact ⟨⟨fun h => by omega, fun h => by omega⟩, by unfold okKs; trivial⟩
  · split
    · unfold okK; exact ⟨⟨fun h => by omega, fun _ => by omega⟩, by unfold okKs; trivial⟩
    · unfold okK; exact ⟨⟨fun _ => ⟨by omega, by omega, by omega, by rw [Int.toNat_natCast]; exact cmpV_of h n⟩, fun h => by omega⟩, by unfold okKs; trivial⟩
theorem predOf_okK {cols : List Co} (h : ColsOk cols) (l : List Int) : ∀ (d at_ : Nat), okK (kcOf cols) (predOf cols l d at_)
  | 0, at_ => by unfold predOf; exact leafOf_okK h _ _
  | d + 1, at_ => by
    unfold predOf
    split
    · rename_i hk
      unfold okK
      refine ⟨⟨fun h2 => by omega, fun h2 => by omega⟩, okKs_of fun q hq => ?_⟩
      obtain ⟨i, _, rfl⟩ := List.mem_map.1 hq
      exact predOf_okK h l d _
    · split
      · unfold okK
        exact ⟨⟨fun h2 => by omega, fun h2 => by omega⟩, okKs_of fun q hq => by rw [List.mem_singleton.1 hq]; exact predOf_okK h l d _⟩
      · exact leafOf_okK h _ _
/-- The lengths that zone.Of asks of rows. -/
theorem rows9_small {cols : List Co} (h : ColsOk cols) {l : List Int} {r : List Vc} (hr : r ∈ rows9 cols l) : r.length ≤ 6 ∧ ∀ v ∈ r, v.b.length ≤ 8 := by
  obtain ⟨n, m, rfl⟩ := rows9_mem hr
  refine ⟨by rw [List.length_set, rowOf_len]; exact h.le, fun v hv => ?_⟩
  rcases List.mem_or_eq_of_mem_set hv with h1 | rfl
  · obtain ⟨i, hi, rfl⟩ := List.mem_iff_getElem.1 h1
    have h2 := List.getElem?_eq_getElem hi
    rw [rowOf_at] at h2
    obtain ⟨c, hc, e⟩ := Option.map_eq_some_iff.1 h2
    rw [← e]
    unfold eltOf
    split
    · exact Nat.zero_le _
    · exact valOf_len _ _
  · exact Nat.zero_le _

end Go.Proofs.Ytpabneinikbneaa
