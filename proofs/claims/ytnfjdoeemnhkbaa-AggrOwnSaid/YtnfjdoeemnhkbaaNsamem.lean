/-
  Plain: the form of a predicate is true of the same rows; what it names is the key of each.
-/
import Derived.Test.YtnfjdoeemnhkbaaNkeym
import Derived.Test.YtnfjdoeemnhkbaaReve
import Derived.Test.YtnfjdoeemnhkbaaColn
import Derived.Test.YtnfjdoeemnhkbaaNlaw
namespace Go.Proofs.Ytnfjdoeemnhkbaa
set_option linter.unusedVariables false
set_option linter.unusedSimpArgs false

theorem holdsB_opN (o d : Int) (h1 : 1 ≤ o) (h2 : o ≤ 6) : holdsB (opN o) d = !holdsB o d := by
  rcases (by omega : o = 1 ∨ o = 2 ∨ o = 3 ∨ o = 4 ∨ o = 5 ∨ o = 6) with rfl | rfl | rfl | rfl | rfl | rfl
  · show (d != 0) = !(d == 0); rfl
  · show (d == 0) = !(d != 0); cases h : (d == 0) <;> simp [bne, h]
  · show decide (0 ≤ d) = !decide (d < 0); rw [← decide_not]; exact decide_eq_decide.2 (by omega)
  · show decide (0 < d) = !decide (d ≤ 0); rw [← decide_not]; exact decide_eq_decide.2 (by omega)
  · show decide (d ≤ 0) = !decide (0 < d); rw [← decide_not]; exact decide_eq_decide.2 (by omega)
  · show decide (d < 0) = !decide (0 ≤ d); rw [← decide_not]; exact decide_eq_decide.2 (by omega)
theorem verdB_one (b : Bool) : verdB b = 1 ↔ b = true := by cases b <;> simp [verdB]
theorem verdB_two (b : Bool) : verdB b = 2 ↔ b = false := by cases b <;> simp [verdB]
theorem otherT_one (x : Int) : otherT x = 1 ↔ x = 2 := by unfold otherT; split <;> (try split) <;> omega
theorem otherT_two (x : Int) : otherT x = 2 ↔ x = 1 := by unfold otherT; split <;> (try split) <;> omega

/-- Whether a form is true of a row. -/
def trueN (r : List Vc) (a : List (List Pt)) : Prop := ∃ x ∈ a, ∀ t ∈ x, evalT r t = 1
theorem trueN_nil (r : List Vc) : ¬ trueN r [] := fun ⟨x, hx, _⟩ => by cases hx
theorem trueN_one (r : List Vc) (x : List Pt) : trueN r [x] ↔ ∀ t ∈ x, evalT r t = 1 := by
  refine ⟨fun ⟨y, hy, h⟩ => ?_, fun h => ⟨x, List.mem_cons_self, h⟩⟩
  rw [List.mem_singleton.1 hy] at h
  exact h
theorem trueN_append (r : List Vc) (a b : List (List Pt)) : trueN r (a ++ b) ↔ trueN r a ∨ trueN r b := by
  unfold trueN
  constructor
  · rintro ⟨x, hx, h⟩
    rcases List.mem_append.1 hx with h1 | h1
    · exact .inl ⟨x, h1, h⟩
    · exact .inr ⟨x, h1, h⟩
  · rintro (⟨x, hx, h⟩ | ⟨x, hx, h⟩)
    · exact ⟨x, List.mem_append.2 (.inl hx), h⟩
    · exact ⟨x, List.mem_append.2 (.inr hx), h⟩
theorem trueN_prod (r : List Vc) (a b : List (List Pt)) : trueN r (prodL a b) ↔ trueN r a ∧ trueN r b := by
  unfold trueN prodL
  constructor
  · rintro ⟨x, hx, h⟩
    obtain ⟨y, hy, hx⟩ := List.mem_flatMap.1 hx
    obtain ⟨z, hz, rfl⟩ := List.mem_map.1 hx
    exact ⟨⟨y, hy, fun t ht => h t (List.mem_append.2 (.inl ht))⟩, ⟨z, hz, fun t ht => h t (List.mem_append.2 (.inr ht))⟩⟩
  · rintro ⟨⟨y, hy, h1⟩, ⟨z, hz, h2⟩⟩
    refine ⟨y ++ z, List.mem_flatMap.2 ⟨y, hy, List.mem_map.2 ⟨z, hz, rfl⟩⟩, fun t ht => ?_⟩
    rcases List.mem_append.1 ht with h | h
    · exact h1 t h
    · exact h2 t h
theorem timesN_prod {a b o : List (List Pt)} (h : timesN a b = some o) : o = prodL a b := by
  unfold timesN at h
  split at h
  · cases h
  · split at h
    · exact (Option.some.inj h).symm
    · cases h

theorem listE_one (s v : Int) (vs : List Int) (hs : s ≠ v) (hs3 : s ≠ 3) (hv3 : v ≠ 3) : (listE s v vs = s ↔ s ∈ vs) ∧ (listE s v vs = v ↔ s ∉ vs ∧ 3 ∉ vs) := by
  unfold listE
  by_cases h1 : s ∈ vs
  · simp [h1, hs]
  · by_cases h2 : (3 : Int) ∈ vs
    · simp [h1, h2]; omega
    · simp [h1, h2]; omega
theorem all_one {r : List Vc} {l : List Pt} : ((2 : Int) ∉ evalL r l ∧ 3 ∉ evalL r l) ↔ ∀ q ∈ l, evalT r q = 1 := by
  rw [evalL_eq]
  constructor
  · rintro ⟨h2, h3⟩ q hq
    rcases evalT_range r q with h | h | h
    · exact h
    · exact absurd (List.mem_map.2 ⟨q, hq, h⟩) h2
    · exact absurd (List.mem_map.2 ⟨q, hq, h⟩) h3
  · intro h
    refine ⟨fun h2 => ?_, fun h2 => ?_⟩
    · obtain ⟨q, hq, e⟩ := List.mem_map.1 h2; have := h q hq; omega
    · obtain ⟨q, hq, e⟩ := List.mem_map.1 h2; have := h q hq; omega
theorem all_two {r : List Vc} {l : List Pt} : ((1 : Int) ∉ evalL r l ∧ 3 ∉ evalL r l) ↔ ∀ q ∈ l, evalT r q = 2 := by
  rw [evalL_eq]
  constructor
  · rintro ⟨h2, h3⟩ q hq
    rcases evalT_range r q with h | h | h
    · exact absurd (List.mem_map.2 ⟨q, hq, h⟩) h2
    · exact h
    · exact absurd (List.mem_map.2 ⟨q, hq, h⟩) h3
  · intro h
    refine ⟨fun h2 => ?_, fun h2 => ?_⟩
    · obtain ⟨q, hq, e⟩ := List.mem_map.1 h2; have := h q hq; omega
    · obtain ⟨q, hq, e⟩ := List.mem_map.1 h2; have := h q hq; omega

/-- What the form's truth comes to: of a predicate, or of its not. -/
def want (nt : Bool) : Int := if nt = true then 2 else 1
mutual
theorem nrm_eval (r : List Vc) : ∀ (p : Pt) (nt : Bool) {a : List (List Pt)}, okE r p → nrm p nt = some a → (trueN r a ↔ evalT r p = want nt)
  | .mk k c o v l, nt, a, hok, h => by
    unfold okE at hok
    unfold nrm at h
    rcases hok with rfl | ⟨rfl, hc0, hc1, ho1, ho2, _⟩ | ⟨rfl, hc0, hc1⟩ | ⟨h45, hos⟩ | ⟨rfl, hl1, hos⟩
    · simp only [if_true] at h
      cases h
      have e : evalT r (.mk 1 c o v l) = 1 := by unfold evalT; simp
      rw [e]
      cases nt
      · simp [trueN, want]
      · simp [trueN, want]
    · simp only [show ¬ (2 : Int) = 1 by decide, if_false, if_true] at h
      cases h
      rw [trueN_one]
      obtain ⟨q, x, rfl, hq, hx, h3⟩ := colT_in hc0 hc1
      have e : ∀ o', evalT r (.mk 2 (q : Int) o' v l) = if x.u = true then 3 else verdB (holdsB o' (cmpT x v)) := fun o' => by
        rw [evalT]
        simp only [show ¬ (2 : Int) = 1 by decide, if_false, if_true]
        unfold cmpE
        rw [h3]
      rw [e]
      simp only [List.mem_singleton, forall_eq]
      rw [e]
      cases nt
      · simp [want]
      · unfold want
        simp only [if_true]
        rw [holdsB_opN o _ ho1 ho2]
        split
        · omega
        · rw [verdB_one, verdB_two]; simp
    · simp only [show ¬ (3 : Int) = 1 by decide, show ¬ (3 : Int) = 2 by decide, if_false, if_true] at h
      cases h
      rw [trueN_one]
      simp only [List.mem_singleton, forall_eq]
      cases nt
      · simp [want]
      · simp only [if_true, want]
        have e : evalT r (.mk 6 0 0 zeroV [.mk 3 c o v l]) = otherT (evalT r (.mk 3 c o v l)) := by rw [evalT, evalL, evalL]; simp
        rw [e, otherT_one]
    · have e4 : ∀ c o v l, evalT r (.mk 4 c o v l) = listE 2 1 (evalL r l) := fun c o v l => by rw [evalT]; simp
      have e5 : ∀ c o v l, evalT r (.mk 5 c o v l) = listE 1 2 (evalL r l) := fun c o v l => by rw [evalT]; simp
      rcases h45 with rfl | rfl
      · simp only [show ¬ (4 : Int) = 1 by decide, show ¬ (4 : Int) = 2 by decide, show ¬ (4 : Int) = 3 by decide, show ¬ (4 : Int) = 6 by decide, if_false, true_or, if_true] at h
        rw [e4]
        cases nt
        · simp only [decide_true, Bool.true_bne, Bool.not_false, if_true] at h
          rw [prod_eval r l false [[]] hos h]
          unfold want
          simp only [Bool.false_eq_true, if_false]
          rw [(listE_one 2 1 _ (by decide) (by decide) (by decide)).2, all_one]
          simp [trueN]
        · simp only [decide_true, Bool.true_bne, Bool.not_true, Bool.false_eq_true, if_false] at h
          rw [sum_eval r l true [] hos h]
          unfold want
          simp only [if_true]
          rw [(listE_one 2 1 _ (by decide) (by decide) (by decide)).1, evalL_eq, List.mem_map]
          simp [trueN]
      · simp only [show ¬ (5 : Int) = 1 by decide, show ¬ (5 : Int) = 2 by decide, show ¬ (5 : Int) = 3 by decide, show ¬ (5 : Int) = 6 by decide, show ¬ (5 : Int) = 4 by decide, decide_false, if_false, or_true, if_true] at h
        rw [e5]
        cases nt
        · simp only [bne_self_eq_false, Bool.false_eq_true, if_false] at h
          rw [sum_eval r l false [] hos h]
          unfold want
          simp only [Bool.false_eq_true, if_false]
          rw [(listE_one 1 2 _ (by decide) (by decide) (by decide)).1, evalL_eq, List.mem_map]
          simp [trueN]
        · simp only [Bool.false_bne, if_true] at h
          rw [prod_eval r l true [[]] hos h]
          unfold want
          simp only [if_true]
          rw [(listE_one 1 2 _ (by decide) (by decide) (by decide)).2, all_two]
          simp [trueN]
    · simp only [show ¬ (6 : Int) = 1 by decide, show ¬ (6 : Int) = 2 by decide, show ¬ (6 : Int) = 3 by decide, if_false, if_true] at h
      match l, hl1, hos, h with
      | [q], _, hos, h =>
        rw [nrmOne_one] at h
        have e : evalT r (.mk 6 c o v [q]) = otherT (evalT r q) := by rw [evalT, evalL, evalL]; simp
        unfold okEs at hos
        rw [nrm_eval r q (!nt) hos.1 h, e]
        cases nt
        · unfold want
          simp only [Bool.not_false, if_true, Bool.false_eq_true, if_false]
          rw [otherT_one]
        · unfold want
          simp only [Bool.not_true, if_true, Bool.false_eq_true, if_false]
          rw [otherT_two]
theorem sum_eval (r : List Vc) : ∀ (l : List Pt) (nt : Bool) (out : List (List Pt)) {a : List (List Pt)}, okEs r l → sumN l nt out = some a → (trueN r a ↔ trueN r out ∨ ∃ q ∈ l, evalT r q = want nt)
  | [], nt, out, a, hok, h => by unfold sumN at h; cases h; simp
  | q :: t, nt, out, a, hok, h => by
    unfold okEs at hok
    unfold sumN at h
    split at h
    · cases h
    · rename_i m hm
      split at h
      · cases h
      · rw [sum_eval r t nt (out ++ m) hok.2 h, trueN_append, nrm_eval r q nt hok.1 hm]
        simp only [List.mem_cons, exists_eq_or_imp, or_assoc]
theorem prod_eval (r : List Vc) : ∀ (l : List Pt) (nt : Bool) (out : List (List Pt)) {a : List (List Pt)}, okEs r l → prodN l nt out = some a → (trueN r a ↔ trueN r out ∧ ∀ q ∈ l, evalT r q = want nt)
  | [], nt, out, a, hok, h => by unfold prodN at h; cases h; simp
  | q :: t, nt, out, a, hok, h => by
    unfold okEs at hok
    unfold prodN at h
    split at h
    · cases h
    · rename_i m hm
      split at h
      · cases h
      · rename_i o2 ho2
        rw [prod_eval r t nt o2 hok.2 h, timesN_prod ho2, trueN_prod, nrm_eval r q nt hok.1 hm]
        simp only [List.mem_cons, forall_eq_or_imp, and_assoc]
end

/-- The form as a predicate. -/
theorem form_eval (r : List Vc) (a : List (List Pt)) : evalT r (.mk 5 0 0 zeroV (a.map fun x => .mk 4 0 0 zeroV x)) = 1 ↔ trueN r a := by
  have e5 : ∀ l, evalT r (.mk 5 0 0 zeroV l) = listE 1 2 (evalL r l) := fun l => by rw [evalT]; simp
  have e4 : ∀ l, evalT r (.mk 4 0 0 zeroV l) = listE 2 1 (evalL r l) := fun l => by rw [evalT]; simp
  rw [e5, (listE_one 1 2 _ (by decide) (by decide) (by decide)).1, evalL_eq, List.map_map, List.mem_map]
  unfold trueN
  constructor
  · rintro ⟨x, hx, h⟩
    refine ⟨x, hx, ?_⟩
    have h2 : evalT r (.mk 4 0 0 zeroV x) = 1 := h
    rw [e4, (listE_one 2 1 _ (by decide) (by decide) (by decide)).2, all_one] at h2
    exact h2
  · rintro ⟨x, hx, h⟩
    refine ⟨x, hx, ?_⟩
    show evalT r (.mk 4 0 0 zeroV x) = 1
    rw [e4, (listE_one 2 1 _ (by decide) (by decide) (by decide)).2, all_one]
    exact h
theorem norm_same (r : List Vc) (p : Pt) (hok : okE r p) {a : List (List Pt)} (h : nrm p false = some a) : evalT r (.mk 5 0 0 zeroV (a.map fun x => .mk 4 0 0 zeroV x)) = 1 ↔ evalT r p = 1 := by
  rw [form_eval, nrm_eval r p false hok h]
  rfl
theorem form_ok (r : List Vc) (p : Pt) (hok : okE r p) {a : List (List Pt)} {nt : Bool} (h : nrm p nt = some a) : okE r (.mk 5 0 0 zeroV (a.map fun x => .mk 4 0 0 zeroV x)) := by
  have hall := nrm_all (R := okE r) (Q := okE r) ⟨fun c o v l hr o' ho => ?_, fun c o v l hr => ⟨hr, ?_⟩⟩ (fun k c o v l hk hr q hq => ?_) p nt hok h
  · unfold okE
    refine .inr (.inr (.inr (.inl ⟨.inr rfl, okEs_of fun q hq => ?_⟩)))
    obtain ⟨x, hx, rfl⟩ := List.mem_map.1 hq
    unfold okE
    exact .inr (.inr (.inr (.inl ⟨.inl rfl, okEs_of fun t ht => hall x hx t ht⟩)))
  · unfold okE at hr ⊢
    rcases hr with h | ⟨_, h1, h2, h3, h4, h5⟩ | ⟨h, _⟩ | ⟨h, _⟩ | ⟨h, _⟩
    · omega
    · refine .inr (.inl ⟨rfl, h1, h2, ?_, ?_, h5⟩)
      · rcases ho with rfl | rfl
        · exact h3
        · exact (opN_range o h3 h4).1
      · rcases ho with rfl | rfl
        · exact h4
        · exact (opN_range o h3 h4).2
    · omega
    · omega
    · omega
  · unfold okE
    exact .inr (.inr (.inr (.inr ⟨rfl, rfl, by unfold okEs; exact ⟨hr, by unfold okEs; trivial⟩⟩)))
  · unfold okE at hr
    rcases hr with h | ⟨h, _⟩ | ⟨h, _⟩ | ⟨_, h⟩ | ⟨_, _, h⟩
    · omega
    · omega
    · omega
    · obtain ⟨i, hi, rfl⟩ := List.mem_iff_getElem.1 hq
      exact okEs_mem h (List.getElem?_eq_getElem hi)
    · obtain ⟨i, hi, rfl⟩ := List.mem_iff_getElem.1 hq
      exact okEs_mem h (List.getElem?_eq_getElem hi)

/-! The law's predicates. -/
theorem refC_cmpT {x v : Vc} (h1 : x.k = v.k) (h2 : x.k = 1 ∨ x.k = 2) : refC x v = cmpT x v := by
  unfold refC cmpT
  rcases h2 with h | h
  · rw [← h1, h]; simp
  · rw [← h1, h]; simp
theorem rowOf_k {cols : List Co} (h : ColsOk cols) (n : Int) {i : Nat} {x : Vc} (hx : (rowOf cols n)[i]? = some x) : ∃ c, cols[i]? = some c ∧ x.k = c.k := by
  rw [rowOf_at] at hx
  obtain ⟨c, hc, rfl⟩ := Option.map_eq_some_iff.1 hx
  exact ⟨c, hc, (eltOf_norm cols h n i c hc).2⟩
theorem leafOf_ok {cols : List Co} (h : ColsOk cols) (m n k : Int) : okE (rowOf cols m) (leafOf cols n k) := by
  have hl := colOf_lt cols h.ne n
  have hlen := rowOf_len cols m
  unfold leafOf
  split
  · unfold okE; exact .inl rfl
  · split
    · unfold okE; exact .inr (.inr (.inl ⟨rfl, by omega, by omega⟩))
    · unfold okE
      refine .inr (.inl ⟨rfl, by omega, by omega, by omega, by omega, fun x hx _ => ?_⟩)
      rw [Int.toNat_natCast] at hx
      obtain ⟨c, hc, hk⟩ := rowOf_k h m hx
      refine refC_cmpT (by rw [hk, cmpV_k h n hc]) ?_
      rw [hk]
      exact h.ks c (List.mem_of_getElem? hc)
theorem predOf_ok {cols : List Co} (h : ColsOk cols) (m : Int) (l : List Int) : ∀ (d at_ : Nat), okE (rowOf cols m) (predOf cols l d at_)
  | 0, at_ => by unfold predOf; exact leafOf_ok h m _ _
  | d + 1, at_ => by
    unfold predOf
    split
    · rename_i hk
      unfold okE
      refine .inr (.inr (.inr (.inl ⟨by omega, okEs_of fun q hq => ?_⟩)))
      obtain ⟨i, _, rfl⟩ := List.mem_map.1 hq
      exact predOf_ok h m l d _
    · split
      · unfold okE
        exact .inr (.inr (.inr (.inr ⟨rfl, rfl, by unfold okEs; exact ⟨predOf_ok h m l d _, by unfold okEs; trivial⟩⟩)))
      · exact leafOf_ok h m _ _

/-! Keys. -/
def IntKey (t : Pt) : Prop := match t with | .mk k c o v l => k = 2 → c = 0 → v.k = 1
mutual
/-- All that compares column 0 does so with a number. -/
def zeroK : Pt → Prop
  | .mk k c o v l => (k = 2 → c = 0 → v.k = 1) ∧ zeroKs l
def zeroKs : List Pt → Prop
  | [] => True
  | q :: t => zeroK q ∧ zeroKs t
end
theorem zeroKs_mem : ∀ {l : List Pt}, zeroKs l → ∀ q ∈ l, zeroK q
  | [], _, q, hq => by cases hq
  | p :: t, h, q, hq => by
    unfold zeroKs at h
    rcases List.mem_cons.1 hq with rfl | h1
    · exact h.1
    · exact zeroKs_mem h.2 q h1
theorem zeroKs_of : ∀ {l : List Pt}, (∀ q ∈ l, zeroK q) → zeroKs l
  | [], _ => by unfold zeroKs; trivial
  | p :: t, h => by unfold zeroKs; exact ⟨h p List.mem_cons_self, zeroKs_of fun q hq => h q (List.mem_cons_of_mem _ hq)⟩
theorem cmpV_zero {cols : List Co} (h : ColsOk cols) (n : Int) (h0 : colOf cols n = 0) : (cmpV cols n).k = 1 := by
  have hl := colOf_lt cols h.ne n
  have hc : cols[colOf cols n]? = some cols[colOf cols n] := List.getElem?_eq_getElem hl
  rw [cmpV_k h n hc]
  exact (h.hd _ (h0 ▸ hc)).1
theorem leafOf_zeroK {cols : List Co} (h : ColsOk cols) (n k : Int) : zeroK (leafOf cols n k) := by
  unfold leafOf
  split
  · unfold zeroK; exact ⟨fun h => by omega, by unfold zeroKs; trivial⟩
  · split
    · unfold zeroK; exact ⟨fun h => by omega, by unfold zeroKs; trivial⟩
    · unfold zeroK; exact ⟨fun _ h0 => cmpV_zero h n (by omega), by unfold zeroKs; trivial⟩
theorem predOf_zeroK {cols : List Co} (h : ColsOk cols) (l : List Int) : ∀ (d at_ : Nat), zeroK (predOf cols l d at_)
  | 0, at_ => by unfold predOf; exact leafOf_zeroK h _ _
  | d + 1, at_ => by
    unfold predOf
    split
    · rename_i hk
      unfold zeroK
      refine ⟨fun h2 => by omega, zeroKs_of fun q hq => ?_⟩
      obtain ⟨i, _, rfl⟩ := List.mem_map.1 hq
      exact predOf_zeroK h l d _
    · split
      · unfold zeroK
        exact ⟨fun h2 => by omega, zeroKs_of fun q hq => by rw [List.mem_singleton.1 hq]; exact predOf_zeroK h l d _⟩
      · exact leafOf_zeroK h _ _
theorem key_same (r : List Vc) (p : Pt) (hok : okE r p) (hz : zeroK p) {key : Int} (hk : keyT p = some key) (hy : evalT r p = 1) {x : Vc} (hx : r[0]? = some x) (hxk : x.k = 1) : x.n = key := by
  unfold keyT at hk
  split at hk
  · rename_i y hn
    obtain ⟨t, ht, hv⟩ := Option.map_eq_some_iff.1 hk
    have htm : t ∈ y := List.mem_of_find?_eq_some ht
    have hkt := List.find?_some ht
    have h1 := ((trueN_one r y).1 ((nrm_eval r p false hok hn).2 hy)) t htm
    have hzk := nrm_all (R := zeroK) (Q := IntKey) ⟨fun c o v l hr o' _ => by unfold zeroK at hr; exact hr.1, fun c o v l hr => ⟨fun h => by omega, fun h => by omega⟩⟩ (fun k c o v l _ hr q hq => by unfold zeroK at hr; exact zeroKs_mem hr.2 q hq) p false hz hn y List.mem_cons_self t htm
    obtain ⟨k, c, o, v, l⟩ := t
    unfold isKeyT at hkt
    simp only [Bool.and_eq_true, beq_iff_eq] at hkt
    obtain ⟨⟨rfl, rfl⟩, rfl⟩ := hkt
    have hvk : v.k = 1 := hzk rfl rfl
    have hvn : v.n = key := hv
    rw [evalT] at h1
    simp only [show ¬ (2 : Int) = 1 by decide, if_false, if_true] at h1
    unfold cmpE colT at h1
    simp only [show ¬ (0 : Int) < 0 by decide, if_false, Int.toNat_zero, hx] at h1
    split at h1
    · omega
    · rename_i hu
      rw [verdB_one] at h1
      unfold holdsB at h1
      simp only [if_true, beq_iff_eq] at h1
      unfold cmpT at h1
      rw [if_neg hu] at h1
      split at h1
      · omega
      · rw [if_neg (by omega)] at h1
        rw [← hvn]
        exact (cmpZ_ok.eq _ _).1 h1
  · cases hk

end Go.Proofs.Ytnfjdoeemnhkbaa
