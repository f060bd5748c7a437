/-
  A region that draws its order: what the runner's one order leaves.
-/
import Derived.Test.YtlkjdclhgmkndaaCanonN
namespace Go.Proofs.Ytlkjdclhgmkndaa.Canon
set_option linter.unusedVariables false
set_option linter.unusedSimpArgs false
open Go.RowKit

/-- What became of one operation: 0 passed by; 1 no memory; 2 it reads; 3 it stands in a row with all that touch memory. -/
structure Rec where
  kind : Nat
  v : Value
  i : St
  o : St
  rd : Option (Addr × Nat × List Value)

noncomputable def tmSel (R : Nat → Rec) (sel : Nat → Bool) : List Oper → Nat → List Value → List Value
  | [], _, tm => tm
  | o :: r, k, tm => tmSel R sel r (k + 1) (bif sel k then putT tm o.dst (R k).v else tm)

theorem bif_not {α : Type} {b : Bool} {x : Option α} {v : α} (h : (bif b then none else x) = some v) : b = false ∧ x = some v := by
  cases b
  · exact ⟨rfl, h⟩
  · cases h
theorem bif_true {b x : Bool} (h : (bif b then x else false) = true) : b = true ∧ x = true := by
  cases b
  · cases h
  · exact ⟨rfl, h⟩
theorem bif_or {α : Type} {b : Bool} {x y v : α} (h : (bif b then x else y) = v) : (b = true ∧ x = v) ∨ (b = false ∧ y = v) := by
  cases b
  · exact .inr ⟨rfl, h⟩
  · exact .inl ⟨rfl, h⟩

/-- A row stands as an operation left it. -/
def own (r : Rec) (p : Nat) : Prop := (r.o.mw ≤ p ∨ r.i.next ≤ p) ∧ p < r.o.next ∧ r.o.heap.get p ≠ none
noncomputable def ov (r : Rec) (p : Nat) (rest : Option AObj) : Option AObj :=
  if (r.o.mw ≤ p ∨ r.i.next ≤ p) ∧ p < r.o.next then (match r.o.heap.get p with | some x => some x | none => rest) else rest
theorem ov_own {r : Rec} {p : Nat} {rest : Option AObj} (h : own r p) : ov r p rest = r.o.heap.get p := by
  unfold ov
  rw [if_pos ⟨h.1, h.2.1⟩]
  obtain ⟨x, hx⟩ := Option.ne_none_iff_exists'.1 h.2.2
  rw [hx]
theorem ov_not {r : Rec} {p : Nat} {rest : Option AObj} (h : ¬own r p) : ov r p rest = rest := by
  unfold ov
  split
  · rename_i h1
    cases hx : r.o.heap.get p with
    | none => rfl
    | some x => exact absurd ⟨h1.1, h1.2, by rw [hx]; simp⟩ h
  · rfl

/-- Memory, with what some of the operations that read left. -/
noncomputable def selTo (R : Nat → Rec) (H0 : Nat → Option AObj) (sel : Nat → Bool) : Nat → Nat → Option AObj
  | 0, p => H0 p
  | k + 1, p => if (R k).kind = 2 ∧ sel k = true then ov (R k) p (selTo R H0 sel k p) else selTo R H0 sel k p

theorem selTo_congr {R : Nat → Rec} {H0 : Nat → Option AObj} {sel sel' : Nat → Bool} : ∀ (k p : Nat), (∀ j, j < k → (R j).kind = 2 → own (R j) p → sel j = sel' j) → selTo R H0 sel k p = selTo R H0 sel' k p
  | 0, p, _ => rfl
  | k + 1, p, h => by
    have ih := selTo_congr (R := R) (H0 := H0) (sel := sel) (sel' := sel') k p fun j hj => h j (by omega)
    unfold selTo
    by_cases h2 : (R k).kind = 2
    · by_cases ho : own (R k) p
      · rw [h k (by omega) h2 ho, ih]
      · rw [ov_not ho, ov_not ho, ih]; simp
    · rw [if_neg (fun h => h2 h.1), if_neg (fun h => h2 h.1), ih]

theorem selTo_R {R R' : Nat → Rec} {H0 : Nat → Option AObj} {sel : Nat → Bool} : ∀ (k p : Nat), (∀ j, j < k → R' j = R j) → selTo R' H0 sel k p = selTo R H0 sel k p
  | 0, p, _ => rfl
  | k + 1, p, h => by
    unfold selTo
    rw [h k (by omega), selTo_R k p fun j hj => h j (by omega)]

/-- None of those behind k are taken. -/
theorem selTo_cut {R : Nat → Rec} {H0 : Nat → Option AObj} {sel : Nat → Bool} {k : Nat} (p : Nat) : ∀ n, k ≤ n → (∀ j, k ≤ j → j < n → (R j).kind = 2 → own (R j) p → sel j = false) → selTo R H0 sel n p = selTo R H0 sel k p
  | 0, h, _ => by rw [show k = 0 by omega]
  | n + 1, h, hs => by
    by_cases hk : k = n + 1
    · rw [hk]
    · have ih := selTo_cut (R := R) (H0 := H0) (sel := sel) (k := k) p n (by omega) fun j h1 h2 => hs j h1 (by omega)
      rw [← ih]
      show (if (R n).kind = 2 ∧ sel n = true then ov (R n) p (selTo R H0 sel n p) else selTo R H0 sel n p) = _
      by_cases h2 : (R n).kind = 2
      · by_cases ho : own (R n) p
        · rw [hs n (by omega) (by omega) h2 ho]; simp
        · rw [ov_not ho]; simp
      · rw [if_neg (fun h => h2 h.1)]

/-- The last one that left it. -/
theorem selTo_last {R : Nat → Rec} {H0 : Nat → Option AObj} {sel : Nat → Bool} {k n p : Nat} (hk : k < n) (h2 : (R k).kind = 2) (hs : sel k = true) (ho : own (R k) p)
    (hl : ∀ j, k < j → j < n → (R j).kind = 2 → own (R j) p → sel j = false) : selTo R H0 sel n p = (R k).o.heap.get p := by
  rw [selTo_cut (k := k + 1) p n (by omega) (fun j h1 h3 => hl j (by omega) h3)]
  show (if (R k).kind = 2 ∧ sel k = true then ov (R k) p (selTo R H0 sel k p) else selTo R H0 sel k p) = _
  rw [if_pos ⟨h2, hs⟩, ov_own ho]

/-- Where a row comes of. -/
theorem selTo_of {R : Nat → Rec} {H0 : Nat → Option AObj} {sel : Nat → Bool} : ∀ (k p : Nat), selTo R H0 sel k p = H0 p ∨ ∃ j, j < k ∧ (R j).kind = 2 ∧ sel j = true ∧ own (R j) p
  | 0, p => .inl rfl
  | k + 1, p => by
    show (if (R k).kind = 2 ∧ sel k = true then ov (R k) p (selTo R H0 sel k p) else selTo R H0 sel k p) = H0 p ∨ _
    have up : (selTo R H0 sel k p = H0 p ∨ ∃ j, j < k ∧ (R j).kind = 2 ∧ sel j = true ∧ own (R j) p) → selTo R H0 sel k p = H0 p ∨ ∃ j, j < k + 1 ∧ (R j).kind = 2 ∧ sel j = true ∧ own (R j) p := by
      rintro (h | ⟨j, h1, h2⟩)
      · exact .inl h
      · exact .inr ⟨j, by omega, h2⟩
    by_cases h2 : (R k).kind = 2 ∧ sel k = true
    · rw [if_pos h2]
      by_cases ho : own (R k) p
      · exact .inr ⟨k, by omega, h2.1, h2.2, ho⟩
      · rw [ov_not ho]; exact up (selTo_of k p)
    · rw [if_neg h2]; exact up (selTo_of k p)

noncomputable def fullTo (R : Nat → Rec) (H0 : Nat → Option AObj) : Nat → Nat → Option AObj
  | 0 => H0
  | k + 1 => if (R k).kind = 2 then (fun o => ov (R k) o (fullTo R H0 k o))
      else if (R k).kind = 3 then (R k).o.heap.get else fullTo R H0 k

theorem fullTo_congr {R R' : Nat → Rec} {H0 : Nat → Option AObj} : ∀ k, (∀ j, j < k → R' j = R j) → fullTo R' H0 k = fullTo R H0 k
  | 0, _ => rfl
  | k + 1, h => by
    unfold fullTo
    rw [h k (by omega), fullTo_congr k fun j hj => h j (by omega)]

theorem fullTo_sel {R : Nat → Rec} {H0 : Nat → Option AObj} : ∀ (k p : Nat), (∀ j, j < k → (R j).kind ≠ 3) → fullTo R H0 k p = selTo R H0 (fun _ => true) k p
  | 0, p, _ => rfl
  | k + 1, p, h => by
    have ih := fullTo_sel (R := R) (H0 := H0) k p fun j hj => h j (by omega)
    unfold fullTo selTo
    by_cases h2 : (R k).kind = 2
    · rw [if_pos h2, if_pos ⟨h2, rfl⟩, ih]
    · rw [if_neg h2, if_neg (h k (by omega)), if_neg (fun h => h2 h.1), ih]

theorem tmSel_congr {R R' : Nat → Rec} {sel : Nat → Bool} : ∀ (ops : List Oper) (k : Nat) (tm : List Value), (∀ j, sel j = true → R' j = R j) → tmSel R' sel ops k tm = tmSel R sel ops k tm
  | [], k, tm, h => rfl
  | o :: r, k, tm, h => by
    unfold tmSel
    rw [tmSel_congr r (k + 1) _ h]
    cases hk : sel k with
    | false => rfl
    | true => rw [h k hk]

theorem putT_len (tm : List Value) (d : Option Tmp) (v : Value) : (putT tm d v).length = tm.length := by
  cases d <;> simp [putT, setNth_eq]

theorem tmSel_none {R : Nat → Rec} {sel : Nat → Bool} : ∀ (ops : List Oper) (k : Nat) (tm : List Value), (∀ j, k ≤ j → sel j = false) → tmSel R sel ops k tm = tm
  | [], k, tm, h => rfl
  | o :: r, k, tm, h => by
    unfold tmSel
    rw [h k (Nat.le_refl _), cond_false, tmSel_none r (k + 1) tm fun j hj => h j (by omega)]

/-- Selections that agree on those who write t, agree at t. -/
theorem tmSel_at {R : Nat → Rec} {sel sel' : Nat → Bool} {t : Nat} : ∀ (ops : List Oper) (k : Nat) (tm tm' : List Value), tm[t]? = tm'[t]? →
    (∀ j o, ops[j]? = some o → o.dst = some t → sel (k + j) = sel' (k + j)) → (tmSel R sel ops k tm)[t]? = (tmSel R sel' ops k tm')[t]?
  | [], k, tm, tm', h, _ => h
  | o :: r, k, tm, tm', h, hs => by
    unfold tmSel
    refine tmSel_at r (k + 1) _ _ ?_ fun j o' hj hd => by have := hs (j + 1) o' (by simpa using hj) hd; rwa [show k + (j + 1) = k + 1 + j by omega] at this
    by_cases hd : o.dst = some t
    · have := hs 0 o rfl hd
      rw [Nat.add_zero] at this
      rw [this]
      cases sel' k with
      | false => exact h
      | true =>
        have hl : (t < tm.length) ↔ (t < tm'.length) := by
          constructor
          · intro h1; rcases Nat.lt_or_ge t tm'.length with h2 | h2
            · exact h2
            · rw [List.getElem?_eq_getElem h1, List.getElem?_eq_none h2] at h; cases h
          · intro h1; rcases Nat.lt_or_ge t tm.length with h2 | h2
            · exact h2
            · rw [List.getElem?_eq_getElem h1, List.getElem?_eq_none h2] at h; cases h
        simp only [cond_true, hd, putT, setNth_eq, List.getElem?_set, if_true]
        by_cases h1 : t < tm.length
        · rw [if_pos h1, if_pos (hl.1 h1)]
        · rw [if_neg h1, if_neg (fun h2 => h1 (hl.2 h2))]
    · have e1 : ∀ (b : Bool) (x : List Value), (bif b then putT x o.dst (R k).v else x)[t]? = x[t]? := by
        intro b x
        cases b with
        | false => rfl
        | true =>
          cases hdd : o.dst with
          | none => rfl
          | some d =>
            simp only [cond_true, putT, setNth_eq, List.getElem?_set]
            rw [if_neg (fun e => hd (by rw [hdd, e]))]
      rw [e1, e1]; exact h

/-- One more that writes t, none behind it: its value stands there. -/
theorem tmSel_put {R : Nat → Rec} {sel : Nat → Bool} {i t : Nat} {oi : Oper} : ∀ (ops : List Oper) (k : Nat) (tm : List Value), k ≤ i → ops[i - k]? = some oi →
    (∀ j o, ops[j]? = some o → i < k + j → o.dst = some t → oi.dst = some t → sel (k + j) = false) →
    (tmSel R (fun j => sel j || decide (j = i)) ops k tm)[t]? = (putT (tmSel R (fun j => sel j && !decide (j = i)) ops k tm) oi.dst (R i).v)[t]?
  | [], k, tm, hk, hi, _ => by simp at hi
  | o :: r, k, tm, hk, hi, hs => by
    by_cases hki : k = i
    · subst hki
      rw [Nat.sub_self] at hi
      simp only [List.getElem?_cons_zero, Option.some.injEq] at hi
      subst hi
      unfold tmSel
      simp only [decide_true, Bool.or_true, cond_true, Bool.not_true, Bool.and_false, cond_false]
      by_cases hd : o.dst = some t
      · have e1 : (tmSel R (fun j => sel j || decide (j = k)) r (k + 1) (putT tm o.dst (R k).v))[t]? = (putT tm o.dst (R k).v)[t]? := by
          have := tmSel_at (R := R) (sel := fun j => sel j || decide (j = k)) (sel' := fun _ => false) (t := t) r (k + 1) (putT tm o.dst (R k).v) (putT tm o.dst (R k).v) rfl fun j o' hj hd' => by
            have := hs (j + 1) o' (by simpa using hj) (by omega) hd' hd
            rw [show k + (j + 1) = k + 1 + j by omega] at this
            simp [this]; omega
          rw [this, tmSel_none _ _ _ fun _ _ => rfl]
        rw [e1, hd]
        simp only [putT, setNth_eq, List.getElem?_set, if_true]
        have hlen : ∀ (ops : List Oper) (k : Nat) (tm : List Value) (s : Nat → Bool), (tmSel R s ops k tm).length = tm.length := by
          intro ops
          induction ops with
          | nil => intro k tm s; rfl
          | cons o r ih => intro k tm s; unfold tmSel; rw [ih]; cases s k <;> simp [putT_len]
        rw [hlen]
      · have e2 : ∀ x : List Value, (putT x o.dst (R k).v)[t]? = x[t]? := by
          intro x
          cases hdd : o.dst with
          | none => rfl
          | some d =>
            simp only [putT, setNth_eq, List.getElem?_set]
            rw [if_neg (fun e => hd (by rw [hdd, e]))]
        rw [e2]
        refine tmSel_at r (k + 1) _ _ (e2 tm) fun j o' hj hd' => ?_
        have : ¬ k + 1 + j = k := by omega
        simp [this]
    · unfold tmSel
      have h1 : decide (k = i) = false := by simpa using hki
      simp only [h1, Bool.or_false, Bool.not_false, Bool.and_true]
      refine tmSel_put r (k + 1) _ (by omega) ?_ fun j o' hj hlt hd hd' => ?_
      · rw [show i - k = (i - (k + 1)) + 1 by omega] at hi
        simpa using hi
      · have := hs (j + 1) o' (by simpa using hj) (by omega) hd hd'
        rwa [show k + (j + 1) = k + 1 + j by omega] at this

theorem merge_get (n1 : Nat) (src : T AObj) (hn : n1 ≤ 4000000) : ∀ (f n0 : Nat) (t : T AObj) (o : Nat), n1 - n0 ≤ f →
    (merge n0 n1 src f t).get o = if n0 ≤ o ∧ o < n1 then (match src.get o with | some x => some x | none => t.get o) else t.get o
  | 0, n0, t, o, h => by
    unfold merge
    rw [if_neg (by omega)]
  | f + 1, n0, t, o, h => by
    unfold merge
    rw [nblt]
    by_cases hlt : n0 < n1
    · rw [decide_eq_true hlt, cond_true, merge_get n1 src hn f (n0 + 1) _ o (by omega)]
      have hset : (graft src t n0).get o = if o = n0 then (match src.get n0 with | some x => some x | none => t.get n0) else t.get o := by
        unfold graft
        split
        · rename_i x hx
          rw [get_set _ _ _ _ _ (by unfold deep; omega), hx]
        · rename_i hx
          rw [hx]
          split
          · rename_i e; rw [e]
          · rfl
      rw [hset]
      by_cases ho : o = n0
      · subst ho
        rw [if_neg (by omega), if_pos rfl, if_pos (by omega)]
      · rw [if_neg ho]
        by_cases h2 : n0 + 1 ≤ o ∧ o < n1
        · rw [if_pos h2, if_pos (by omega)]
        · rw [if_neg h2, if_neg (by omega)]
    · rw [decide_eq_false hlt, cond_false, if_neg (by omega)]

theorem lo_le {mw next p : Nat} : Nat.min mw next ≤ p ↔ (mw ≤ p ∨ next ≤ p) := by
  show min mw next ≤ p ↔ _
  omega

/-- What is seen of the rest: those that are waited for. -/
theorem putDelta_get {m : Nat} {d : Delta} {h : T AObj} (hd : d.hi ≤ 4000000) (p : Nat) :
    (putDelta m d h).get p = if Nat.testBit m d.at_ = true then (if d.lo ≤ p ∧ p < d.hi then (match d.out.get p with | some x => some x | none => h.get p) else h.get p) else h.get p := by
  unfold putDelta
  cases Nat.testBit m d.at_ with
  | false => simp
  | true => rw [cond_true, merge_get _ _ hd _ _ _ _ (Nat.le_refl _)]; simp

theorem disj_spec {a b : T AObj} : ∀ (f lo : Nat), disj a b lo f = true → ∀ p, lo ≤ p → p < lo + f → a.get p ≠ none → b.get p = none
  | 0, lo, _, p, h1, h2, _ => by omega
  | f + 1, lo, h, p, h1, h2, h3 => by
    unfold disj at h
    by_cases hp : p = lo
    · subst hp
      split at h
      · rename_i e; exact absurd e h3
      · split at h
        · assumption
        · cases h
    · split at h
      · exact disj_spec f (lo + 1) h p (by omega) (by omega) h3
      · split at h
        · exact disj_spec f (lo + 1) h p (by omega) (by omega) h3
        · cases h

theorem kept_spec {a b : T AObj} : ∀ (f lo : Nat), kept a b lo f = true → ∀ p, lo ≤ p → p < lo + f → (a.get p = none ↔ b.get p = none)
  | 0, lo, _, p, h1, h2 => by omega
  | f + 1, lo, h, p, h1, h2 => by
    unfold kept at h
    by_cases hp : p = lo
    · subst hp
      split at h
      · rename_i e1 e2; simp [e1, e2]
      · rename_i e1 e2; simp [e1, e2]
      · cases h
    · split at h
      · exact kept_spec f (lo + 1) h p (by omega) (by omega)
      · exact kept_spec f (lo + 1) h p (by omega) (by omega)
      · cases h
end Go.Proofs.Ytlkjdclhgmkndaa.Canon
