/-
  Plain: columns of bytes as bytes: how each kind tells them, and what it reads of any bytes.
  Plain: dictionaries of bytes, and any column's bytes read.
  Plain: what a dictionary and each kind tells of bytes, is read again.
-/
import Derived.Test.YteloepccjoikdaaIcolm
import Derived.Test.YteloepccjoikdaaLsix
import Derived.Test.YteloepccjoikdaaCodg
namespace Go.Proofs.Yteloepccjoikdaa.Bc
set_option linter.unusedVariables false
set_option linter.unusedSimpArgs false

abbrev By := List Nat
def Fit (x : By) : Prop := (∀ a ∈ x, a < 256) ∧ x.length ≤ 64
def putT (x : By) : List Nat := bytesC x
theorem putT_len (x : By) (h : Fit x) : (putT x).length ≤ 74 ∧ 0 < (putT x).length := by
  obtain ⟨h1, h2⟩ := numF_len 9 x.length
  unfold putT bytesC numC
  rw [List.length_append]
  have := h.2
  omega
theorem putT_lt {x : By} (h : Fit x) : ∀ a ∈ putT x, a < 256 := bytesC_lt x h.1 (by have := h.2; omega)
def plainT (l : List By) : List Nat := (l.map putT).flatten
theorem plainT_lt {l : List By} (h : ∀ n ∈ l, Fit n) : ∀ x ∈ plainT l, x < 256 := fun x hx => by
  obtain ⟨t, ht, hx2⟩ := List.mem_flatten.1 hx
  obtain ⟨n, hn, rfl⟩ := List.mem_map.1 ht
  exact putT_lt (h n hn) x hx2
def grp : List By → List (Nat × By)
  | [] => []
  | a :: r => match grp r with
    | [] => [(1, a)]
    | (n, b) :: t => if a = b then (n + 1, b) :: t else (1, a) :: (n, b) :: t
theorem grp_step (a : By) (r : List By) : ∃ n, 0 < n ∧ n ≤ r.length + 1 ∧ grp (a :: r) = (n, a) :: grp ((a :: r).drop n) ∧ (∀ j, j < n → (a :: r)[j]? = some a) ∧ (a :: r)[n]? ≠ some a := by
  induction r generalizing a with
  | nil => exact ⟨1, by decide, by simp, rfl, fun j hj => by obtain rfl : j = 0 := by omega
                                                             rfl, by simp⟩
  | cons b t ih =>
    obtain ⟨n, h1, h2, h3, h4, h5⟩ := ih b
    by_cases hab : a = b
    · subst hab
      refine ⟨n + 1, by omega, by simp at h2 ⊢; omega, ?_, fun j hj => ?_, ?_⟩
      · rw [grp, h3]
        simp
      · cases j with
        | zero => rfl
        | succ j => rw [List.getElem?_cons_succ]; exact h4 j (by omega)
      · rw [List.getElem?_cons_succ]; exact h5
    · refine ⟨1, by decide, by simp, ?_, fun j hj => by obtain rfl : j = 0 := by omega
                                                        rfl, ?_⟩
      · rw [grp, h3]
        simp only [hab, if_false]
        rw [List.drop_succ_cons, List.drop_zero, h3]
      · rw [List.getElem?_cons_succ]
        simp
        exact fun e => hab e.symm
def runsT (l : List By) : List Nat := ((grp l).map fun p => numC p.1 ++ putT p.2).flatten
theorem runsT_step (l : List By) (hl : 0 < l.length) : ∃ n a, 0 < n ∧ n ≤ l.length ∧ l.take n = List.replicate n a ∧ l[0]? = some a ∧ (∀ j, j < n → l[j]? = some a) ∧ l[n]? ≠ some a ∧ runsT l = numC n ++ putT a ++ runsT (l.drop n) ∧ (0 < (l.drop n).length → ∃ b, (l.drop n)[0]? = some b ∧ b ≠ a) := by
  cases l with
  | nil => simp at hl
  | cons a r =>
    obtain ⟨n, h1, h2, h3, h4, h5⟩ := grp_step a r
    refine ⟨n, a, h1, by simpa using h2, ?_, rfl, h4, h5, ?_, fun h0 => ?_⟩
    · apply List.ext_getElem?
      intro j
      rw [List.getElem?_take, List.getElem?_replicate]
      split
      · exact h4 j (by assumption)
      · rfl
    · unfold runsT
      rw [h3]
      simp
    · rw [List.getElem?_drop, Nat.add_zero]
      rw [List.length_drop] at h0
      have hn : n < (a :: r).length := by omega
      refine ⟨(a :: r)[n], List.getElem?_eq_getElem hn, fun e => h5 ?_⟩
      rw [List.getElem?_eq_getElem hn, e]
end Go.Proofs.Yteloepccjoikdaa.Bc

namespace Go.Proofs.Yteloepccjoikdaa.Bc
set_option linter.unusedVariables false
set_option linter.unusedSimpArgs false

/-! The order of bytes. -/
theorem cmpB_ok : Cmp3 cmpB := lexL_ok cmpN_ok
def ltB (a b : By) : Prop := cmpB a b < 0
instance (a b : By) : Decidable (ltB a b) := inferInstanceAs (Decidable (_ < _))
theorem ltB_irr (a : By) : ¬ ltB a a := by
  unfold ltB
  have := (cmpB_ok.eq a a).2 rfl
  omega
theorem ltB_not {a b : By} (h : ltB a b) : ¬ ltB b a := by
  unfold ltB at *
  have := cmpB_ok.anti a b
  omega
theorem ltB_trans {a b c : By} (h : ltB a b) (k : ltB b c) : ltB a c := by
  unfold ltB at *
  have h1 := cmpB_ok.tr a b c (by omega) (by omega)
  rcases cmpB_ok.tri a c with h2 | h2 | h2
  · omega
  · have := (h1.2 h2).1; omega
  · omega
theorem ltB_or {a b : By} (h : ¬ a = b) : ltB a b ∨ ltB b a := by
  unfold ltB
  have h1 := cmpB_ok.anti a b
  rcases cmpB_ok.tri a b with h2 | h2 | h2
  · left; omega
  · exact absurd ((cmpB_ok.eq a b).1 h2) h
  · right; omega
def insU (x : By) : List By → List By
  | [] => [x]
  | y :: r => if ltB x y then x :: y :: r else if x = y then y :: r else y :: insU x r
theorem insU_mem (x : By) : ∀ (l : List By) (z : By), z ∈ insU x l ↔ z = x ∨ z ∈ l
  | [], z => by simp [insU]
  | y :: r, z => by
    rw [insU]
    split
    · simp
    · split
      · rename_i h; subst h; simp
      · rw [List.mem_cons, insU_mem x r z, List.mem_cons]
        constructor
        · rintro (h | h | h) <;> simp [h]
        · rintro (h | h | h) <;> simp [h]
theorem insU_up (x : By) : ∀ (l : List By), l.Pairwise ltB → (insU x l).Pairwise ltB
  | [], _ => by simp [insU]
  | y :: r, h => by
    rw [insU]
    obtain ⟨h1, h2⟩ := List.pairwise_cons.1 h
    split
    · rename_i hx
      refine List.pairwise_cons.2 ⟨fun z hz => ?_, h⟩
      rcases List.mem_cons.1 hz with rfl | hz
      · exact hx
      · exact ltB_trans hx (h1 z hz)
    · rename_i hx
      split
      · exact h
      · rename_i hne
        refine List.pairwise_cons.2 ⟨fun z hz => ?_, insU_up x r h2⟩
        rcases (insU_mem x r z).1 hz with rfl | hz
        · exact (ltB_or hne).resolve_left hx
        · exact h1 z hz
def wordsT (l : List By) : List By := l.foldr insU []
theorem wordsT_up (l : List By) : (wordsT l).Pairwise ltB := by
  induction l with
  | nil => exact List.Pairwise.nil
  | cons x r ih => exact insU_up x _ ih
theorem wordsT_mem (l : List By) (z : By) : z ∈ wordsT l ↔ z ∈ l := by
  induction l with
  | nil => simp [wordsT]
  | cons x r ih =>
    have : wordsT (x :: r) = insU x (wordsT r) := rfl
    rw [this, insU_mem, ih, List.mem_cons]
theorem insU_len (x : By) : ∀ l : List By, (insU x l).length ≤ l.length + 1
  | [] => by simp [insU]
  | y :: r => by
    rw [insU]
    have := insU_len x r
    split
    · simp
    · split <;> simp <;> omega
theorem wordsT_len (l : List By) : (wordsT l).length ≤ l.length := by
  induction l with
  | nil => simp [wordsT]
  | cons x r ih =>
    have h := insU_len x (wordsT r)
    have : wordsT (x :: r) = insU x (wordsT r) := rfl
    rw [this, List.length_cons]
    omega
theorem up_ext : ∀ {a b : List By}, a.Pairwise ltB → b.Pairwise ltB → (∀ z, z ∈ a ↔ z ∈ b) → a = b
  | [], [], _, _, _ => rfl
  | [], y :: t, _, _, h => by have := (h y).2 List.mem_cons_self; simp at this
  | x :: r, [], _, _, h => by have := (h x).1 List.mem_cons_self; simp at this
  | x :: r, y :: t, ha, hb, h => by
    obtain ⟨a1, a2⟩ := List.pairwise_cons.1 ha
    obtain ⟨b1, b2⟩ := List.pairwise_cons.1 hb
    have e : x = y := by
      rcases List.mem_cons.1 ((h x).1 List.mem_cons_self) with h1 | h1
      · exact h1
      · rcases List.mem_cons.1 ((h y).2 List.mem_cons_self) with h2 | h2
        · exact h2.symm
        · exact (ltB_not (b1 x h1) (a1 y h2)).elim
    subst e
    congr 1
    refine up_ext a2 b2 fun z => ⟨fun hz => ?_, fun hz => ?_⟩
    · rcases List.mem_cons.1 ((h z).1 (List.mem_cons_of_mem _ hz)) with rfl | h2
      · exact (ltB_irr _ (a1 z hz)).elim
      · exact h2
    · rcases List.mem_cons.1 ((h z).2 (List.mem_cons_of_mem _ hz)) with rfl | h2
      · exact (ltB_irr _ (b1 z hz)).elim
      · exact h2
theorem up_at {l : List By} (h : l.Pairwise ltB) {i j : Nat} {a b : By} (hij : i < j) (ha : l[i]? = some a) (hb : l[j]? = some b) : ltB a b := by
  obtain ⟨h1, rfl⟩ := List.getElem?_eq_some_iff.1 ha
  obtain ⟨h2, rfl⟩ := List.getElem?_eq_some_iff.1 hb
  exact List.pairwise_iff_getElem.1 h i j h1 h2 hij
def placeT (ws : List By) (x : By) : Nat := (ws.takeWhile fun y => decide (ltB y x)).length
theorem placeT_at : ∀ {ws : List By} {x : By} (p : Nat), p ≤ ws.length → (∀ k y, k < p → ws[k]? = some y → ltB y x) → (∀ k y, p ≤ k → ws[k]? = some y → ¬ ltB y x) → placeT ws x = p
  | [], x, p, hp, _, _ => by have : p = 0 := by simpa using hp
                             subst this; rfl
  | y :: r, x, 0, _, _, h => by
    have := h 0 y (Nat.le_refl _) rfl
    unfold placeT
    rw [List.takeWhile_cons_of_neg (by simpa using this)]
    rfl
  | y :: r, x, p + 1, hp, h1, h2 => by
    have h0 := h1 0 y (by omega) rfl
    unfold placeT
    rw [List.takeWhile_cons_of_pos (by simpa using h0), List.length_cons]
    congr 1
    exact placeT_at p (by simpa using hp) (fun k z hk hz => h1 (k + 1) z (by omega) hz) (fun k z hk hz => h2 (k + 1) z (by omega) hz)
theorem placeT_get {ws : List By} (h : ws.Pairwise ltB) {x : By} (hx : x ∈ ws) : ws[placeT ws x]? = some x := by
  obtain ⟨p, hp⟩ := List.getElem?_of_mem hx
  have hl := (List.getElem?_eq_some_iff.1 hp).1
  rw [placeT_at p (by omega) (fun k y hk hy => up_at h hk hy hp) (fun k y hk hy => by
    rcases Nat.lt_or_ge p k with h2 | h2
    · exact fun h3 => ltB_not (up_at h h2 hp hy) h3
    · have : k = p := by omega
      subst this
      rw [hp] at hy
      have := Option.some.inj hy
      subst this
      exact ltB_irr _)]
  exact hp
theorem placeT_lt {ws : List By} (h : ws.Pairwise ltB) {x : By} (hx : x ∈ ws) : placeT ws x < ws.length := (List.getElem?_eq_some_iff.1 (placeT_get h hx)).1
theorem place_inj {ws : List By} (h : ws.Pairwise ltB) {p : Nat} {x : By} (hp : ws[p]? = some x) : placeT ws x = p := by
  have hl := (List.getElem?_eq_some_iff.1 hp).1
  refine placeT_at p (by omega) (fun k y hk hy => up_at h hk hy hp) (fun k y hk hy => ?_)
  rcases Nat.lt_or_ge p k with h2 | h2
  · exact fun h3 => ltB_not (up_at h h2 hp hy) h3
  · have : k = p := by omega
    subst this
    rw [hp] at hy
    have := Option.some.inj hy
    subst this
    exact ltB_irr _

def dictT (l : List By) : List Nat := numC (wordsT l).length ++ plainT (wordsT l) ++ packB (Lib.bitLen ((wordsT l).length - 1)) (l.map (placeT (wordsT l)))
instance (ws : List By) (v : By) : Decidable (∃ y, ws.getLast? = some y ∧ ¬ ltB y v) := match h : ws.getLast? with
  | none => .isFalse fun ⟨y, h1, _⟩ => by cases h1
  | some y => if hv : ¬ ltB y v then .isTrue ⟨y, rfl, hv⟩ else .isFalse fun ⟨z, h1, h2⟩ => hv (by cases h1; exact h2)
end Go.Proofs.Yteloepccjoikdaa.Bc

namespace Go.Proofs.Yteloepccjoikdaa.Bc
set_option linter.unusedVariables false
set_option linter.unusedSimpArgs false

def kindT (k : Int) (l : List By) : List Nat := if k = 1 then plainT l else if k = 2 then runsT l else dictT l
end Go.Proofs.Yteloepccjoikdaa.Bc
