import Derived.Test.YtmpgnjhgegbdkaaGreatIcolm
import Derived.Test.YtmpgnjhgegbdkaaGreatLsix
import Derived.Test.YtmpgnjhgegbdkaaGreatCodg
set_option linter.unusedVariables false
set_option linter.unusedSimpArgs false
namespace Go.Proofs.YtmpgnjhgegbdkaaGreat.Bc
open _root_.List renaming mem_cons -> Qa, mem_cons_self -> Qb, mem_cons_of_mem -> Qc, append_assoc -> Qd, pairwise_cons -> Qe, getElem?_eq_some_iff -> Qf, length_append -> Qg, mem_map -> Qh, replicate -> Qi, getElem?_eq_getElem -> Qj, length_take -> Qk, getElem_mem -> Ql, getElem?_cons_succ -> Qm, getElem?_drop -> Qn, length_drop -> Qo, drop_left -> Qq, drop_drop -> Qr, mem_of_mem_drop -> Qs, drop_eq_getElem_cons -> Qt, map_cons -> Qu, flatten_cons -> Qv, take_succ_eq_append_getElem -> Qw, getElem?_take -> Qx, length_cons -> Qy, take_length -> Ja, drop_length -> Jb, length_map -> Jc, all_eq_true -> Jd
open _root_.Nat renaming le_refl -> Qp, lt_or_ge -> Qz
abbrev By := List Nat
def Fit (x : By) : Prop := (∀ a ∈ x, a < 256) ∧ x.length <= 64
def putT (x : By) : List Nat := bytesC x
theorem zBy (x : By) (h : Fit x) : (putT x).length <= 74 ∧ 0 < (putT x).length := by
 obtain ⟨h1, h2⟩ := zA5 9 x.length
 unfold putT bytesC numC
 rw [Qg]
 have := h.2
 omega
theorem zEk {x : By} (h : Fit x) : ∀ a ∈ putT x, a < 256 := zO2 x h.1 (by have := h.2; omega)
def takeR (left : List Nat) (bad : Bool) : By × List Nat × Bool := match nextC left with
 | none => ([], [], true)
 | some (u, n) => if 64 < u ∨ left.length < n + u then ([], [], true) else ((left.drop n).take u, left.drop (n + u), bad)
theorem zB3 (x : By) (rest : List Nat) (bad : Bool) (h : Fit x) : takeR (putT x ++ rest) bad = (x, rest, bad) := by
 have h2 := h.2
 unfold takeR putT bytesC
 rw [Qd, zGv x.length (x ++ rest) (by omega)]
 simp only [Qg]
 have e1 : (numC x.length ++ (x ++ rest)).drop (numC x.length).length = x ++ rest := Qq
 have e2 : (numC x.length ++ (x ++ rest)).drop ((numC x.length).length + x.length) = rest := by rw [<- Qr, e1, Qq]
 rw [if_neg (by omega), e1, e2, List.take_left]
theorem zJt (left : List Nat) (bad : Bool) (h : ∀ x ∈ left, x < 256) : Fit (takeR left bad).1 := by
 unfold takeR
 cases nextC left with
 | none => exact ⟨fun a ha => by simp at ha, by simp⟩
 | some p =>
  obtain ⟨u, n⟩ := p
  simp only
  split
  ·exact ⟨fun a ha => by simp at ha, by simp⟩
  ·refine ⟨fun a ha => h a (Qs (List.mem_of_mem_take ha)), ?_⟩
   rw [Qk]
   omega
theorem zB4 {left : List Nat} {bad : Bool} (h : ∀ x ∈ left, x < 256) : ∀ x ∈ (takeR left bad).2.1, x < 256 := by
 unfold takeR
 cases nextC left with
 | none => exact fun x hx => by simp at hx
 | some p =>
  obtain ⟨u, n⟩ := p
  simp only
  split
  ·exact fun x hx => by simp at hx
  ·exact fun x hx => h x (Qs hx)
theorem zB5 (left : List Nat) (bad : Bool) : (takeR left bad).2.1.length <= left.length := by
 unfold takeR
 cases nextC left with
 | none => simp
 | some p =>
  obtain ⟨u, n⟩ := p
  simp only
  split <;> simp
def plainT (l : List By) : List Nat := (l.map putT).flatten
theorem zFk (l : List By) (n : By) : plainT (l ++ [n]) = plainT l ++ putT n := by simp [plainT]
theorem zA3 (l : List By) (h : ∀ x ∈ l, Fit x) : (plainT l).length <= 74 * l.length := by
 induction l with
 | nil => simp [plainT]
 | cons x r ih =>
  have h1 := (zBy x (h x Qb)).1
  have h2 := ih fun y hy => h y (Qc _ hy)
  simp [plainT] at h2 ⊢
  omega
theorem zD0 {l : List By} (h : ∀ n ∈ l, Fit n) : ∀ x ∈ plainT l, x < 256 := fun x hx => by
 obtain ⟨t, ht, hx2⟩ := List.mem_flatten.1 hx
 obtain ⟨n, hn, rfl⟩ := Qh.1 ht
 exact zEk (h n hn) x hx2
def rdPlain : Nat -> List Nat -> Bool -> List By × List Nat × Bool
 | 0, left, bad => ([], left, bad)
 | k + 1, left, bad => ((rdPlain k left bad).1 ++ [(takeR (rdPlain k left bad).2.1 (rdPlain k left bad).2.2).1], (takeR (rdPlain k left bad).2.1 (rdPlain k left bad).2.2).2)
theorem zCx (left : List Nat) (bad : Bool) : ∀ k, (rdPlain k left bad).1.length = k
 | 0 => rfl
 | k + 1 => by rw [rdPlain, Qg, zCx left bad k]; rfl
theorem zCk (l : List By) (rest : List Nat) (bad : Bool) (h : ∀ n ∈ l, Fit n) : ∀ k, k <= l.length -> rdPlain k (plainT l ++ rest) bad = (l.take k, plainT (l.drop k) ++ rest, bad)
 | 0, _ => rfl
 | k + 1, hk => by
  have ih := zCk l rest bad h k (by omega)
  have hd : l.drop k = l[k]'(by omega) :: l.drop (k + 1) := Qt (by omega)
  rw [rdPlain, ih]
  simp only
  rw [hd]
  have e : plainT (l[k]'(by omega) :: l.drop (k + 1)) ++ rest = putT (l[k]'(by omega)) ++ (plainT (l.drop (k + 1)) ++ rest) := by unfold plainT; rw [Qu, Qv, Qd]
  rw [e, zB3 _ _ _ (h _ (Ql _)), Qw (by omega)]
def wholeT (l : List By) (left : List Nat) (bad : Bool) : Option (List By) := if bad = false ∧ left = [] then some l else none
def grp : List By -> List (Nat × By)
 | [] => []
 | a :: r => match grp r with
  | [] => [(1, a)]
  | (n, b) :: t => if a = b then (n + 1, b) :: t else (1, a) :: (n, b) :: t
theorem zH2 (a : By) (r : List By) : ∃ n, 0 < n ∧ n <= r.length + 1 ∧ grp (a :: r) = (n, a) :: grp ((a :: r).drop n) ∧ (∀ j, j < n -> (a :: r)[j]? = some a) ∧ (a :: r)[n]? ≠ some a := by
 induction r generalizing a with
 | nil => exact ⟨1, by decide, by simp, rfl, fun j hj => by
   obtain rfl : j = 0 := by omega
   rfl, by simp⟩
 | cons b t ih =>
  obtain ⟨n, h1, h2, h3, h4, h5⟩ := ih b
  by_cases hab : a = b
  ·subst hab
   refine ⟨n + 1, by omega, by simp at h2 ⊢; omega, ?_, fun j hj => ?_, ?_⟩
   ·rw [grp, h3]
    simp
   ·cases j with
    | zero => rfl
    | succ j => rw [Qm]; exact h4 j (by omega)
   ·rw [Qm]; exact h5
  ·refine ⟨1, by decide, by simp, ?_, fun j hj => by
    obtain rfl : j = 0 := by omega
    rfl, ?_⟩
   ·rw [grp, h3]
    simp only [hab, if_false]
    rw [List.drop_succ_cons, List.drop_zero, h3]
   ·rw [Qm]
    simp
    exact fun e => hab e.symm
def runsT (l : List By) : List Nat := ((grp l).map fun p => numC p.1 ++ putT p.2).flatten
theorem zB9 (l : List By) (hl : 0 < l.length) : ∃ n a, 0 < n ∧ n <= l.length ∧ l.take n = Qi n a ∧ l[0]? = some a ∧ (∀ j, j < n -> l[j]? = some a) ∧ l[n]? ≠ some a ∧ runsT l = numC n ++ putT a ++ runsT (l.drop n) ∧ (0 < (l.drop n).length -> ∃ b, (l.drop n)[0]? = some b ∧ b ≠ a) := by
 cases l with
 | nil => simp at hl
 | cons a r =>
  obtain ⟨n, h1, h2, h3, h4, h5⟩ := zH2 a r
  refine ⟨n, a, h1, by simpa using h2, ?_, rfl, h4, h5, ?_, fun h0 => ?_⟩
  ·apply List.ext_getElem?
   intro j
   rw [Qx, List.getElem?_replicate]
   split
   ·exact h4 j (by assumption)
   ·rfl
  ·unfold runsT
   rw [h3]
   simp
  ·rw [Qn, Nat.add_zero]
   rw [Qo] at h0
   have hn : n < (a :: r).length := by omega
   refine ⟨(a :: r)[n], Qj hn, fun e => h5 ?_⟩
   rw [Qj hn, e]
theorem zD1 (l : List By) (h : ∀ x ∈ l, Fit x) : (runsT l).length <= 84 * l.length := by
 have hg : ∀ l : List By, (grp l).length <= l.length := by
  intro l
  induction l with
  | nil => simp [grp]
  | cons a r ih =>
   rw [grp]
   cases hr : grp r with
   | nil => simp
   | cons p t =>
    rw [hr] at ih
    obtain ⟨n, b⟩ := p
    simp only
    split <;> simp at ih ⊢ <;> omega
 have h2 : ∀ g : List (Nat × By), (∀ p ∈ g, Fit p.2) -> ((g.map fun p => numC p.1 ++ putT p.2).flatten).length <= 84 * g.length := by
  intro g
  induction g with
  | nil => simp
  | cons p t ih =>
   intro hg
   have h1 := (zA5 9 p.1).1
   have h3 := (zBy p.2 (hg p Qb)).1
   have h4 := ih fun q hq => hg q (Qc _ hq)
   simp [numC] at h4 ⊢
   omega
 have h5 : ∀ l : List By, ∀ p ∈ grp l, p.2 ∈ l := by
  intro l
  induction l with
  | nil => intro p hp; simp [grp] at hp
  | cons a r ih =>
   intro p hp
   rw [grp] at hp
   cases hr : grp r with
   | nil => rw [hr] at hp; simp at hp; subst hp; exact Qb
   | cons q t =>
    rw [hr] at hp ih
    obtain ⟨n, b⟩ := q
    simp only at hp
    split at hp
    ·rcases Qa.1 hp with rfl | hp
     ·exact Qc _ (ih (n, b) Qb)
     ·exact Qc _ (ih p (Qc _ hp))
    ·rcases Qa.1 hp with rfl | hp
     ·exact Qb
     ·exact Qc _ (ih p hp)
 have := h2 (grp l) fun p hp => h p.2 (h5 l p hp)
 have := hg l
 unfold runsT
 omega
def lastIs (l : List By) (v : By) : Bool := l.getLast? == some v
def rdRuns : Nat -> Nat -> List By -> List Nat -> Bool -> Option (List By)
 | 0, count, l, left, bad => wholeT l left bad
 | f + 1, count, l, left, bad => if count <= l.length then wholeT l left bad else
  if (takeR (numR left bad).2.1 (numR left bad).2.2).2.2 = true ∨ (numR left bad).1 = 0 ∨ count - l.length < (numR left bad).1 ∨ lastIs l (takeR (numR left bad).2.1 (numR left bad).2.2).1 = true then none
  else rdRuns f count (l ++ Qi (numR left bad).1 (takeR (numR left bad).2.1 (numR left bad).2.2).1) (takeR (numR left bad).2.1 (numR left bad).2.2).2.1 (takeR (numR left bad).2.1 (numR left bad).2.2).2.2
theorem zBi (f count : Nat) (l : List By) (left : List Nat) (bad : Bool) (h : count <= l.length) : rdRuns f count l left bad = wholeT l left bad := by
 cases f with
 | zero => rfl
 | succ f => rw [rdRuns, if_pos h]
theorem zCy : ∀ (f g count : Nat) (l : List By) (left : List Nat) (bad : Bool), count - l.length <= f -> count - l.length <= g -> rdRuns f count l left bad = rdRuns g count l left bad
 | 0, g, count, l, left, bad, h, _ => by rw [zBi g count l left bad (by omega)]; rfl
 | f + 1, 0, count, l, left, bad, _, h => by rw [zBi (f + 1) count l left bad (by omega)]; rfl
 | f + 1, g + 1, count, l, left, bad, h1, h2 => by
  rw [rdRuns, rdRuns]
  split
  ·rfl
  ·split
   ·rfl
   ·rename_i h3 h4
    simp only [not_or] at h4
    refine zCy f g _ _ _ _ ?_ ?_ <;> (rw [Qg, List.length_replicate]; omega)
theorem zCz (all : List By) (h : ∀ n ∈ all, Fit n) (hl : all.length <= 65535) : ∀ (f p : Nat), p <= all.length -> all.length - p <= f -> (p = 0 ∨ ∃ a, (all.take p).getLast? = some a ∧ all[p]? ≠ some a) -> rdRuns f all.length (all.take p) (runsT (all.drop p)) false = some all
 | 0, p, hp, hf, _ => by
  have e : p = all.length := by omega
  subst e
  simp [rdRuns, wholeT, runsT, grp]
 | f + 1, p, hp, hf, hq => by
  by_cases he : p = all.length
  ·subst he
   rw [zBi _ _ _ _ _ (by simp)]
   simp [wholeT, runsT, grp]
  ·obtain ⟨n, a, h1, h2, h3, h4, h5, h6, h7, h8⟩ := zB9 (all.drop p) (by rw [Qo]; omega)
   rw [Qo] at h2
   have hln : (all.take p).length = p := by rw [Qk]; omega
   have ha : all[p]? = some a := by rw [Qn] at h4; exact h4
   have hI : Fit a := h a (List.mem_of_getElem? ha)
   have e1 : numR (runsT (all.drop p)) false = (n, putT a ++ runsT ((all.drop p).drop n), false) := by
    rw [h7, Qd]
    exact zEo n _ false (by omega)
   have e2 : takeR (putT a ++ runsT ((all.drop p).drop n)) false = (a, runsT ((all.drop p).drop n), false) := zB3 a _ false hI
   have hlast : lastIs (all.take p) a = false := by
    unfold lastIs
    rw [beq_eq_false_iff_ne]
    intro hh
    rcases hq with rfl | ⟨b, hb, hne⟩
    ·simp at hh
    ·rw [hh] at hb
     cases hb
     exact hne ha
   rw [rdRuns, if_neg (by rw [hln]; omega), e1]
   simp only
   rw [e2]
   simp only
   rw [if_neg (by rw [hln, hlast]; simp; omega)]
   have e3 : all.take p ++ Qi n a = all.take (p + n) := by rw [List.take_add, h3]
   rw [e3, Qr]
   refine zCz all h hl f (p + n) (by omega) (by omega) (.inr ⟨a, ?_, ?_⟩)
   ·rw [<- e3, List.getLast?_append]
    have : (Qi n a).getLast? = some a := by rw [List.getLast?_replicate]; simp; omega
    rw [this]
    rfl
   ·intro hh
    apply h6
    rw [Qn]
    exact hh
theorem zS8 : Cmp3 cmpB := zR6 zR7
def ltB (a b : By) : Prop := cmpB a b < 0
instance (a b : By) : Decidable (ltB a b) := inferInstanceAs (Decidable (_ < _))
theorem zDu (a : By) : ¬ ltB a a := by
 unfold ltB
 have := (zS8.eq a a).2 rfl
 omega
theorem zF0 {a b : By} (h : ltB a b) : ¬ ltB b a := by
 unfold ltB at *
 have := zS8.anti a b
 omega
theorem zFb {a b c : By} (h : ltB a b) (k : ltB b c) : ltB a c := by
 unfold ltB at *
 have h1 := zS8.tr a b c (by omega) (by omega)
 rcases zS8.tri a c with h2 | h2 | h2
 ·omega
 ·have := (h1.2 h2).1; omega
 ·omega
theorem zIu {a b : By} (h : ¬ a = b) : ltB a b ∨ ltB b a := by
 unfold ltB
 have h1 := zS8.anti a b
 rcases zS8.tri a b with h2 | h2 | h2
 ·left; omega
 ·exact absurd ((zS8.eq a b).1 h2) h
 ·right; omega
theorem zLm {a b c : By} (h : ¬ ltB b a) (k : ltB b c) : ltB a c := by
 by_cases e : a = b
 ·subst e; exact k
 ·exact zFb ((zIu e).resolve_right h) k
theorem zPr {a b c : By} (h : ¬ ltB b a) (k : ¬ ltB c b) : ¬ ltB c a := fun hc => by
 by_cases e : a = b
 ·subst e; exact k hc
 ·exact k (zFb hc ((zIu e).resolve_right h))
def insU (x : By) : List By -> List By
 | [] => [x]
 | y :: r => if ltB x y then x :: y :: r else if x = y then y :: r else y :: insU x r
theorem zC5 (x : By) : ∀ (l : List By) (z : By), z ∈ insU x l ↔ z = x ∨ z ∈ l
 | [], z => by simp [insU]
 | y :: r, z => by
  rw [insU]
  split
  ·simp
  ·split
   ·rename_i h; subst h; simp
   ·rw [Qa, zC5 x r z, Qa]
    constructor
    ·rintro (h | h | h) <;> simp [h]
    ·rintro (h | h | h) <;> simp [h]
theorem zFu (x : By) : ∀ (l : List By), l.Pairwise ltB -> (insU x l).Pairwise ltB
 | [], _ => by simp [insU]
 | y :: r, h => by
  rw [insU]
  obtain ⟨h1, h2⟩ := Qe.1 h
  split
  ·rename_i hx
   refine Qe.2 ⟨fun z hz => ?_, h⟩
   rcases Qa.1 hz with rfl | hz
   ·exact hx
   ·exact zFb hx (h1 z hz)
  ·rename_i hx
   split
   ·exact h
   ·rename_i hne
    refine Qe.2 ⟨fun z hz => ?_, zFu x r h2⟩
    rcases (zC5 x r z).1 hz with rfl | hz
    ·exact (zIu hne).resolve_left hx
    ·exact h1 z hz
def wordsT (l : List By) : List By := l.foldr insU []
theorem zBg (l : List By) : (wordsT l).Pairwise ltB := by
 induction l with
 | nil => exact List.Pairwise.nil
 | cons x r ih => exact zFu x _ ih
theorem zAx (l : List By) (z : By) : z ∈ wordsT l ↔ z ∈ l := by
 induction l with
 | nil => simp [wordsT]
 | cons x r ih =>
  have : wordsT (x :: r) = insU x (wordsT r) := rfl
  rw [this, zC5, ih, Qa]
theorem zEp (x : By) : ∀ l : List By, (insU x l).length <= l.length + 1
 | [] => by simp [insU]
 | y :: r => by
  rw [insU]
  have := zEp x r
  split
  ·simp
  ·split <;> simp <;> omega
theorem zA9 (l : List By) : (wordsT l).length <= l.length := by
 induction l with
 | nil => simp [wordsT]
 | cons x r ih =>
  have h := zEp x (wordsT r)
  have : wordsT (x :: r) = insU x (wordsT r) := rfl
  rw [this, Qy]
  omega
theorem zGw : ∀ {a b : List By}, a.Pairwise ltB -> b.Pairwise ltB -> (∀ z, z ∈ a ↔ z ∈ b) -> a = b
 | [], [], _, _, _ => rfl
 | [], y :: t, _, _, h => by have := (h y).2 Qb; simp at this
 | x :: r, [], _, _, h => by have := (h x).1 Qb; simp at this
 | x :: r, y :: t, ha, hb, h => by
  obtain ⟨a1, a2⟩ := Qe.1 ha
  obtain ⟨b1, b2⟩ := Qe.1 hb
  have e : x = y := by
   rcases Qa.1 ((h x).1 Qb) with h1 | h1
   ·exact h1
   ·rcases Qa.1 ((h y).2 Qb) with h2 | h2
    ·exact h2.symm
    ·exact (zF0 (b1 x h1) (a1 y h2)).elim
  subst e
  congr 1
  refine zGw a2 b2 fun z => ⟨fun hz => ?_, fun hz => ?_⟩
  ·rcases Qa.1 ((h z).1 (Qc _ hz)) with rfl | h2
   ·exact (zDu _ (a1 z hz)).elim
   ·exact h2
  ·rcases Qa.1 ((h z).2 (Qc _ hz)) with rfl | h2
   ·exact (zDu _ (b1 z hz)).elim
   ·exact h2
theorem zCa {l : List By} (h : l.Pairwise ltB) {i j : Nat} {a b : By} (hij : i < j) (ha : l[i]? = some a) (hb : l[j]? = some b) : ltB a b := by
 obtain ⟨h1, rfl⟩ := Qf.1 ha
 obtain ⟨h2, rfl⟩ := Qf.1 hb
 exact List.pairwise_iff_getElem.1 h i j h1 h2 hij
def placeT (ws : List By) (x : By) : Nat := (ws.takeWhile fun y => decide (ltB y x)).length
theorem zCl : ∀ {ws : List By} {x : By} (p : Nat), p <= ws.length -> (∀ k y, k < p -> ws[k]? = some y -> ltB y x) -> (∀ k y, p <= k -> ws[k]? = some y -> ¬ ltB y x) -> placeT ws x = p
 | [], x, p, hp, _, _ => by
   have : p = 0 := by simpa using hp
   subst this; rfl
 | y :: r, x, 0, _, _, h => by
  have := h 0 y (Qp _) rfl
  unfold placeT
  rw [List.takeWhile_cons_of_neg (by simpa using this)]
  rfl
 | y :: r, x, p + 1, hp, h1, h2 => by
  have h0 := h1 0 y (by omega) rfl
  unfold placeT
  rw [List.takeWhile_cons_of_pos (by simpa using h0), Qy]
  congr 1
  exact zCl p (by simpa using hp) (fun k z hk hz => h1 (k + 1) z (by omega) hz) (fun k z hk hz => h2 (k + 1) z (by omega) hz)
theorem zCb {ws : List By} (h : ws.Pairwise ltB) {x : By} (hx : x ∈ ws) : ws[placeT ws x]? = some x := by
 obtain ⟨p, hp⟩ := List.getElem?_of_mem hx
 have hl := (Qf.1 hp).1
 rw [zCl p (by omega) (fun k y hk hy => zCa h hk hy hp) (fun k y hk hy => by
  rcases Qz p k with h2 | h2
  ·exact fun h3 => zF0 (zCa h h2 hp hy) h3
  ·have : k = p := by omega
   subst this
   rw [hp] at hy
   have := Option.some.inj hy
   subst this
   exact zDu _)]
 exact hp
theorem zBh {ws : List By} (h : ws.Pairwise ltB) {x : By} (hx : x ∈ ws) : placeT ws x < ws.length := (Qf.1 (zCb h hx)).1
theorem zGx {ws : List By} (h : ws.Pairwise ltB) {p : Nat} {x : By} (hp : ws[p]? = some x) : placeT ws x = p := by
 have hl := (Qf.1 hp).1
 refine zCl p (by omega) (fun k y hk hy => zCa h hk hy hp) (fun k y hk hy => ?_)
 rcases Qz p k with h2 | h2
 ·exact fun h3 => zF0 (zCa h h2 hp hy) h3
 ·have : k = p := by omega
  subst this
  rw [hp] at hy
  have := Option.some.inj hy
  subst this
  exact zDu _
def dictT (l : List By) : List Nat := numC (wordsT l).length ++ plainT (wordsT l) ++ packB (Lib.bitLen ((wordsT l).length - 1)) (l.map (placeT (wordsT l)))
def rdWords : Nat -> List Nat -> Bool -> Option (List By × List Nat × Bool)
 | 0, left, bad => some ([], left, bad)
 | k + 1, left, bad => match rdWords k left bad with
  | none => none
  | some (ws, l1, b1) => if (takeR l1 b1).2.2 = true ∨ (∃ y, ws.getLast? = some y ∧ ¬ ltB y (takeR l1 b1).1) then none else some (ws ++ [(takeR l1 b1).1], (takeR l1 b1).2)
instance (ws : List By) (v : By) : Decidable (∃ y, ws.getLast? = some y ∧ ¬ ltB y v) := match h : ws.getLast? with
 | none => .isFalse fun ⟨y, h1, _⟩ => by cases h1
 | some y => if hv : ¬ ltB y v then .isTrue ⟨y, rfl, hv⟩ else .isFalse fun ⟨z, h1, h2⟩ => hv (by cases h1; exact h2)
def rdDict (count : Nat) (left : List Nat) (bad : Bool) : Option (List By) :=
 if count < (numR left bad).1 then none else match rdWords (numR left bad).1 (numR left bad).2.1 (numR left bad).2.2 with
 | none => none
 | some (ws, l2, b2) => if b2 = true then none else match unpackB l2 (Lib.bitLen (ws.length - 1) : Nat) (count : Int) with
  | none => none
  | some ps => if allUsedT ps ws.length = true then some (ps.map fun p => ws.getD p []) else none
theorem zCm (ws : List By) (rest : List Nat) (hu : ws.Pairwise ltB) (h : ∀ n ∈ ws, Fit n) : ∀ k, k <= ws.length -> rdWords k (plainT ws ++ rest) false = some (ws.take k, plainT (ws.drop k) ++ rest, false)
 | 0, _ => rfl
 | k + 1, hk => by
  have ih := zCm ws rest hu h k (by omega)
  have hd : ws.drop k = ws[k]'(by omega) :: ws.drop (k + 1) := Qt (by omega)
  have e : plainT (ws[k]'(by omega) :: ws.drop (k + 1)) ++ rest = putT (ws[k]'(by omega)) ++ (plainT (ws.drop (k + 1)) ++ rest) := by unfold plainT; rw [Qu, Qv, Qd]
  rw [rdWords, ih]
  simp only
  rw [hd, e, zB3 _ _ _ (h _ (Ql _))]
  simp only
  rw [if_neg, Qw (by omega)]
  rintro (h1 | ⟨y, h1, h2⟩)
  ·cases h1
  ·have hk0 : 0 < k := by
    rcases Nat.eq_zero_or_pos k with h0 | h0
    ·subst h0; simp at h1
    ·exact h0
   rw [List.getLast?_eq_getElem?, Qk, Nat.min_eq_left (by omega), Qx, if_pos (by omega)] at h1
   exact h2 (zCa hu (show k - 1 < k by omega) h1 (Qj (by omega)))
theorem zFl (l : List By) (hl : l.length <= 65535) (h : ∀ n ∈ l, Fit n) : rdDict l.length (dictT l) false = some l := by
 obtain ⟨ws, hws⟩ : ∃ ws, ws = wordsT l := ⟨_, rfl⟩
 have hu := zBg l
 have hm := zAx l
 have hwl := zA9 l
 rw [<- hws] at hu hm hwl
 have e0 : dictT l = numC ws.length ++ (plainT ws ++ packB (Lib.bitLen (ws.length - 1)) (l.map (placeT ws))) := by rw [dictT, <- hws, Qd]
 have e1 := zEo ws.length (plainT ws ++ packB (Lib.bitLen (ws.length - 1)) (l.map (placeT ws))) false (by omega)
 have e2 := zCm ws (packB (Lib.bitLen (ws.length - 1)) (l.map (placeT ws))) hu (fun n hn => h n ((hm n).1 hn)) ws.length (Qp _)
 rw [Ja, Jb] at e2
 obtain ⟨hb1, hb2⟩ := bitLen_le (ws.length - 1) (by omega)
 have e3 := unpack_pack (Lib.bitLen (ws.length - 1)) (l.map (placeT ws)) hb1 (by rw [Jc]; exact hl) (fun x hx => by
  obtain ⟨n, hn, rfl⟩ := Qh.1 hx
  have := zBh hu ((hm n).2 hn)
  omega)
 rw [Jc] at e3
 have e4 : allUsedT (l.map (placeT ws)) ws.length = true := by
  unfold allUsedT
  rw [Bool.and_eq_true, Jd, Jd]
  refine ⟨fun p hp => ?_, fun p hp => ?_⟩
  ·obtain ⟨n, hn, rfl⟩ := Qh.1 hp
   rw [decide_eq_true_iff]
   exact zBh hu ((hm n).2 hn)
  ·have hp2 := List.mem_range.1 hp
   rw [List.contains_iff_mem]
   refine Qh.2 ⟨ws[p], (hm _).1 (Ql _), zGx hu (Qj hp2)⟩
 unfold rdDict
 rw [e0, e1]
 simp only
 rw [if_neg (by omega), e2]
 simp only [plainT, List.map_nil, List.flatten_nil, List.nil_append]
 rw [e3]
 simp only
 rw [if_neg (by decide), if_pos e4, List.map_map]
 congr 1
 have : ∀ n ∈ l, ((fun p => ws.getD p []) ∘ placeT ws) n = n := fun n hn => by
  show ws.getD (placeT ws n) [] = n
  rw [List.getD_eq_getElem?_getD, zCb hu ((hm n).2 hn)]
  rfl
 rw [List.map_congr_left this, List.map_id']
def kindT (k : Int) (l : List By) : List Nat := if k = 1 then plainT l else if k = 2 then runsT l else dictT l
def tellT (k : Int) (l : List By) : Option (List Nat) := if 65535 < l.length ∨ k < 1 ∨ 4 < k ∨ k = 3 ∨ l.any (fun x => decide (64 < x.length)) = true then none else some (k.toNat :: kindT k l)
def decT (bs : List Nat) (count : Int) : Option (List By) :=
 match bs with
 | [] => none
 | k :: r => if count < 0 ∨ 65535 < count then none else
  if k = 1 then wholeT (rdPlain count.toNat r false).1 (rdPlain count.toNat r false).2.1 (rdPlain count.toNat r false).2.2
  else if k = 2 then rdRuns count.toNat count.toNat [] r false
  else if k = 4 then rdDict count.toNat r false
  else none
theorem zH3 (k : Int) (hk : k = 1 ∨ k = 2 ∨ k = 4) (l : List By) (hl : l.length <= 65535) (h : ∀ n ∈ l, Fit n) : decT (k.toNat :: kindT k l) (l.length : Int) = some l := by
 have hc : ¬ ((l.length : Int) < 0 ∨ 65535 < (l.length : Int)) := by omega
 unfold decT kindT
 simp only
 rw [if_neg hc, Int.toNat_natCast]
 rcases hk with rfl | rfl | rfl
 ·have h1 := zCk l [] false h l.length (Qp _)
  rw [List.append_nil, Ja, Jb] at h1
  simp only [if_true, show ((1 : Int).toNat) = 1 from rfl]
  rw [h1]
  simp [wholeT, plainT]
 ·have h1 := zCz l h hl l.length 0 (Nat.zero_le _) (by omega) (.inl rfl)
  simpa using h1
 ·have h1 := zFl l hl h
  simpa using h1
end Go.Proofs.YtmpgnjhgegbdkaaGreat.Bc
