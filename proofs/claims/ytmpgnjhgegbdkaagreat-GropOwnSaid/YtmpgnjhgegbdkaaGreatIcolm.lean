import Derived.Test.YtmpgnjhgegbdkaaGreatZig
import Derived.Test.YtmpgnjhgegbdkaaGreatPlmath
import Derived.Test.YtmpgnjhgegbdkaaGreatCodg
set_option linter.unusedVariables false
set_option linter.unusedSimpArgs false
namespace Go.Proofs.YtmpgnjhgegbdkaaGreat
open _root_.List renaming mem_cons -> Qa, mem_cons_self -> Qb, mem_cons_of_mem -> Qc, mem_map -> Qd, append_assoc -> Qe, pairwise_cons -> Qf, getElem?_eq_some_iff -> Qg, replicate -> Qh, getElem?_eq_getElem -> Qi, foldl_cons -> Qj, getElem_mem -> Qk, getElem?_cons_succ -> Ql, getElem?_drop -> Qm, length_drop -> Qn, length_map -> Qp, length_append -> Qq, drop_eq_getElem_cons -> Qr, map_cons -> Qs, flatten_cons -> Qt, take_succ_eq_append_getElem -> Qu, getElem?_take -> Qv, length_take -> Qw, length_cons -> Qx, take_length -> Qz, drop_length -> Ja, all_eq_true -> Jb, map_map -> Jc, map_congr_left -> Jd, map_id' -> Je
open _root_.Nat renaming le_refl -> Qo, lt_or_ge -> Qy, le_total -> Jg
open _root_.Int renaming le_total -> Jf
def I64 (n : Int) : Prop := -9223372036854775808 <= n ∧ n <= 9223372036854775807
def zigN (n : Int) : Nat := if 0 <= n then (2 * n).toNat else (-2 * n - 1).toNat
theorem zI3 {n : Int} (h : I64 n) : zigN n < 18446744073709551616 := by
 unfold I64 at h
 unfold zigN
 split <;> omega
theorem zR3 (n : Int) : zagN (zigN n) = n := by
 unfold zagN zigN
 split <;> split <;> omega
theorem zR4 {u : Nat} (h : u < 18446744073709551616) : I64 (zagN u) := by
 unfold I64 zagN
 split <;> omega
def putT (n : Int) : List Nat := numC (zigN n)
theorem zBy (n : Int) : (putT n).length <= 10 ∧ 0 < (putT n).length := zA5 9 _
theorem zEk {n : Int} (h : I64 n) : ∀ x ∈ putT n, x < 256 := zCt _ (zI3 h)
def numR (left : List Nat) (bad : Bool) : Nat × List Nat × Bool := match nextC left with
 | some (u, n) => (u, left.drop n, bad)
 | none => (0, [], true)
def takeR (left : List Nat) (bad : Bool) : Int × List Nat × Bool := (zagN (numR left bad).1, (numR left bad).2)
theorem zEo (u : Nat) (rest : List Nat) (bad : Bool) (hu : u < 18446744073709551616) : numR (numC u ++ rest) bad = (u, rest, bad) := by
 unfold numR
 rw [zGv u rest hu]
 simp
theorem zB3 (n : Int) (rest : List Nat) (bad : Bool) (h : I64 n) : takeR (putT n ++ rest) bad = (n, rest, bad) := by
 unfold takeR putT
 rw [zEo _ _ _ (zI3 h), zR3]
def plainT (l : List Int) : List Nat := (l.map putT).flatten
theorem zFk (l : List Int) (n : Int) : plainT (l ++ [n]) = plainT l ++ putT n := by simp [plainT]
theorem zA3 (l : List Int) : (plainT l).length <= 10 * l.length := by
 induction l with
 | nil => simp [plainT]
 | cons x r ih =>
  have h1 := (zBy x).1
  simp [plainT] at ih ⊢
  omega
theorem zD0 {l : List Int} (h : ∀ n ∈ l, I64 n) : ∀ x ∈ plainT l, x < 256 := fun x hx => by
 obtain ⟨t, ht, hx2⟩ := List.mem_flatten.1 hx
 obtain ⟨n, hn, rfl⟩ := Qd.1 ht
 exact zEk (h n hn) x hx2
def rdPlain : Nat -> List Nat -> Bool -> List Int × List Nat × Bool
 | 0, left, bad => ([], left, bad)
 | k + 1, left, bad => ((rdPlain k left bad).1 ++ [(takeR (rdPlain k left bad).2.1 (rdPlain k left bad).2.2).1], (takeR (rdPlain k left bad).2.1 (rdPlain k left bad).2.2).2)
theorem zCx (left : List Nat) (bad : Bool) : ∀ k, (rdPlain k left bad).1.length = k
 | 0 => rfl
 | k + 1 => by rw [rdPlain, Qq, zCx left bad k]; rfl
theorem zCk (l : List Int) (rest : List Nat) (bad : Bool) (h : ∀ n ∈ l, I64 n) : ∀ k, k <= l.length -> rdPlain k (plainT l ++ rest) bad = (l.take k, plainT (l.drop k) ++ rest, bad)
 | 0, _ => rfl
 | k + 1, hk => by
  have ih := zCk l rest bad h k (by omega)
  have hd : l.drop k = l[k]'(by omega) :: l.drop (k + 1) := Qr (by omega)
  rw [rdPlain, ih]
  simp only
  rw [hd]
  have e : plainT (l[k]'(by omega) :: l.drop (k + 1)) ++ rest = putT (l[k]'(by omega)) ++ (plainT (l.drop (k + 1)) ++ rest) := by unfold plainT; rw [Qs, Qt, Qe]
  rw [e, zB3 _ _ _ (h _ (Qk _)), Qu (by omega)]
def wholeT (l : List Int) (left : List Nat) (bad : Bool) : Option (List Int) := if bad = false ∧ left = [] then some l else none
def grp : List Int -> List (Nat × Int)
 | [] => []
 | a :: r => match grp r with
  | [] => [(1, a)]
  | (n, b) :: t => if a = b then (n + 1, b) :: t else (1, a) :: (n, b) :: t
theorem zH2 (a : Int) (r : List Int) : ∃ n, 0 < n ∧ n <= r.length + 1 ∧ grp (a :: r) = (n, a) :: grp ((a :: r).drop n) ∧ (∀ j, j < n -> (a :: r)[j]? = some a) ∧ (a :: r)[n]? ≠ some a := by
 induction r generalizing a with
 | nil => exact ⟨1, by decide, by simp, rfl, fun j hj => by
   obtain rfl : j = 0 := by omega
   rfl, by simp⟩
 | cons b t ih =>
  obtain ⟨n, h1, h2, h3, h4, h5⟩ := ih b
  by_cases hab : a = b
  ·subst hab
   refine ⟨n + 1, by omega, by simp at h2 ⊢; omega, ?_, fun j hj => ?_, ?_⟩
   ·rw [grp, h3]
    simp
   ·cases j with
    | zero => rfl
    | succ j => rw [Ql]; exact h4 j (by omega)
   ·rw [Ql]; exact h5
  ·refine ⟨1, by decide, by simp, ?_, fun j hj => by
    obtain rfl : j = 0 := by omega
    rfl, ?_⟩
   ·rw [grp, h3]
    simp only [hab, if_false]
    rw [List.drop_succ_cons, List.drop_zero, h3]
   ·rw [Ql]
    simp
    exact fun e => hab e.symm
def runsT (l : List Int) : List Nat := ((grp l).map fun p => numC p.1 ++ putT p.2).flatten
theorem zB9 (l : List Int) (hl : 0 < l.length) : ∃ n a, 0 < n ∧ n <= l.length ∧ l.take n = Qh n a ∧ l[0]? = some a ∧ (∀ j, j < n -> l[j]? = some a) ∧ l[n]? ≠ some a ∧ runsT l = numC n ++ putT a ++ runsT (l.drop n) ∧ (0 < (l.drop n).length -> ∃ b, (l.drop n)[0]? = some b ∧ b ≠ a) := by
 cases l with
 | nil => simp at hl
 | cons a r =>
  obtain ⟨n, h1, h2, h3, h4, h5⟩ := zH2 a r
  refine ⟨n, a, h1, by simpa using h2, ?_, rfl, h4, h5, ?_, fun h0 => ?_⟩
  ·apply List.ext_getElem?
   intro j
   rw [Qv, List.getElem?_replicate]
   split
   ·exact h4 j (by assumption)
   ·rfl
  ·unfold runsT
   rw [h3]
   simp
  ·rw [Qm, Nat.add_zero]
   rw [Qn] at h0
   have hn : n < (a :: r).length := by omega
   refine ⟨(a :: r)[n], Qi hn, fun e => h5 ?_⟩
   rw [Qi hn, e]
theorem zD1 (l : List Int) : (runsT l).length <= 20 * l.length := by
 have hg : ∀ l : List Int, (grp l).length <= l.length := by
  intro l
  induction l with
  | nil => simp [grp]
  | cons a r ih =>
   rw [grp]
   cases hr : grp r with
   | nil => simp
   | cons p t =>
    rw [hr] at ih
    obtain ⟨n, b⟩ := p
    simp only
    split <;> simp at ih ⊢ <;> omega
 have h2 : ∀ g : List (Nat × Int), ((g.map fun p => numC p.1 ++ putT p.2).flatten).length <= 20 * g.length := by
  intro g
  induction g with
  | nil => simp
  | cons p t ih =>
   have h1 := (zA5 9 p.1).1
   have h3 := (zBy p.2).1
   simp [numC] at ih ⊢
   omega
 have := h2 (grp l)
 have := hg l
 unfold runsT
 omega
def lastIs (l : List Int) (v : Int) : Bool := l.getLast? == some v
def rdRuns : Nat -> Nat -> List Int -> List Nat -> Bool -> Option (List Int)
 | 0, count, l, left, bad => wholeT l left bad
 | f + 1, count, l, left, bad => if count <= l.length then wholeT l left bad else
  if (takeR (numR left bad).2.1 (numR left bad).2.2).2.2 = true ∨ (numR left bad).1 = 0 ∨ count - l.length < (numR left bad).1 ∨ lastIs l (takeR (numR left bad).2.1 (numR left bad).2.2).1 = true then none
  else rdRuns f count (l ++ Qh (numR left bad).1 (takeR (numR left bad).2.1 (numR left bad).2.2).1) (takeR (numR left bad).2.1 (numR left bad).2.2).2.1 (takeR (numR left bad).2.1 (numR left bad).2.2).2.2
theorem zBi (f count : Nat) (l : List Int) (left : List Nat) (bad : Bool) (h : count <= l.length) : rdRuns f count l left bad = wholeT l left bad := by
 cases f with
 | zero => rfl
 | succ f => rw [rdRuns, if_pos h]
theorem zCy : ∀ (f g count : Nat) (l : List Int) (left : List Nat) (bad : Bool), count - l.length <= f -> count - l.length <= g -> rdRuns f count l left bad = rdRuns g count l left bad
 | 0, g, count, l, left, bad, h, _ => by rw [zBi g count l left bad (by omega)]; rfl
 | f + 1, 0, count, l, left, bad, _, h => by rw [zBi (f + 1) count l left bad (by omega)]; rfl
 | f + 1, g + 1, count, l, left, bad, h1, h2 => by
  rw [rdRuns, rdRuns]
  split
  ·rfl
  ·split
   ·rfl
   ·rename_i h3 h4
    simp only [not_or] at h4
    refine zCy f g _ _ _ _ ?_ ?_ <;> (rw [Qq, List.length_replicate]; omega)
theorem zCz (all : List Int) (h : ∀ n ∈ all, I64 n) (hl : all.length <= 65535) : ∀ (f p : Nat), p <= all.length -> all.length - p <= f -> (p = 0 ∨ ∃ a, (all.take p).getLast? = some a ∧ all[p]? ≠ some a) -> rdRuns f all.length (all.take p) (runsT (all.drop p)) false = some all
 | 0, p, hp, hf, _ => by
  have e : p = all.length := by omega
  subst e
  simp [rdRuns, wholeT, runsT, grp]
 | f + 1, p, hp, hf, hq => by
  by_cases he : p = all.length
  ·subst he
   rw [zBi _ _ _ _ _ (by simp)]
   simp [wholeT, runsT, grp]
  ·obtain ⟨n, a, h1, h2, h3, h4, h5, h6, h7, h8⟩ := zB9 (all.drop p) (by rw [Qn]; omega)
   rw [Qn] at h2
   have hln : (all.take p).length = p := by rw [Qw]; omega
   have ha : all[p]? = some a := by rw [Qm] at h4; exact h4
   have hI : I64 a := h a (List.mem_of_getElem? ha)
   have e1 : numR (runsT (all.drop p)) false = (n, putT a ++ runsT ((all.drop p).drop n), false) := by
    rw [h7, Qe]
    exact zEo n _ false (by omega)
   have e2 : takeR (putT a ++ runsT ((all.drop p).drop n)) false = (a, runsT ((all.drop p).drop n), false) := zB3 a _ false hI
   have hlast : lastIs (all.take p) a = false := by
    unfold lastIs
    rw [beq_eq_false_iff_ne]
    intro hh
    rcases hq with rfl | ⟨b, hb, hne⟩
    ·simp at hh
    ·rw [hh] at hb
     cases hb
     exact hne ha
   rw [rdRuns, if_neg (by rw [hln]; omega), e1]
   simp only
   rw [e2]
   simp only
   rw [if_neg (by rw [hln, hlast]; simp; omega)]
   have e3 : all.take p ++ Qh n a = all.take (p + n) := by rw [List.take_add, h3]
   rw [e3, List.drop_drop]
   refine zCz all h hl f (p + n) (by omega) (by omega) (.inr ⟨a, ?_, ?_⟩)
   ·rw [<- e3, List.getLast?_append]
    have : (Qh n a).getLast? = some a := by rw [List.getLast?_replicate]; simp; omega
    rw [this]
    rfl
   ·intro hh
    apply h6
    rw [Qm]
    exact hh
def insU (x : Int) : List Int -> List Int
 | [] => [x]
 | y :: r => if x < y then x :: y :: r else if x = y then y :: r else y :: insU x r
theorem zC5 (x : Int) : ∀ (l : List Int) (z : Int), z ∈ insU x l ↔ z = x ∨ z ∈ l
 | [], z => by simp [insU]
 | y :: r, z => by
  rw [insU]
  split
  ·simp
  ·split
   ·rename_i h; subst h; simp
   ·rw [Qa, zC5 x r z, Qa]
    constructor
    ·rintro (h | h | h) <;> simp [h]
    ·rintro (h | h | h) <;> simp [h]
theorem zFu (x : Int) : ∀ (l : List Int), l.Pairwise (· < ·) -> (insU x l).Pairwise (· < ·)
 | [], _ => by simp [insU]
 | y :: r, h => by
  rw [insU]
  obtain ⟨h1, h2⟩ := Qf.1 h
  split
  ·rename_i hx
   refine Qf.2 ⟨fun z hz => ?_, h⟩
   rcases Qa.1 hz with rfl | hz
   ·exact hx
   ·exact Int.lt_trans hx (h1 z hz)
  ·split
   ·exact h
   ·refine Qf.2 ⟨fun z hz => ?_, zFu x r h2⟩
    rcases (zC5 x r z).1 hz with rfl | hz
    ·omega
    ·exact h1 z hz
def wordsT (l : List Int) : List Int := l.foldr insU []
theorem zBg (l : List Int) : (wordsT l).Pairwise (· < ·) := by
 induction l with
 | nil => exact List.Pairwise.nil
 | cons x r ih => exact zFu x _ ih
theorem zAx (l : List Int) (z : Int) : z ∈ wordsT l ↔ z ∈ l := by
 induction l with
 | nil => simp [wordsT]
 | cons x r ih =>
  have : wordsT (x :: r) = insU x (wordsT r) := rfl
  rw [this, zC5, ih, Qa]
theorem zEp (x : Int) : ∀ l : List Int, (insU x l).length <= l.length + 1
 | [] => by simp [insU]
 | y :: r => by
  rw [insU]
  have := zEp x r
  split
  ·simp
  ·split <;> simp <;> omega
theorem zA9 (l : List Int) : (wordsT l).length <= l.length := by
 induction l with
 | nil => simp [wordsT]
 | cons x r ih =>
  have h := zEp x (wordsT r)
  have : wordsT (x :: r) = insU x (wordsT r) := rfl
  rw [this, Qx]
  omega
theorem zGw : ∀ {a b : List Int}, a.Pairwise (· < ·) -> b.Pairwise (· < ·) -> (∀ z, z ∈ a ↔ z ∈ b) -> a = b
 | [], [], _, _, _ => rfl
 | [], y :: t, _, _, h => by have := (h y).2 Qb; simp at this
 | x :: r, [], _, _, h => by have := (h x).1 Qb; simp at this
 | x :: r, y :: t, ha, hb, h => by
  obtain ⟨a1, a2⟩ := Qf.1 ha
  obtain ⟨b1, b2⟩ := Qf.1 hb
  have e : x = y := by
   rcases Qa.1 ((h x).1 Qb) with h1 | h1
   ·exact h1
   ·rcases Qa.1 ((h y).2 Qb) with h2 | h2
    ·exact h2.symm
    ·have := b1 x h1; have := a1 y h2; omega
  subst e
  congr 1
  refine zGw a2 b2 fun z => ⟨fun hz => ?_, fun hz => ?_⟩
  ·rcases Qa.1 ((h z).1 (Qc _ hz)) with rfl | h2
   ·have := a1 z hz; omega
   ·exact h2
  ·rcases Qa.1 ((h z).2 (Qc _ hz)) with rfl | h2
   ·have := b1 z hz; omega
   ·exact h2
theorem zCa {l : List Int} (h : l.Pairwise (· < ·)) {i j : Nat} {a b : Int} (hij : i < j) (ha : l[i]? = some a) (hb : l[j]? = some b) : a < b := by
 obtain ⟨h1, rfl⟩ := Qg.1 ha
 obtain ⟨h2, rfl⟩ := Qg.1 hb
 exact List.pairwise_iff_getElem.1 h i j h1 h2 hij
def placeT (ws : List Int) (x : Int) : Nat := (ws.takeWhile fun y => decide (y < x)).length
theorem zCl : ∀ {ws : List Int} {x : Int} (p : Nat), p <= ws.length -> (∀ k y, k < p -> ws[k]? = some y -> y < x) -> (∀ k y, p <= k -> ws[k]? = some y -> x <= y) -> placeT ws x = p
 | [], x, p, hp, _, _ => by
   have : p = 0 := by simpa using hp
   subst this; rfl
 | y :: r, x, 0, _, _, h => by
  have := h 0 y (Qo _) rfl
  unfold placeT
  rw [List.takeWhile_cons_of_neg (by simp; omega)]
  rfl
 | y :: r, x, p + 1, hp, h1, h2 => by
  have h0 := h1 0 y (by omega) rfl
  unfold placeT
  rw [List.takeWhile_cons_of_pos (by simp; exact h0), Qx]
  congr 1
  exact zCl p (by simpa using hp) (fun k z hk hz => h1 (k + 1) z (by omega) hz) (fun k z hk hz => h2 (k + 1) z (by omega) hz)
theorem zCb {ws : List Int} (h : ws.Pairwise (· < ·)) {x : Int} (hx : x ∈ ws) : ws[placeT ws x]? = some x := by
 obtain ⟨p, hp⟩ := List.getElem?_of_mem hx
 have hl := (Qg.1 hp).1
 rw [zCl p (by omega) (fun k y hk hy => zCa h hk hy hp) (fun k y hk hy => by
  rcases Qy p k with h2 | h2
  ·have := zCa h h2 hp hy; omega
  ·have : k = p := by omega
   subst this
   rw [hp] at hy
   have := Option.some.inj hy
   omega)]
 exact hp
theorem zBh {ws : List Int} (h : ws.Pairwise (· < ·)) {x : Int} (hx : x ∈ ws) : placeT ws x < ws.length := (Qg.1 (zCb h hx)).1
theorem zGx {ws : List Int} (h : ws.Pairwise (· < ·)) {p : Nat} {x : Int} (hp : ws[p]? = some x) : placeT ws x = p := by
 have hl := (Qg.1 hp).1
 refine zCl p (by omega) (fun k y hk hy => zCa h hk hy hp) (fun k y hk hy => ?_)
 rcases Qy p k with h2 | h2
 ·have := zCa h h2 hp hy; omega
 ·have : k = p := by omega
  subst this
  rw [hp] at hy
  have := Option.some.inj hy
  omega
def dictT (l : List Int) : List Nat := numC (wordsT l).length ++ plainT (wordsT l) ++ packB (Lib.bitLen ((wordsT l).length - 1)) (l.map (placeT (wordsT l)))
def rdWords : Nat -> List Nat -> Bool -> Option (List Int × List Nat × Bool)
 | 0, left, bad => some ([], left, bad)
 | k + 1, left, bad => match rdWords k left bad with
  | none => none
  | some (ws, l1, b1) => if (takeR l1 b1).2.2 = true ∨ (∃ y, ws.getLast? = some y ∧ (takeR l1 b1).1 <= y) then none else some (ws ++ [(takeR l1 b1).1], (takeR l1 b1).2)
instance (ws : List Int) (v : Int) : Decidable (∃ y, ws.getLast? = some y ∧ v <= y) := match h : ws.getLast? with
 | none => .isFalse fun ⟨y, h1, _⟩ => by cases h1
 | some y => if hv : v <= y then .isTrue ⟨y, rfl, hv⟩ else .isFalse fun ⟨z, h1, h2⟩ => hv (by cases h1; exact h2)
def allUsedT (ps : List Nat) (n : Nat) : Bool := ps.all (fun p => decide (p < n)) && (List.range n).all fun w => ps.contains w
def rdDict (count : Nat) (left : List Nat) (bad : Bool) : Option (List Int) :=
 if count < (numR left bad).1 then none else match rdWords (numR left bad).1 (numR left bad).2.1 (numR left bad).2.2 with
 | none => none
 | some (ws, l2, b2) => if b2 = true then none else match unpackB l2 (Lib.bitLen (ws.length - 1) : Nat) (count : Int) with
  | none => none
  | some ps => if allUsedT ps ws.length = true then some (ps.map fun p => ws.getD p 0) else none
theorem zCm (ws : List Int) (rest : List Nat) (hu : ws.Pairwise (· < ·)) (h : ∀ n ∈ ws, I64 n) : ∀ k, k <= ws.length -> rdWords k (plainT ws ++ rest) false = some (ws.take k, plainT (ws.drop k) ++ rest, false)
 | 0, _ => rfl
 | k + 1, hk => by
  have ih := zCm ws rest hu h k (by omega)
  have hd : ws.drop k = ws[k]'(by omega) :: ws.drop (k + 1) := Qr (by omega)
  have e : plainT (ws[k]'(by omega) :: ws.drop (k + 1)) ++ rest = putT (ws[k]'(by omega)) ++ (plainT (ws.drop (k + 1)) ++ rest) := by unfold plainT; rw [Qs, Qt, Qe]
  rw [rdWords, ih]
  simp only
  rw [hd, e, zB3 _ _ _ (h _ (Qk _))]
  simp only
  rw [if_neg, Qu (by omega)]
  rintro (h1 | ⟨y, h1, h2⟩)
  ·cases h1
  ·have hk0 : 0 < k := by
    rcases Nat.eq_zero_or_pos k with h0 | h0
    ·subst h0; simp at h1
    ·exact h0
   rw [List.getLast?_eq_getElem?, Qw, Nat.min_eq_left (by omega), Qv, if_pos (by omega)] at h1
   have := zCa hu (show k - 1 < k by omega) h1 (Qi (by omega))
   omega
theorem bitLen_le (x : Nat) (hx : x < 18446744073709551616) : Lib.bitLen x <= 64 ∧ x < 2 ^ Lib.bitLen x := ⟨(bitLen_spec x hx).1, (bitLen_spec x hx).2.1⟩
theorem zFl (l : List Int) (hl : l.length <= 65535) (h : ∀ n ∈ l, I64 n) : rdDict l.length (dictT l) false = some l := by
 obtain ⟨ws, hws⟩ : ∃ ws, ws = wordsT l := ⟨_, rfl⟩
 have hu := zBg l
 have hm := zAx l
 have hwl := zA9 l
 rw [<- hws] at hu hm hwl
 have e0 : dictT l = numC ws.length ++ (plainT ws ++ packB (Lib.bitLen (ws.length - 1)) (l.map (placeT ws))) := by rw [dictT, <- hws, Qe]
 have e1 := zEo ws.length (plainT ws ++ packB (Lib.bitLen (ws.length - 1)) (l.map (placeT ws))) false (by omega)
 have e2 := zCm ws (packB (Lib.bitLen (ws.length - 1)) (l.map (placeT ws))) hu (fun n hn => h n ((hm n).1 hn)) ws.length (Qo _)
 rw [Qz, Ja] at e2
 obtain ⟨hb1, hb2⟩ := bitLen_le (ws.length - 1) (by omega)
 have e3 := unpack_pack (Lib.bitLen (ws.length - 1)) (l.map (placeT ws)) hb1 (by rw [Qp]; exact hl) (fun x hx => by
  obtain ⟨n, hn, rfl⟩ := Qd.1 hx
  have := zBh hu ((hm n).2 hn)
  omega)
 rw [Qp] at e3
 have e4 : allUsedT (l.map (placeT ws)) ws.length = true := by
  unfold allUsedT
  rw [Bool.and_eq_true, Jb, Jb]
  refine ⟨fun p hp => ?_, fun p hp => ?_⟩
  ·obtain ⟨n, hn, rfl⟩ := Qd.1 hp
   rw [decide_eq_true_iff]
   exact zBh hu ((hm n).2 hn)
  ·have hp2 := List.mem_range.1 hp
   rw [List.contains_iff_mem]
   refine Qd.2 ⟨ws[p], (hm _).1 (Qk _), zGx hu (Qi hp2)⟩
 unfold rdDict
 rw [e0, e1]
 simp only
 rw [if_neg (by omega), e2]
 simp only [plainT, List.map_nil, List.flatten_nil, List.nil_append]
 rw [e3]
 simp only
 rw [if_neg (by decide), if_pos e4, Jc]
 congr 1
 have : ∀ n ∈ l, ((fun p => ws.getD p 0) ∘ placeT ws) n = n := fun n hn => by
  show ws.getD (placeT ws n) 0 = n
  rw [List.getD_eq_getElem?_getD, zCb hu ((hm n).2 hn)]
  rfl
 rw [Jd this, Je]
theorem zO3 (r : List Int) : ∀ a, r.foldl min a <= a ∧ (∀ x ∈ r, r.foldl min a <= x) ∧ (r.foldl min a = a ∨ r.foldl min a ∈ r) := by
 induction r with
 | nil => intro a; simp
 | cons b t ih =>
  intro a
  obtain ⟨h1, h2, h3⟩ := ih (min a b)
  rw [Qj]
  refine ⟨by omega, fun x hx => ?_, ?_⟩
  ·rcases Qa.1 hx with rfl | hx
   ·omega
   ·exact h2 x hx
  ·rcases h3 with h3 | h3
   ·rcases Jf a b with h | h
    ·left; omega
    ·right; rw [h3, show min a b = b by omega]; exact Qb
   ·right; exact Qc _ h3
theorem zO4 (r : List Int) : ∀ a, a <= r.foldl max a ∧ (∀ x ∈ r, x <= r.foldl max a) ∧ (r.foldl max a = a ∨ r.foldl max a ∈ r) := by
 induction r with
 | nil => intro a; simp
 | cons b t ih =>
  intro a
  obtain ⟨h1, h2, h3⟩ := ih (max a b)
  rw [Qj]
  refine ⟨by omega, fun x hx => ?_, ?_⟩
  ·rcases Qa.1 hx with rfl | hx
   ·omega
   ·exact h2 x hx
  ·rcases h3 with h3 | h3
   ·rcases Jf a b with h | h
    ·right; rw [h3, show max a b = b by omega]; exact Qb
    ·left; omega
   ·right; exact Qc _ h3
theorem zNn (r : List Nat) : ∀ a, r.foldl min a <= a ∧ (∀ x ∈ r, r.foldl min a <= x) ∧ (r.foldl min a = a ∨ r.foldl min a ∈ r) := by
 induction r with
 | nil => intro a; simp
 | cons b t ih =>
  intro a
  obtain ⟨h1, h2, h3⟩ := ih (min a b)
  rw [Qj]
  refine ⟨by omega, fun x hx => ?_, ?_⟩
  ·rcases Qa.1 hx with rfl | hx
   ·omega
   ·exact h2 x hx
  ·rcases h3 with h3 | h3
   ·rcases Jg a b with h | h
    ·left; omega
    ·right; rw [h3, show min a b = b by omega]; exact Qb
   ·right; exact Qc _ h3
theorem zNo (r : List Nat) : ∀ a, a <= r.foldl max a ∧ (∀ x ∈ r, x <= r.foldl max a) ∧ (r.foldl max a = a ∨ r.foldl max a ∈ r) := by
 induction r with
 | nil => intro a; simp
 | cons b t ih =>
  intro a
  obtain ⟨h1, h2, h3⟩ := ih (max a b)
  rw [Qj]
  refine ⟨by omega, fun x hx => ?_, ?_⟩
  ·rcases Qa.1 hx with rfl | hx
   ·omega
   ·exact h2 x hx
  ·rcases h3 with h3 | h3
   ·rcases Jg a b with h | h
    ·right; rw [h3, show max a b = b by omega]; exact Qb
    ·left; omega
   ·right; exact Qc _ h3
def loT : List Int -> Int
 | [] => 0
 | a :: r => r.foldl min a
def hiT : List Int -> Int
 | [] => 0
 | a :: r => r.foldl max a
def loN : List Nat -> Nat
 | [] => 0
 | a :: r => r.foldl min a
def hiN : List Nat -> Nat
 | [] => 0
 | a :: r => r.foldl max a
theorem zKj {l : List Int} (hl : 0 < l.length) : (∀ x ∈ l, loT l <= x ∧ x <= hiT l) ∧ loT l ∈ l ∧ hiT l ∈ l := by
 cases l with
 | nil => simp at hl
 | cons a r =>
  obtain ⟨h1, h2, h3⟩ := zO3 r a
  obtain ⟨g1, g2, g3⟩ := zO4 r a
  refine ⟨fun x hx => ?_, ?_, ?_⟩
  ·rcases Qa.1 hx with rfl | hx
   ·exact ⟨h1, g1⟩
   ·exact ⟨h2 x hx, g2 x hx⟩
  ·rcases h3 with h | h
   ·show r.foldl min a ∈ _
    rw [h]; exact Qb
   ·exact Qc _ h
  ·rcases g3 with h | h
   ·show r.foldl max a ∈ _
    rw [h]; exact Qb
   ·exact Qc _ h
theorem zO5 {l : List Nat} (hl : 0 < l.length) : (∀ x ∈ l, loN l <= x ∧ x <= hiN l) ∧ loN l ∈ l ∧ hiN l ∈ l := by
 cases l with
 | nil => simp at hl
 | cons a r =>
  obtain ⟨h1, h2, h3⟩ := zNn r a
  obtain ⟨g1, g2, g3⟩ := zNo r a
  refine ⟨fun x hx => ?_, ?_, ?_⟩
  ·rcases Qa.1 hx with rfl | hx
   ·exact ⟨h1, g1⟩
   ·exact ⟨h2 x hx, g2 x hx⟩
  ·rcases h3 with h | h
   ·show r.foldl min a ∈ _
    rw [h]; exact Qb
   ·exact Qc _ h
  ·rcases g3 with h | h
   ·show r.foldl max a ∈ _
    rw [h]; exact Qb
   ·exact Qc _ h
def diffT (l : List Int) : List Nat := l.map fun n => (n - loT l).toNat
def widT (l : List Int) : Nat := Lib.bitLen (hiT l - loT l).toNat
def frameT (l : List Int) : List Nat := if l.length = 0 then [] else putT (loT l) ++ [widT l] ++ packB (widT l) (diffT l)
def rdFrame (count : Nat) (left : List Nat) (bad : Bool) : Option (List Int) :=
 if count = 0 then wholeT [] left bad else match (takeR left bad).2.1 with
 | [] => none
 | wd :: rest => match unpackB rest (wd : Nat) (count : Int) with
  | none => none
  | some us => if loN us ≠ 0 ∨ Lib.bitLen (hiN us) ≠ wd ∨ (9223372036854775807 - (takeR left bad).1) < (hiN us : Int) then none else some (us.map fun u : Nat => (takeR left bad).1 + (u : Int))
theorem zK1 (l : List Int) (hl : l.length <= 65535) (h : ∀ n ∈ l, I64 n) : rdFrame l.length (frameT l) false = some l := by
 unfold rdFrame frameT
 by_cases h0 : l.length = 0
 ·have : l = [] := List.length_eq_zero_iff.1 h0
  subst this
  rfl
 ·rw [if_neg h0, if_neg h0]
  obtain ⟨g1, g2, g3⟩ := zKj (l := l) (by omega)
  have hlo := h _ g2
  have hhi := h _ g3
  unfold I64 at hlo hhi
  have hd : ∀ x ∈ diffT l, x <= (hiT l - loT l).toNat := fun x hx => by
   obtain ⟨n, hn, rfl⟩ := Qd.1 hx
   have := g1 n hn
   omega
  have hlt : (hiT l - loT l).toNat < 18446744073709551616 := by omega
  obtain ⟨hb1, hb2⟩ := bitLen_le _ hlt
  have hdl : (diffT l).length = l.length := by rw [diffT, Qp]
  have e3 := unpack_pack (widT l) (diffT l) hb1 (by rw [hdl]; exact hl) (fun x hx => Nat.lt_of_le_of_lt (hd x hx) hb2)
  rw [hdl] at e3
  obtain ⟨k1, k2, k3⟩ := zO5 (l := diffT l) (by omega)
  have hl0 : loN (diffT l) = 0 := by
   have : 0 ∈ diffT l := Qd.2 ⟨loT l, g2, by omega⟩
   have := (k1 0 this).1
   omega
  have hh0 : hiN (diffT l) = (hiT l - loT l).toNat := by
   have h1 : (hiT l - loT l).toNat ∈ diffT l := Qd.2 ⟨hiT l, g3, rfl⟩
   have h2 := (k1 _ h1).2
   have h3 := hd _ k3
   omega
  rw [Qe, zB3 _ _ _ (h _ g2)]
  simp only [List.singleton_append]
  rw [e3]
  simp only
  rw [if_neg (by rw [hl0, hh0]; unfold widT; simp; have := (g1 _ g3).1; omega)]
  congr 1
  unfold diffT
  rw [Jc]
  have : ∀ n ∈ l, ((fun u : Nat => loT l + (u : Int)) ∘ fun n => (n - loT l).toNat) n = n := fun n hn => by
   have := (g1 n hn).1
   show loT l + ((n - loT l).toNat : Int) = n
   omega
  rw [Jd this, Je]
def kindT (k : Int) (l : List Int) : List Nat := if k = 1 then plainT l else if k = 2 then runsT l else if k = 3 then frameT l else dictT l
def tellT (k : Int) (l : List Int) : Option (List Nat) := if 65535 < l.length ∨ k < 1 ∨ 4 < k then none else some (k.toNat :: kindT k l)
def decT (bs : List Nat) (count : Int) : Option (List Int) :=
 match bs with
 | [] => none
 | k :: r => if count < 0 ∨ 65535 < count then none else
  if k = 1 then wholeT (rdPlain count.toNat r false).1 (rdPlain count.toNat r false).2.1 (rdPlain count.toNat r false).2.2
  else if k = 2 then rdRuns count.toNat count.toNat [] r false
  else if k = 3 then rdFrame count.toNat r false
  else if k = 4 then rdDict count.toNat r false
  else none
theorem zH3 (k : Int) (hk : 1 <= k ∧ k <= 4) (l : List Int) (hl : l.length <= 65535) (h : ∀ n ∈ l, I64 n) : decT (k.toNat :: kindT k l) (l.length : Int) = some l := by
 have hc : ¬ ((l.length : Int) < 0 ∨ 65535 < (l.length : Int)) := by omega
 unfold decT kindT
 simp only
 rw [if_neg hc, Int.toNat_natCast]
 rcases (by omega : k = 1 ∨ k = 2 ∨ k = 3 ∨ k = 4) with rfl | rfl | rfl | rfl
 ·have h1 := zCk l [] false h l.length (Qo _)
  rw [List.append_nil, Qz, Ja] at h1
  simp only [if_true, show ((1 : Int).toNat) = 1 from rfl]
  rw [h1]
  simp [wholeT, plainT]
 ·have h1 := zCz l h hl l.length 0 (Nat.zero_le _) (by omega) (.inl rfl)
  simpa using h1
 ·have h1 := zK1 l hl h
  simpa using h1
 ·have h1 := zFl l hl h
  simpa using h1
end Go.Proofs.YtmpgnjhgegbdkaaGreat
