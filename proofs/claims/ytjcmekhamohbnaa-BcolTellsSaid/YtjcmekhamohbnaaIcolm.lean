/-
  Plain: columns of numbers as bytes: how each kind tells them, and what it reads of any bytes.
  Plain: dictionaries and frames of numbers, and any column's bytes read.
  Plain: what a dictionary, a frame, and each kind tells, is read again.
-/
import Derived.Test.YtjcmekhamohbnaaZig
import Derived.Test.YtjcmekhamohbnaaPlmath
import Derived.Test.YtjcmekhamohbnaaCodg
namespace Go.Proofs.Ytjcmekhamohbnaa
set_option linter.unusedVariables false
set_option linter.unusedSimpArgs false

def I64 (n : Int) : Prop := -9223372036854775808 ≤ n ∧ n ≤ 9223372036854775807
def zigN (n : Int) : Nat := if 0 ≤ n then (2 * n).toNat else (-2 * n - 1).toNat
theorem zigN_lt {n : Int} (h : I64 n) : zigN n < 18446744073709551616 := by
  unfold I64 at h
  unfold zigN
  split <;> omega
theorem zag_zig (n : Int) : zagN (zigN n) = n := by
  unfold zagN zigN
  split <;> split <;> omega
theorem zag_i64 {u : Nat} (h : u < 18446744073709551616) : I64 (zagN u) := by
  unfold I64 zagN
  split <;> omega
def putT (n : Int) : List Nat := numC (zigN n)
theorem putT_len (n : Int) : (putT n).length ≤ 10 ∧ 0 < (putT n).length := numF_len 9 _
theorem putT_lt {n : Int} (h : I64 n) : ∀ x ∈ putT n, x < 256 := numC_lt _ (zigN_lt h)
def numR (left : List Nat) (bad : Bool) : Nat × List Nat × Bool := match nextC left with
  | some (u, n) => (u, left.drop n, bad)
  | none => (0, [], true)
theorem numR_num (u : Nat) (rest : List Nat) (bad : Bool) (hu : u < 18446744073709551616) : numR (numC u ++ rest) bad = (u, rest, bad) := by
  unfold numR
  rw [nextC_num u rest hu]
  simp
def plainT (l : List Int) : List Nat := (l.map putT).flatten
theorem plainT_lt {l : List Int} (h : ∀ n ∈ l, I64 n) : ∀ x ∈ plainT l, x < 256 := fun x hx => by
  obtain ⟨t, ht, hx2⟩ := List.mem_flatten.1 hx
  obtain ⟨n, hn, rfl⟩ := List.mem_map.1 ht
  exact putT_lt (h n hn) x hx2
def grp : List Int → List (Nat × Int)
  | [] => []
  | a :: r => match grp r with
    | [] => [(1, a)]
    | (n, b) :: t => if a = b then (n + 1, b) :: t else (1, a) :: (n, b) :: t
theorem grp_step (a : Int) (r : List Int) : ∃ n, 0 < n ∧ n ≤ r.length + 1 ∧ grp (a :: r) = (n, a) :: grp ((a :: r).drop n) ∧ (∀ j, j < n → (a :: r)[j]? = some a) ∧ (a :: r)[n]? ≠ some a := by
  induction r generalizing a with
  | nil => exact ⟨1, by decide, by simp, rfl, fun j hj => by obtain rfl : j = 0 := by omega
                                                             rfl, by simp⟩
  | cons b t ih =>
    obtain ⟨n, h1, h2, h3, h4, h5⟩ := ih b
    by_cases hab : a = b
    · subst hab
      refine ⟨n + 1, by omega, by simp at h2 ⊢; omega, ?_, fun j hj => ?_, ?_⟩
      · rw [grp, h3]
        simp
      · cases j with
        | zero => rfl
        | succ j => rw [List.getElem?_cons_succ]; exact h4 j (by omega)
      · rw [List.getElem?_cons_succ]; exact h5
    · refine ⟨1, by decide, by simp, ?_, fun j hj => by obtain rfl : j = 0 := by omega
                                                        rfl, ?_⟩
      · rw [grp, h3]
        simp only [hab, if_false]
        rw [List.drop_succ_cons, List.drop_zero, h3]
      · rw [List.getElem?_cons_succ]
        simp
        exact fun e => hab e.symm
def runsT (l : List Int) : List Nat := ((grp l).map fun p => numC p.1 ++ putT p.2).flatten
theorem runsT_step (l : List Int) (hl : 0 < l.length) : ∃ n a, 0 < n ∧ n ≤ l.length ∧ l.take n = List.replicate n a ∧ l[0]? = some a ∧ (∀ j, j < n → l[j]? = some a) ∧ l[n]? ≠ some a ∧ runsT l = numC n ++ putT a ++ runsT (l.drop n) ∧ (0 < (l.drop n).length → ∃ b, (l.drop n)[0]? = some b ∧ b ≠ a) := by
  cases l with
  | nil => simp at hl
  | cons a r =>
    obtain ⟨n, h1, h2, h3, h4, h5⟩ := grp_step a r
    refine ⟨n, a, h1, by simpa using h2, ?_, rfl, h4, h5, ?_, fun h0 => ?_⟩
    · apply List.ext_getElem?
      intro j
      rw [List.getElem?_take, List.getElem?_replicate]
      split
      · exact h4 j (by assumption)
      · rfl
    · unfold runsT
      rw [h3]
      simp
    · rw [List.getElem?_drop, Nat.add_zero]
      rw [List.length_drop] at h0
      have hn : n < (a :: r).length := by omega
      refine ⟨(a :: r)[n], List.getElem?_eq_getElem hn, fun e => h5 ?_⟩
      rw [List.getElem?_eq_getElem hn, e]
end Go.Proofs.Ytjcmekhamohbnaa

namespace Go.Proofs.Ytjcmekhamohbnaa
set_option linter.unusedVariables false
set_option linter.unusedSimpArgs false

/-! Words: the unlike numbers, rising. -/
def insU (x : Int) : List Int → List Int
  | [] => [x]
  | y :: r => if x < y then x :: y :: r else if x = y then y :: r else y :: insU x r
theorem insU_mem (x : Int) : ∀ (l : List Int) (z : Int), z ∈ insU x l ↔ z = x ∨ z ∈ l
  | [], z => by simp [insU]
  | y :: r, z => by
    rw [insU]
    split
    · simp
    · split
      · rename_i h; subst h; simp
      · rw [List.mem_cons, insU_mem x r z, List.mem_cons]
        constructor
        · rintro (h | h | h) <;> simp [h]
        · rintro (h | h | h) <;> simp [h]
theorem insU_up (x : Int) : ∀ (l : List Int), l.Pairwise (· < ·) → (insU x l).Pairwise (· < ·)
  | [], _ => by simp [insU]
  | y :: r, h => by
    rw [insU]
    obtain ⟨h1, h2⟩ := List.pairwise_cons.1 h
    split
    · rename_i hx
      refine List.pairwise_cons.2 ⟨fun z hz => ?_, h⟩
      rcases List.mem_cons.1 hz with rfl | hz
      · exact hx
      · exact Int.lt_trans hx (h1 z hz)
    · split
      · exact h
      · refine List.pairwise_cons.2 ⟨fun z hz => ?_, insU_up x r h2⟩
        rcases (insU_mem x r z).1 hz with rfl | hz
        · omega
        · exact h1 z hz
def wordsT (l : List Int) : List Int := l.foldr insU []
theorem wordsT_up (l : List Int) : (wordsT l).Pairwise (· < ·) := by
  induction l with
  | nil => exact List.Pairwise.nil
  | cons x r ih => exact insU_up x _ ih
theorem wordsT_mem (l : List Int) (z : Int) : z ∈ wordsT l ↔ z ∈ l := by
  induction l with
  | nil => simp [wordsT]
  | cons x r ih =>
    have : wordsT (x :: r) = insU x (wordsT r) := rfl
    rw [this, insU_mem, ih, List.mem_cons]
theorem insU_len (x : Int) : ∀ l : List Int, (insU x l).length ≤ l.length + 1
  | [] => by simp [insU]
  | y :: r => by
    rw [insU]
    have := insU_len x r
    split
    · simp
    · split <;> simp <;> omega
theorem wordsT_len (l : List Int) : (wordsT l).length ≤ l.length := by
  induction l with
  | nil => simp [wordsT]
  | cons x r ih =>
    have h := insU_len x (wordsT r)
    have : wordsT (x :: r) = insU x (wordsT r) := rfl
    rw [this, List.length_cons]
    omega
def placeT (ws : List Int) (x : Int) : Nat := (ws.takeWhile fun y => decide (y < x)).length
def dictT (l : List Int) : List Nat := numC (wordsT l).length ++ plainT (wordsT l) ++ packB (Lib.bitLen ((wordsT l).length - 1)) (l.map (placeT (wordsT l)))
instance (ws : List Int) (v : Int) : Decidable (∃ y, ws.getLast? = some y ∧ v ≤ y) := match h : ws.getLast? with
  | none => .isFalse fun ⟨y, h1, _⟩ => by cases h1
  | some y => if hv : v ≤ y then .isTrue ⟨y, rfl, hv⟩ else .isFalse fun ⟨z, h1, h2⟩ => hv (by cases h1; exact h2)
def allUsedT (ps : List Nat) (n : Nat) : Bool := ps.all (fun p => decide (p < n)) && (List.range n).all fun w => ps.contains w
end Go.Proofs.Ytjcmekhamohbnaa

namespace Go.Proofs.Ytjcmekhamohbnaa
set_option linter.unusedVariables false
set_option linter.unusedSimpArgs false

theorem bitLen_le (x : Nat) (hx : x < 18446744073709551616) : Lib.bitLen x ≤ 64 ∧ x < 2 ^ Lib.bitLen x := ⟨(bitLen_spec x hx).1, (bitLen_spec x hx).2.1⟩
theorem foldl_min (r : List Int) : ∀ a, r.foldl min a ≤ a ∧ (∀ x ∈ r, r.foldl min a ≤ x) ∧ (r.foldl min a = a ∨ r.foldl min a ∈ r) := by
  induction r with
  | nil => intro a; simp
  | cons b t ih =>
    intro a
    obtain ⟨h1, h2, h3⟩ := ih (min a b)
    rw [List.foldl_cons]
    refine ⟨by omega, fun x hx => ?_, ?_⟩
    · rcases List.mem_cons.1 hx with rfl | hx
      · omega
      · exact h2 x hx
    · rcases h3 with h3 | h3
      · rcases Int.le_total a b with h | h
        · left; omega
        · right; rw [h3, show min a b = b by omega]; exact List.mem_cons_self
      · right; exact List.mem_cons_of_mem _ h3
theorem foldl_max (r : List Int) : ∀ a, a ≤ r.foldl max a ∧ (∀ x ∈ r, x ≤ r.foldl max a) ∧ (r.foldl max a = a ∨ r.foldl max a ∈ r) := by
  induction r with
  | nil => intro a; simp
  | cons b t ih =>
    intro a
    obtain ⟨h1, h2, h3⟩ := ih (max a b)
    rw [List.foldl_cons]
    refine ⟨by omega, fun x hx => ?_, ?_⟩
    · rcases List.mem_cons.1 hx with rfl | hx
      · omega
      · exact h2 x hx
    · rcases h3 with h3 | h3
      · rcases Int.le_total a b with h | h
        · right; rw [h3, show max a b = b by omega]; exact List.mem_cons_self
        · left; omega
      · right; exact List.mem_cons_of_mem _ h3
def loT : List Int → Int
  | [] => 0
  | a :: r => r.foldl min a
def hiT : List Int → Int
  | [] => 0
  | a :: r => r.foldl max a
theorem lo_hi {l : List Int} (hl : 0 < l.length) : (∀ x ∈ l, loT l ≤ x ∧ x ≤ hiT l) ∧ loT l ∈ l ∧ hiT l ∈ l := by
  cases l with
  | nil => simp at hl
  | cons a r =>
    obtain ⟨h1, h2, h3⟩ := foldl_min r a
    obtain ⟨g1, g2, g3⟩ := foldl_max r a
    refine ⟨fun x hx => ?_, ?_, ?_⟩
    · rcases List.mem_cons.1 hx with rfl | hx
      · exact ⟨h1, g1⟩
      · exact ⟨h2 x hx, g2 x hx⟩
    · rcases h3 with h | h
      · show r.foldl min a ∈ _
        rw [h]; exact List.mem_cons_self
      · exact List.mem_cons_of_mem _ h
    · rcases g3 with h | h
      · show r.foldl max a ∈ _
        rw [h]; exact List.mem_cons_self
      · exact List.mem_cons_of_mem _ h
def diffT (l : List Int) : List Nat := l.map fun n => (n - loT l).toNat
def widT (l : List Int) : Nat := Lib.bitLen (hiT l - loT l).toNat
def frameT (l : List Int) : List Nat := if l.length = 0 then [] else putT (loT l) ++ [widT l] ++ packB (widT l) (diffT l)
def kindT (k : Int) (l : List Int) : List Nat := if k = 1 then plainT l else if k = 2 then runsT l else if k = 3 then frameT l else dictT l
end Go.Proofs.Ytjcmekhamohbnaa
