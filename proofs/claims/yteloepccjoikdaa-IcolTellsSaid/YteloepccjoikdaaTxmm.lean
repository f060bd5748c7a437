/-
  Plain: numbers as bytes that have their order; what the reference tells of such rows.
  Plain: what is read as a column is just what is told of it (numbers).
  Plain: what is read as runs is just what is told of them (numbers).
  Plain: what is read as a frame is just what is told of it (numbers).
-/
import Derived.Test.YteloepccjoikdaaBcolp
import Derived.Test.YteloepccjoikdaaRefeh
namespace Go.Proofs.Yteloepccjoikdaa.Bc
set_option linter.unusedVariables false
set_option linter.unusedSimpArgs false

def dig : Nat → Nat → By
  | 0, _ => []
  | k + 1, U => U / 256 ^ k % 256 :: dig k U
theorem dig_len (U : Nat) : ∀ k, (dig k U).length = k
  | 0 => rfl
  | k + 1 => by rw [dig, List.length_cons, dig_len U k]
theorem dig_lt (U : Nat) : ∀ k, ∀ x ∈ dig k U, x < 256
  | 0, x, h => by simp [dig] at h
  | k + 1, x, h => by
    rw [dig] at h
    rcases List.mem_cons.1 h with rfl | h
    · exact Nat.mod_lt _ (by decide)
    · exact dig_lt U k x h
theorem mod_pow_succ (a k : Nat) : a % 256 ^ (k + 1) = a / 256 ^ k % 256 * 256 ^ k + a % 256 ^ k := by
  rw [Nat.pow_succ, Nat.mod_mul, Nat.mul_comm]
  omega
theorem dig_cmp (a b : Nat) : ∀ k, cmpB (dig k a) (dig k b) = cmpN (a % 256 ^ k) (b % 256 ^ k)
  | 0 => by
    rw [Nat.pow_zero, Nat.mod_one, Nat.mod_one]
    rfl
  | k + 1 => by
    have ih := dig_cmp a b k
    have hp : 0 < 256 ^ k := Nat.pow_pos (by decide)
    have ha := Nat.mod_lt a hp
    have hb := Nat.mod_lt b hp
    rw [dig, dig]
    unfold cmpB at ih ⊢
    rw [lexL, ih, mod_pow_succ a k, mod_pow_succ b k]
    obtain ⟨A, hA⟩ : ∃ A, A = a / 256 ^ k % 256 := ⟨_, rfl⟩
    obtain ⟨B, hB⟩ : ∃ B, B = b / 256 ^ k % 256 := ⟨_, rfl⟩
    obtain ⟨P, hP⟩ : ∃ P, P = 256 ^ k := ⟨_, rfl⟩
    rw [← hA, ← hB, ← hP]
    rw [← hP] at ha hb
    unfold cmpN cmpZ
    rcases Nat.lt_trichotomy A B with h | h | h
    · have h1 : A * P + P ≤ B * P := by have := Nat.mul_le_mul_right P (show A + 1 ≤ B from h); rw [Nat.add_mul, Nat.one_mul] at this; exact this
      rw [if_pos (show (A : Int) < B by omega), if_neg (by decide), if_pos (by omega)]
    · subst h
      rw [if_neg (show ¬ (A : Int) < A by omega), if_neg (show ¬ (A : Int) < A by omega), if_pos rfl]
      by_cases h1 : a % P < b % P
      · have e1 : ((a % P : Nat) : Int) < ((b % P : Nat) : Int) := by omega
        have e2 : ((A * P + a % P : Nat) : Int) < ((A * P + b % P : Nat) : Int) := by omega
        rw [if_pos e1, if_pos e2]
      · have e1 : ¬ ((a % P : Nat) : Int) < ((b % P : Nat) : Int) := by omega
        have e2 : ¬ ((A * P + a % P : Nat) : Int) < ((A * P + b % P : Nat) : Int) := by omega
        rw [if_neg e1, if_neg e2]
        by_cases h2 : b % P < a % P
        · have e3 : ((b % P : Nat) : Int) < ((a % P : Nat) : Int) := by omega
          have e4 : ((A * P + b % P : Nat) : Int) < ((A * P + a % P : Nat) : Int) := by omega
          rw [if_pos e3, if_pos e4]
        · have e3 : ¬ ((b % P : Nat) : Int) < ((a % P : Nat) : Int) := by omega
          have e4 : ¬ ((A * P + b % P : Nat) : Int) < ((A * P + a % P : Nat) : Int) := by omega
          rw [if_neg e3, if_neg e4]
    · have h1 : B * P + P ≤ A * P := by have := Nat.mul_le_mul_right P (show B + 1 ≤ A from h); rw [Nat.add_mul, Nat.one_mul] at this; exact this
      rw [if_neg (show ¬ (A : Int) < B by omega), if_pos (show (B : Int) < A by omega), if_neg (by decide), if_neg (by omega), if_pos (by omega)]
def offN (n : Int) : Nat := (n + 9223372036854775808).toNat
theorem offN_lt {n : Int} (h : I64 n) : offN n < 256 ^ 8 := by
  unfold I64 at h
  unfold offN
  have : (256 : Nat) ^ 8 = 18446744073709551616 := by decide
  omega
def textT (n : Int) : By := dig 8 (offN n)
def num64 (x : By) : Int := ((x.foldl (fun u b => u * 256 + b) 0 : Nat) : Int) - 9223372036854775808
theorem textT_len (n : Int) : (textT n).length = 8 := dig_len _ _
theorem textT_lt (n : Int) : ∀ x ∈ textT n, x < 256 := dig_lt _ _
theorem dig_fold (U : Nat) : ∀ k (u : Nat), (dig k U).foldl (fun u b => u * 256 + b) u = u * 256 ^ k + U % 256 ^ k
  | 0, u => by rw [dig, Nat.pow_zero, Nat.mod_one]; simp
  | k + 1, u => by
    rw [dig, List.foldl_cons, dig_fold U k, mod_pow_succ, Nat.pow_succ, Nat.add_mul]
    have : u * 256 * 256 ^ k = u * (256 ^ k * 256) := by rw [Nat.mul_assoc, Nat.mul_comm 256]
    omega
theorem num64_text {n : Int} (h : I64 n) : num64 (textT n) = n := by
  unfold num64 textT
  rw [dig_fold, Nat.mod_eq_of_lt (offN_lt h)]
  unfold I64 at h
  unfold offN
  omega
theorem textT_inj {a b : Int} (ha : I64 a) (hb : I64 b) (h : textT a = textT b) : a = b := by
  rw [← num64_text ha, ← num64_text hb, h]
theorem textT_less {a b : Int} (ha : I64 a) (hb : I64 b) : ltB (textT a) (textT b) ↔ a < b := by
  unfold ltB textT
  rw [dig_cmp, Nat.mod_eq_of_lt (offN_lt ha), Nat.mod_eq_of_lt (offN_lt hb)]
  unfold cmpN cmpZ
  unfold I64 at ha hb
  unfold offN
  split
  · omega
  · split <;> omega
def TX (l : List Int) : List By := l.map textT
theorem TX_len (l : List Int) : (TX l).length = l.length := List.length_map ..
theorem TX_num {l : List Int} (h : ∀ n ∈ l, I64 n) : (TX l).map num64 = l := by
  unfold TX
  rw [List.map_map]
  have : ∀ n ∈ l, (num64 ∘ textT) n = n := fun n hn => num64_text (h n hn)
  rw [List.map_congr_left this, List.map_id']
def tolT (nums : Bool) (x : By) : List Nat := if nums = true then Go.Proofs.Yteloepccjoikdaa.putT (num64 x) else putT x
def gPlain (nums : Bool) (l : List By) : List Nat := (l.map (tolT nums)).flatten
def gRuns (nums : Bool) (l : List By) : List Nat := ((grp l).map fun p => numC p.1 ++ tolT nums p.2).flatten
def gDict (nums : Bool) (l : List By) : List Nat := numC (wordsT l).length ++ gPlain nums (wordsT l) ++ packB (Lib.bitLen ((wordsT l).length - 1)) (l.map (placeT (wordsT l)))
def gKind (nums : Bool) (k : Int) (l : List By) : List Nat := if k = 1 then gPlain nums l else if k = 2 then gRuns nums l else if k = 3 then frameT (l.map num64) else gDict nums l
def gTell (nums : Bool) (k : Int) (l : List By) : Option (List Nat) := if 65535 < l.length ∨ k < 1 ∨ 4 < k ∨ (k = 3 ∧ nums = false) then none else some (k.toNat :: gKind nums k l)
theorem tol_text {n : Int} (h : I64 n) : tolT true (textT n) = Go.Proofs.Yteloepccjoikdaa.putT n := by
  unfold tolT
  rw [if_pos rfl, num64_text h]
theorem gPlain_num {l : List Int} (h : ∀ n ∈ l, I64 n) : gPlain true (TX l) = Go.Proofs.Yteloepccjoikdaa.plainT l := by
  unfold gPlain TX Go.Proofs.Yteloepccjoikdaa.plainT
  rw [List.map_map]
  congr 1
  exact List.map_congr_left fun n hn => tol_text (h n hn)
theorem grp_num : ∀ {l : List Int}, (∀ n ∈ l, I64 n) → grp (TX l) = (Go.Proofs.Yteloepccjoikdaa.grp l).map fun p => (p.1, textT p.2)
  | [], _ => rfl
  | a :: r, h => by
    have ih := grp_num (l := r) fun n hn => h n (List.mem_cons_of_mem _ hn)
    have e : TX (a :: r) = textT a :: TX r := rfl
    rw [e, grp, ih, Go.Proofs.Yteloepccjoikdaa.grp]
    cases hg : Go.Proofs.Yteloepccjoikdaa.grp r with
    | nil => rfl
    | cons p t =>
      obtain ⟨n, b⟩ := p
      have hb : b ∈ r := by
        cases r with
        | nil => rw [Go.Proofs.Yteloepccjoikdaa.grp] at hg; cases hg
        | cons c s =>
          obtain ⟨m, _, _, h3, _, _⟩ := Go.Proofs.Yteloepccjoikdaa.grp_step c s
          rw [h3] at hg
          simp only [List.cons.injEq, Prod.mk.injEq] at hg
          rw [← hg.1.2]
          exact List.mem_cons_self
      simp only [List.map_cons]
      by_cases hab : a = b
      · subst hab
        rw [if_pos rfl, if_pos rfl, List.map_cons]
      · rw [if_neg hab, if_neg (fun e => hab (textT_inj (h a List.mem_cons_self) (h b (List.mem_cons_of_mem _ hb)) e)), List.map_cons, List.map_cons]
theorem grp_in (l : List Int) : ∀ p ∈ Go.Proofs.Yteloepccjoikdaa.grp l, p.2 ∈ l := by
  induction l with
  | nil => intro p hp; simp [Go.Proofs.Yteloepccjoikdaa.grp] at hp
  | cons a r ih =>
    intro p hp
    rw [Go.Proofs.Yteloepccjoikdaa.grp] at hp
    cases hr : Go.Proofs.Yteloepccjoikdaa.grp r with
    | nil => rw [hr] at hp; simp at hp; subst hp; exact List.mem_cons_self
    | cons q t =>
      rw [hr] at hp ih
      obtain ⟨n, b⟩ := q
      simp only at hp
      split at hp
      · rcases List.mem_cons.1 hp with rfl | hp
        · exact List.mem_cons_of_mem _ (ih (n, b) List.mem_cons_self)
        · exact List.mem_cons_of_mem _ (ih p (List.mem_cons_of_mem _ hp))
      · rcases List.mem_cons.1 hp with rfl | hp
        · exact List.mem_cons_self
        · exact List.mem_cons_of_mem _ (ih p hp)
theorem gRuns_num {l : List Int} (h : ∀ n ∈ l, I64 n) : gRuns true (TX l) = Go.Proofs.Yteloepccjoikdaa.runsT l := by
  unfold gRuns Go.Proofs.Yteloepccjoikdaa.runsT
  rw [grp_num h, List.map_map]
  congr 1
  refine List.map_congr_left fun p hp => ?_
  show numC p.1 ++ tolT true (textT p.2) = _
  rw [tol_text (h p.2 (grp_in l p hp))]
theorem words_num {l : List Int} (h : ∀ n ∈ l, I64 n) : wordsT (TX l) = TX (Go.Proofs.Yteloepccjoikdaa.wordsT l) := by
  refine up_ext (wordsT_up _) ?_ fun z => ?_
  · unfold TX
    rw [List.pairwise_map]
    refine (Go.Proofs.Yteloepccjoikdaa.wordsT_up l).imp_of_mem fun {a b} ha hb hab => ?_
    exact (textT_less (h a ((Go.Proofs.Yteloepccjoikdaa.wordsT_mem l a).1 ha)) (h b ((Go.Proofs.Yteloepccjoikdaa.wordsT_mem l b).1 hb))).2 hab
  · rw [wordsT_mem]
    unfold TX
    rw [List.mem_map, List.mem_map]
    exact ⟨fun ⟨n, hn, e⟩ => ⟨n, (Go.Proofs.Yteloepccjoikdaa.wordsT_mem l n).2 hn, e⟩, fun ⟨n, hn, e⟩ => ⟨n, (Go.Proofs.Yteloepccjoikdaa.wordsT_mem l n).1 hn, e⟩⟩
theorem place_num : ∀ {ws : List Int} {x : Int}, (∀ n ∈ ws, I64 n) → I64 x → placeT (TX ws) (textT x) = Go.Proofs.Yteloepccjoikdaa.placeT ws x
  | [], x, _, _ => rfl
  | a :: r, x, h, hx => by
    have ih := place_num (ws := r) (x := x) (fun n hn => h n (List.mem_cons_of_mem _ hn)) hx
    have e : TX (a :: r) = textT a :: TX r := rfl
    unfold placeT Go.Proofs.Yteloepccjoikdaa.placeT at ih ⊢
    rw [e]
    by_cases hlt : a < x
    · rw [List.takeWhile_cons_of_pos (by rw [decide_eq_true_iff]; exact (textT_less (h a List.mem_cons_self) hx).2 hlt), List.takeWhile_cons_of_pos (by rw [decide_eq_true_iff]; exact hlt), List.length_cons, List.length_cons, ih]
    · rw [List.takeWhile_cons_of_neg (by rw [decide_eq_true_iff]; exact fun e => hlt ((textT_less (h a List.mem_cons_self) hx).1 e)), List.takeWhile_cons_of_neg (by rw [decide_eq_true_iff]; exact hlt)]
      rfl
theorem gDict_num {l : List Int} (h : ∀ n ∈ l, I64 n) : gDict true (TX l) = Go.Proofs.Yteloepccjoikdaa.dictT l := by
  have hw : ∀ n ∈ Go.Proofs.Yteloepccjoikdaa.wordsT l, I64 n := fun n hn => h n ((Go.Proofs.Yteloepccjoikdaa.wordsT_mem l n).1 hn)
  unfold gDict Go.Proofs.Yteloepccjoikdaa.dictT
  rw [words_num h, TX_len, gPlain_num hw]
  congr 2
  unfold TX
  rw [List.map_map]
  exact List.map_congr_left fun n hn => place_num hw (h n hn)
theorem gKind_num (k : Int) {l : List Int} (h : ∀ n ∈ l, I64 n) : gKind true k (TX l) = Go.Proofs.Yteloepccjoikdaa.kindT k l := by
  unfold gKind Go.Proofs.Yteloepccjoikdaa.kindT
  rw [gPlain_num h, gRuns_num h, gDict_num h, TX_num h]
theorem gTell_num (k : Int) {l : List Int} (h : ∀ n ∈ l, I64 n) : gTell true k (TX l) = Go.Proofs.Yteloepccjoikdaa.tellT k l := by
  unfold gTell Go.Proofs.Yteloepccjoikdaa.tellT
  rw [gKind_num k h, TX_len]
  by_cases h1 : 65535 < l.length ∨ k < 1 ∨ 4 < k
  · rw [if_pos (by rcases h1 with h | h | h <;> simp [h]), if_pos h1]
  · rw [if_neg (by simp only [not_or] at h1 ⊢; exact ⟨h1.1, h1.2.1, h1.2.2, by simp⟩), if_neg h1]

end Go.Proofs.Yteloepccjoikdaa.Bc

namespace Go.Proofs.Yteloepccjoikdaa
set_option linter.unusedVariables false
open Go.RowKit

theorem zig_zag (u : Nat) : zigN (zagN u) = u := by
  unfold zigN zagN
  split <;> split <;> omega
theorem numR_canon {left rest : List Nat} {u : Nat} {bad : Bool} (h256 : ∀ x ∈ left, x < 256) (h : numR left bad = (u, rest, false)) : left = numC u ++ rest ∧ bad = false := by
  unfold numR at h
  cases hn : nextC left with
  | none => rw [hn] at h; simp at h
  | some p =>
    obtain ⟨v, n⟩ := p
    rw [hn] at h
    simp only [Prod.mk.injEq] at h
    obtain ⟨rfl, rfl, rfl⟩ := h
    have := nextC_canon left v n h256 hn
    refine ⟨?_, rfl⟩
    rw [← this, List.take_append_drop]
theorem takeR_canon {left rest : List Nat} {z : Int} {bad : Bool} (h256 : ∀ x ∈ left, x < 256) (h : takeR left bad = (z, rest, false)) : left = putT z ++ rest ∧ bad = false := by
  unfold takeR at h
  simp only [Prod.mk.injEq] at h
  obtain ⟨rfl, h2⟩ := h
  have h3 : numR left bad = ((numR left bad).1, rest, false) := by rw [← h2]
  obtain ⟨h4, h5⟩ := numR_canon h256 h3
  refine ⟨?_, h5⟩
  unfold putT
  rw [zig_zag]
  exact h4
theorem mem_of_app {a b : List Nat} (h : ∀ x ∈ a ++ b, x < 256) : ∀ x ∈ b, x < 256 := fun x hx => h x (List.mem_append_right _ hx)
theorem rdPlain_canon {left : List Nat} (h256 : ∀ x ∈ left, x < 256) : ∀ (k : Nat) (l : List Int) (rest : List Nat), rdPlain k left false = (l, rest, false) → left = plainT l ++ rest
  | 0, l, rest, h => by
    rw [rdPlain] at h
    simp only [Prod.mk.injEq] at h
    obtain ⟨rfl, rfl, _⟩ := h
    rfl
  | k + 1, l, rest, h => by
    rw [rdPlain] at h
    obtain ⟨l1, r1, b1, hk⟩ : ∃ l1 r1 b1, rdPlain k left false = (l1, r1, b1) := ⟨_, _, _, rfl⟩
    rw [hk] at h
    simp only [Prod.mk.injEq] at h
    obtain ⟨rfl, h2⟩ := h
    have hb : b1 = false := by
      cases b1 with
      | false => rfl
      | true =>
        have h3 : (takeR r1 true).2.2 = true := by unfold takeR numR; split <;> rfl
        rw [h2] at h3
        simp at h3
    subst hb
    have ih := rdPlain_canon h256 k l1 r1 hk
    have h256r : ∀ x ∈ r1, x < 256 := by rw [ih] at h256; exact mem_of_app h256
    obtain ⟨z, hz⟩ : ∃ z, z = (takeR r1 false).1 := ⟨_, rfl⟩
    have h4 : takeR r1 false = (z, rest, false) := by rw [hz, ← h2]
    obtain ⟨h5, _⟩ := takeR_canon h256r h4
    rw [← hz, ih, h5]
    unfold plainT
    rw [List.map_append, List.flatten_append, List.map_singleton, List.flatten_singleton, List.append_assoc]
theorem dec_plain {r : List Nat} {c : Nat} {l : List Int} (h256 : ∀ x ∈ r, x < 256) (h : wholeT (rdPlain c r false).1 (rdPlain c r false).2.1 (rdPlain c r false).2.2 = some l) : r = plainT l := by
  unfold wholeT at h
  split at h
  · next hc =>
    cases h
    have := rdPlain_canon h256 c (rdPlain c r false).1 [] (Prod.ext rfl (Prod.ext hc.2 hc.1))
    simpa using this
  · cases h

end Go.Proofs.Yteloepccjoikdaa

namespace Go.Proofs.Yteloepccjoikdaa
set_option linter.unusedVariables false
open Go.RowKit

theorem grp_rep {z : Int} {m : List Int} (hm : m[0]? ≠ some z) : ∀ n, grp (List.replicate (n + 1) z ++ m) = (n + 1, z) :: grp m
  | 0 => by
    show grp (z :: m) = _
    rw [grp]
    cases m with
    | nil => rfl
    | cons b r =>
      obtain ⟨k, _, _, h3, _, _⟩ := grp_step b r
      rw [h3]
      have hne : ¬ z = b := fun e => hm (by rw [e]; rfl)
      show (if z = b then _ else _) = _
      rw [if_neg hne]
  | n + 1 => by
    have ih := grp_rep hm n
    have e : List.replicate (n + 1 + 1) z ++ m = z :: (List.replicate (n + 1) z ++ m) := by rw [List.replicate_succ]; rfl
    rw [e, grp, ih]
    show (if z = z then _ else _) = _
    rw [if_pos rfl]
theorem runs_rep {z : Int} {m : List Int} {n : Nat} (hn : n ≠ 0) (hm : m[0]? ≠ some z) : runsT (List.replicate n z ++ m) = numC n ++ putT z ++ runsT m := by
  cases n with
  | zero => exact absurd rfl hn
  | succ n =>
    unfold runsT
    rw [grp_rep hm n, List.map_cons, List.flatten_cons]
theorem takeR_bad {left : List Nat} : (takeR left true).2.2 = true := by unfold takeR numR; split <;> rfl
theorem rdRuns_canon (count : Nat) (all : List Int) : ∀ (f : Nat) (l : List Int) (left : List Nat) (bad : Bool), (∀ x ∈ left, x < 256) → rdRuns f count l left bad = some all → ∃ m, all = l ++ m ∧ left = runsT m ∧ bad = false ∧ ∀ z, l.getLast? = some z → m[0]? ≠ some z := by
  have base : ∀ (l : List Int) (left : List Nat) (bad : Bool), wholeT l left bad = some all → ∃ m, all = l ++ m ∧ left = runsT m ∧ bad = false ∧ ∀ z, l.getLast? = some z → m[0]? ≠ some z := by
    intro l left bad h
    unfold wholeT at h
    split at h
    · next hc =>
      cases h
      exact ⟨[], by simp, by rw [hc.2]; rfl, hc.1, fun z _ => by simp⟩
    · cases h
  intro f
  induction f with
  | zero => intro l left bad _ h; exact base l left bad h
  | succ f ih =>
    intro l left bad h256 h
    by_cases hc : count ≤ l.length
    · rw [rdRuns_end _ _ _ _ _ hc] at h
      exact base l left bad h
    · rw [rdRuns, if_neg hc] at h
      obtain ⟨n, r1, b1, hn⟩ : ∃ n r1 b1, numR left bad = (n, r1, b1) := ⟨_, _, _, rfl⟩
      rw [hn] at h
      simp only at h
      obtain ⟨z, r2, b2, hz⟩ : ∃ z r2 b2, takeR r1 b1 = (z, r2, b2) := ⟨_, _, _, rfl⟩
      rw [hz] at h
      simp only at h
      split at h
      · cases h
      · next hno =>
        simp only [not_or] at hno
        obtain ⟨h1, h2, h3, h4⟩ := hno
        have hb2 : b2 = false := by simpa using h1
        subst hb2
        have hb1 : b1 = false := by
          cases b1 with
          | false => rfl
          | true => have := takeR_bad (left := r1); rw [hz] at this; simp at this
        subst hb1
        obtain ⟨e1, e2⟩ := numR_canon h256 hn
        have h256r : ∀ x ∈ r1, x < 256 := by rw [e1] at h256; exact mem_of_app h256
        obtain ⟨e3, _⟩ := takeR_canon h256r hz
        have h256s : ∀ x ∈ r2, x < 256 := by rw [e3] at h256r; exact mem_of_app h256r
        obtain ⟨m, g1, g2, g3, g4⟩ := ih _ _ _ h256s h
        have hlast : (l ++ List.replicate n z).getLast? = some z := by
          cases n with
          | zero => exact absurd rfl h2
          | succ n => rw [List.replicate_succ', ← List.append_assoc, List.getLast?_append]; simp
        have hm := g4 z hlast
        refine ⟨List.replicate n z ++ m, by rw [g1, List.append_assoc], by rw [runs_rep h2 hm, e1, e3, g2, List.append_assoc], e2, fun y hy e => ?_⟩
        have hz0 : (List.replicate n z ++ m)[0]? = some z := by
          cases n with
          | zero => exact absurd rfl h2
          | succ n => rfl
        rw [hz0] at e
        have e5 : z = y := Option.some.inj e
        apply h4
        unfold lastIs
        rw [hy, e5]
        simp
theorem dec_runs {r : List Nat} {c : Nat} {l : List Int} (h256 : ∀ x ∈ r, x < 256) (h : rdRuns c c [] r false = some l) : r = runsT l := by
  obtain ⟨m, h1, h2, _, _⟩ := rdRuns_canon c l c [] r false h256 h
  rw [h1, h2]
  rfl

end Go.Proofs.Yteloepccjoikdaa

namespace Go.Proofs.Yteloepccjoikdaa
set_option linter.unusedVariables false
open Go.RowKit

theorem unpack_canon {bs us : List Nat} {n count : Int} (h256 : ∀ x ∈ bs, x < 256) (h : unpackB bs n count = some us) : bs = packB (heldN n) us ∧ us.length = count.toNat := by
  refine ⟨?_, (unpackB_len h).1⟩
  unfold unpackB at h
  split at h
  · next hc =>
    obtain ⟨_, _, h3, h4⟩ := hc
    have hp := pack_nums (N := heldN n) (C := count.toNat) (bs := bs) (fun i => by
      rw [List.getD_eq_getElem?_getD]
      cases hq : bs[i]? with
      | none => decide
      | some x => exact h256 x (List.mem_of_getElem? hq)) h3
    rw [h4] at hp
    have e := eq_of_beq hp
    simp only [Option.some.injEq] at h
    rw [← h]
    exact e.symm
  · cases h
theorem foldl_min_map (lo : Int) : ∀ (us : List Nat) (a : Nat), (us.map fun u : Nat => lo + (u : Int)).foldl min (lo + (a : Int)) = lo + ((us.foldl min a : Nat) : Int)
  | [], a => rfl
  | b :: r, a => by
    rw [List.map_cons, List.foldl_cons, List.foldl_cons, show min (lo + (a : Int)) (lo + (b : Int)) = lo + ((min a b : Nat) : Int) by omega]
    exact foldl_min_map lo r (min a b)
theorem foldl_max_map (lo : Int) : ∀ (us : List Nat) (a : Nat), (us.map fun u : Nat => lo + (u : Int)).foldl max (lo + (a : Int)) = lo + ((us.foldl max a : Nat) : Int)
  | [], a => rfl
  | b :: r, a => by
    rw [List.map_cons, List.foldl_cons, List.foldl_cons, show max (lo + (a : Int)) (lo + (b : Int)) = lo + ((max a b : Nat) : Int) by omega]
    exact foldl_max_map lo r (max a b)
theorem lo_map (lo : Int) (us : List Nat) (h : 0 < us.length) : loT (us.map fun u : Nat => lo + (u : Int)) = lo + ((loN us : Nat) : Int) ∧ hiT (us.map fun u : Nat => lo + (u : Int)) = lo + ((hiN us : Nat) : Int) := by
  cases us with
  | nil => simp at h
  | cons a r => exact ⟨foldl_min_map lo r a, foldl_max_map lo r a⟩
theorem dec_frame {r : List Nat} {c : Nat} {l : List Int} (h256 : ∀ x ∈ r, x < 256) (h : rdFrame c r false = some l) : r = frameT l ∧ l.length = c := by
  unfold rdFrame at h
  by_cases h0 : c = 0
  · rw [if_pos h0] at h
    unfold wholeT at h
    split at h
    · next hc =>
      cases h
      rw [hc.2, h0]
      exact ⟨rfl, rfl⟩
    · cases h
  · rw [if_neg h0] at h
    obtain ⟨lo, r1, b1, ht⟩ : ∃ lo r1 b1, takeR r false = (lo, r1, b1) := ⟨_, _, _, rfl⟩
    rw [ht] at h
    simp only at h
    cases r1 with
    | nil => cases h
    | cons wd rest =>
      simp only at h
      have hb1 : b1 = false := by
        unfold takeR numR at ht
        split at ht
        · simp only [Prod.mk.injEq] at ht; exact ht.2.2.symm
        · simp only [Prod.mk.injEq] at ht; exact absurd ht.2.1 (by simp)
      subst hb1
      obtain ⟨e1, _⟩ := takeR_canon h256 ht
      have h256r : ∀ x ∈ rest, x < 256 := by rw [e1] at h256; exact fun x hx => h256 x (List.mem_append_right _ (List.mem_cons_of_mem _ hx))
      cases hu : unpackB rest (wd : Nat) (c : Int) with
      | none => rw [hu] at h; cases h
      | some us =>
        rw [hu] at h
        simp only at h
        split at h
        · cases h
        · next hno =>
          simp only [not_or, Decidable.not_not] at hno
          obtain ⟨g1, g2, g3⟩ := hno
          cases h
          obtain ⟨e2, e3⟩ := unpack_canon h256r hu
          have hul : us.length = c := by rw [e3]; rfl
          have h64 := (unpackB_len hu).2
          obtain ⟨m1, m2⟩ := lo_map lo us (by omega)
          obtain ⟨k1, k2, k3⟩ := lo_hiN (l := us) (by omega)
          have hb := (bitLen_le (hiN us) (h64 _ k3)).1
          have hlo : loT (us.map fun u : Nat => lo + (u : Int)) = lo := by rw [m1, g1]; omega
          have hwd : widT (us.map fun u : Nat => lo + (u : Int)) = wd := by
            unfold widT
            rw [hlo, m2, show (lo + ((hiN us : Nat) : Int) - lo).toNat = hiN us by omega, g2]
          have hdf : diffT (us.map fun u : Nat => lo + (u : Int)) = us := by
            unfold diffT
            rw [hlo, List.map_map]
            have : ∀ n ∈ us, ((fun n => (n - lo).toNat) ∘ fun u : Nat => lo + (u : Int)) n = n := fun n _ => by
              show (lo + (n : Int) - lo).toNat = n
              omega
            rw [List.map_congr_left this, List.map_id']
          refine ⟨?_, by rw [List.length_map]; exact hul⟩
          unfold frameT
          rw [if_neg (by rw [List.length_map]; omega), hlo, hwd, hdf, e1]
          rw [heldN_id wd (by omega)] at e2
          rw [← e2]
          simp

end Go.Proofs.Yteloepccjoikdaa
