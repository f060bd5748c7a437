/-
  Plain: numbers as bytes that have their order; what the reference tells of such rows.
  Plain: what is read as a column is just what is told of it (numbers).
  Plain: what is read as runs is just what is told of them (numbers).
  Plain: what is read as a frame is just what is told of it (numbers).
-/
import Derived.Test.YtjcmekhamohbnaaBcolp
import Derived.Test.YtjcmekhamohbnaaRefeh
namespace Go.Proofs.Ytjcmekhamohbnaa.Bc
set_option linter.unusedVariables false
set_option linter.unusedSimpArgs false

def dig : Nat → Nat → By
  | 0, _ => []
  | k + 1, U => U / 256 ^ k % 256 :: dig k U
theorem dig_len (U : Nat) : ∀ k, (dig k U).length = k
  | 0 => rfl
  | k + 1 => by rw [dig, List.length_cons, dig_len U k]
theorem dig_lt (U : Nat) : ∀ k, ∀ x ∈ dig k U, x < 256
  | 0, x, h => by simp [dig] at h
  | k + 1, x, h => by
    rw [dig] at h
    rcases List.mem_cons.1 h with rfl | h
    · exact Nat.mod_lt _ (by decide)
    · exact dig_lt U k x h
theorem mod_pow_succ (a k : Nat) : a % 256 ^ (k + 1) = a / 256 ^ k % 256 * 256 ^ k + a % 256 ^ k := by
  rw [Nat.pow_succ, Nat.mod_mul, Nat.mul_comm]
  omega
theorem dig_cmp (a b : Nat) : ∀ k, cmpB (dig k a) (dig k b) = cmpN (a % 256 ^ k) (b % 256 ^ k)
  | 0 => by
    rw [Nat.pow_zero, Nat.mod_one, Nat.mod_one]
    rfl
  | k + 1 => by
    have ih := dig_cmp a b k
    have hp : 0 < 256 ^ k := Nat.pow_pos (by decide)
    have ha := Nat.mod_lt a hp
    have hb := Nat.mod_lt b hp
    rw [dig, dig]
    unfold cmpB at ih ⊢
    rw [lexL, ih, mod_pow_succ a k, mod_pow_succ b k]
    obtain ⟨A, hA⟩ : ∃ A, A = a / 256 ^ k % 256 := ⟨_, rfl⟩
    obtain ⟨B, hB⟩ : ∃ B, B = b / 256 ^ k % 256 := ⟨_, rfl⟩
    obtain ⟨P, hP⟩ : ∃ P, P = 256 ^ k := ⟨_, rfl⟩
    rw [← hA, ← hB, ← hP]
    rw [← hP] at ha hb
    unfold cmpN cmpZ
    rcases Nat.lt_trichotomy A B with h | h | h
    · have h1 : A * P + P ≤ B * P := by have := Nat.mul_le_mul_right P (show A + 1 ≤ B from h); rw [Nat.add_mul, Nat.one_mul] at this; exact this
      rw [if_pos (show (A : Int) < B by omega), if_neg (by decide), if_pos (by omega)]
    · subst h
      rw [if_neg (show ¬ (A : Int) < A by omega), if_neg (show ¬ (A : Int) < A by omega), if_pos rfl]
      by_cases h1 : a % P < b % P
      · have e1 : ((a % P : Nat) : Int) < ((b % P : Nat) : Int) := by omega
        have e2 : ((A * P + a % P : Nat) : Int) < ((A * P + b % P : Nat) : Int) := by omega
        rw [if_pos e1, if_pos e2]
      · have e1 : ¬ ((a % P : Nat) : Int) < ((b % P : Nat) : Int) := by omega
        have e2 : ¬ ((A * P + a % P : Nat) : Int) < ((A * P + b % P : Nat) : Int) := by omega
        rw [if_neg e1, if_neg e2]
        by_cases h2 : b % P < a % P
        · have e3 : ((b % P : Nat) : Int) < ((a % P : Nat) : Int) := by omega
          have e4 : ((A * P + b % P : Nat) : Int) < ((A * P + a % P : Nat) : Int) := by omega
          rw [if_pos e3, if_pos e4]
        · have e3 : ¬ ((b % P : Nat) : Int) < ((a % P : Nat) : Int) := by omega
          have e4 : ¬ ((A * P + b % P : Nat) : Int) < ((A * P + a % P : Nat) : Int) := by omega
          rw [if_neg e3, if_neg e4]
    · have h1 : B * P + P ≤ A * P := by have := Nat.mul_le_mul_right P (show B + 1 ≤ A from h); rw [Nat.add_mul, Nat.one_mul] at this; exact this
      rw [if_neg (show ¬ (A : Int) < B by omega), if_pos (show (B : Int) < A by omega), if_neg (by decide), if_neg (by omega), if_pos (by omega)]
def offN (n : Int) : Nat := (n + 9223372036854775808).toNat
theorem offN_lt {n : Int} (h : I64 n) : offN n < 256 ^ 8 := by
  unfold I64 at h
  unfold offN
  have : (256 : Nat) ^ 8 = 18446744073709551616 := by decide
  omega
def textT (n : Int) : By := dig 8 (offN n)
def num64 (x : By) : Int := ((x.foldl (fun u b => u * 256 + b) 0 : Nat) : Int) - 9223372036854775808
theorem textT_len (n : Int) : (textT n).length = 8 := dig_len _ _
theorem textT_lt (n : Int) : ∀ x ∈ textT n, x < 256 := dig_lt _ _
theorem dig_fold (U : Nat) : ∀ k (u : Nat), (dig k U).foldl (fun u b => u * 256 + b) u = u * 256 ^ k + U % 256 ^ k
  | 0, u => by rw [dig, Nat.pow_zero, Nat.mod_one]; simp
  | k + 1, u => by
    rw [dig, List.foldl_cons, dig_fold U k, mod_pow_succ, Nat.pow_succ, Nat.add_mul]
    have : u * 256 * 256 ^ k = u * (256 ^ k * 256) := by rw [Nat.mul_assoc, Nat.mul_comm 256]
    omega
theorem num64_text {n : Int} (h : I64 n) : num64 (textT n) = n := by
  unfold num64 textT
  rw [dig_fold, Nat.mod_eq_of_lt (offN_lt h)]
  unfold I64 at h
  unfold offN
  omega
theorem textT_inj {a b : Int} (ha : I64 a) (hb : I64 b) (h : textT a = textT b) : a = b := by
  rw [← num64_text ha, ← num64_text hb, h]
theorem textT_less {a b : Int} (ha : I64 a) (hb : I64 b) : ltB (textT a) (textT b) ↔ a < b := by
  unfold ltB textT
  rw [dig_cmp, Nat.mod_eq_of_lt (offN_lt ha), Nat.mod_eq_of_lt (offN_lt hb)]
  unfold cmpN cmpZ
  unfold I64 at ha hb
  unfold offN
  split
  · omega
  · split <;> omega
def TX (l : List Int) : List By := l.map textT
theorem TX_len (l : List Int) : (TX l).length = l.length := List.length_map ..
theorem TX_num {l : List Int} (h : ∀ n ∈ l, I64 n) : (TX l).map num64 = l := by
  unfold TX
  rw [List.map_map]
  have : ∀ n ∈ l, (num64 ∘ textT) n = n := fun n hn => num64_text (h n hn)
  rw [List.map_congr_left this, List.map_id']
def tolT (nums : Bool) (x : By) : List Nat := if nums = true then Go.Proofs.Ytjcmekhamohbnaa.putT (num64 x) else putT x
def gPlain (nums : Bool) (l : List By) : List Nat := (l.map (tolT nums)).flatten
def gRuns (nums : Bool) (l : List By) : List Nat := ((grp l).map fun p => numC p.1 ++ tolT nums p.2).flatten
def gDict (nums : Bool) (l : List By) : List Nat := numC (wordsT l).length ++ gPlain nums (wordsT l) ++ packB (Lib.bitLen ((wordsT l).length - 1)) (l.map (placeT (wordsT l)))
def gKind (nums : Bool) (k : Int) (l : List By) : List Nat := if k = 1 then gPlain nums l else if k = 2 then gRuns nums l else if k = 3 then frameT (l.map num64) else gDict nums l
def gTell (nums : Bool) (k : Int) (l : List By) : Option (List Nat) := if 65535 < l.length ∨ k < 1 ∨ 4 < k ∨ (k = 3 ∧ nums = false) then none else some (k.toNat :: gKind nums k l)
theorem tol_text {n : Int} (h : I64 n) : tolT true (textT n) = Go.Proofs.Ytjcmekhamohbnaa.putT n := by
  unfold tolT
  rw [if_pos rfl, num64_text h]
theorem gPlain_num {l : List Int} (h : ∀ n ∈ l, I64 n) : gPlain true (TX l) = Go.Proofs.Ytjcmekhamohbnaa.plainT l := by
  unfold gPlain TX Go.Proofs.Ytjcmekhamohbnaa.plainT
  rw [List.map_map]
  congr 1
  exact List.map_congr_left fun n hn => tol_text (h n hn)
theorem grp_num : ∀ {l : List Int}, (∀ n ∈ l, I64 n) → grp (TX l) = (Go.Proofs.Ytjcmekhamohbnaa.grp l).map fun p => (p.1, textT p.2)
  | [], _ => rfl
  | a :: r, h => by
    have ih := grp_num (l := r) fun n hn => h n (List.mem_cons_of_mem _ hn)
    have e : TX (a :: r) = textT a :: TX r := rfl
    rw [e, grp, ih, Go.Proofs.Ytjcmekhamohbnaa.grp]
    cases hg : Go.Proofs.Ytjcmekhamohbnaa.grp r with
    | nil => rfl
    | cons p t =>
      obtain ⟨n, b⟩ := p
      have hb : b ∈ r := by
        cases r with
        | nil => rw [Go.Proofs.Ytjcmekhamohbnaa.grp] at hg; cases hg
        | cons c s =>
          obtain ⟨m, _, _, h3, _, _⟩ := Go.Proofs.Ytjcmekhamohbnaa.grp_step c s
          rw [h3] at hg
          simp only [List.cons.injEq, Prod.mk.injEq] at hg
          rw [← hg.1.2]
          exact List.mem_cons_self
      simp only [List.map_cons]
      by_cases hab : a = b
      · subst hab
        rw [if_pos rfl, if_pos rfl, List.map_cons]
      · rw [if_neg hab, if_neg (fun e => hab (textT_inj (h a List.mem_cons_self) (h b (List.mem_cons_of_mem _ hb)) e)), List.map_cons, List.map_cons]
theorem grp_in (l : List Int) : ∀ p ∈ Go.Proofs.Ytjcmekhamohbnaa.grp l, p.2 ∈ l := by
  induction l with
  | nil => intro p hp; simp [Go.Proofs.Ytjcmekhamohbnaa.grp] at hp
  | cons a r ih =>
    intro p hp
    rw [Go.Proofs.Ytjcmekhamohbnaa.grp] at hp
    cases hr : Go.Proofs.Ytjcmekhamohbnaa.grp r with
    | nil => rw [hr] at hp; simp at hp; subst hp; exact List.mem_cons_self
    | cons q t =>
      rw [hr] at hp ih
      obtain ⟨n, b⟩ := q
      simp only at hp
      split at hp
      · rcases List.mem_cons.1 hp with rfl | hp
        · exact List.mem_cons_of_mem _ (ih (n, b) List.mem_cons_self)
        · exact List.mem_cons_of_mem _ (ih p (List.mem_cons_of_mem _ hp))
      · rcases List.mem_cons.1 hp with rfl | hp
        · exact List.mem_cons_self
        · exact List.mem_cons_of_mem _ (ih p hp)
theorem gRuns_num {l : List Int} (h : ∀ n ∈ l, I64 n) : gRuns true (TX l) = Go.Proofs.Ytjcmekhamohbnaa.runsT l := by
  unfold gRuns Go.Proofs.Ytjcmekhamohbnaa.runsT
  rw [grp_num h, List.map_map]
  congr 1
  refine List.map_congr_left fun p hp => ?_
  show numC p.1 ++ tolT true (textT p.2) = _
  rw [tol_text (h p.2 (grp_in l p hp))]
theorem words_num {l : List Int} (h : ∀ n ∈ l, I64 n) : wordsT (TX l) = TX (Go.Proofs.Ytjcmekhamohbnaa.wordsT l) := by
  refine up_ext (wordsT_up _) ?_ fun z => ?_
  · unfold TX
    rw [List.pairwise_map]
    refine (Go.Proofs.Ytjcmekhamohbnaa.wordsT_up l).imp_of_mem fun {a b} ha hb hab => ?_
    exact (textT_less (h a ((Go.Proofs.Ytjcmekhamohbnaa.wordsT_mem l a).1 ha)) (h b ((Go.Proofs.Ytjcmekhamohbnaa.wordsT_mem l b).1 hb))).2 hab
  · rw [wordsT_mem]
    unfold TX
    rw [List.mem_map, List.mem_map]
    exact ⟨fun ⟨n, hn, e⟩ => ⟨n, (Go.Proofs.Ytjcmekhamohbnaa.wordsT_mem l n).2 hn, e⟩, fun ⟨n, hn, e⟩ => ⟨n, (Go.Proofs.Ytjcmekhamohbnaa.wordsT_mem l n).1 hn, e⟩⟩
theorem place_num : ∀ {ws : List Int} {x : Int}, (∀ n ∈ ws, I64 n) → I64 x → placeT (TX ws) (textT x) = Go.Proofs.Ytjcmekhamohbnaa.placeT ws x
  | [], x, _, _ => rfl
  | a :: r, x, h, hx => by
    have ih := place_num (ws := r) (x := x) (fun n hn => h n (List.mem_cons_of_mem _ hn)) hx
    have e : TX (a :: r) = textT a :: TX r := rfl
    unfold placeT Go.Proofs.Ytjcmekhamohbnaa.placeT at ih ⊢
    rw [e]
    by_cases hlt : a < x
    · rw [List.takeWhile_cons_of_pos (by rw [decide_eq_true_iff]; exact (textT_less (h a List.mem_cons_self) hx).2 hlt), List.takeWhile_cons_of_pos (by rw [decide_eq_true_iff]; exact hlt), List.length_cons, List.length_cons, ih]
    · rw [List.takeWhile_cons_of_neg (by rw [decide_eq_true_iff]; exact fun e => hlt ((textT_less (h a List.mem_cons_self) hx).1 e)), List.takeWhile_cons_of_neg (by rw [decide_eq_true_iff]; exact hlt)]
      rfl
theorem gDict_num {l : List Int} (h : ∀ n ∈ l, I64 n) : gDict true (TX l) = Go.Proofs.Ytjcmekhamohbnaa.dictT l := by
  have hw : ∀ n ∈ Go.Proofs.Ytjcmekhamohbnaa.wordsT l, I64 n := fun n hn => h n ((Go.Proofs.Ytjcmekhamohbnaa.wordsT_mem l n).1 hn)
  unfold gDict Go.Proofs.Ytjcmekhamohbnaa.dictT
  rw [words_num h, TX_len, gPlain_num hw]
  congr 2
  unfold TX
  rw [List.map_map]
  exact List.map_congr_left fun n hn => place_num hw (h n hn)
theorem gKind_num (k : Int) {l : List Int} (h : ∀ n ∈ l, I64 n) : gKind true k (TX l) = Go.Proofs.Ytjcmekhamohbnaa.kindT k l := by
  unfold gKind Go.Proofs.Ytjcmekhamohbnaa.kindT
  rw [gPlain_num h, gRuns_num h, gDict_num h, TX_num h]
end Go.Proofs.Ytjcmekhamohbnaa.Bc

namespace Go.Proofs.Ytjcmekhamohbnaa
set_option linter.unusedVariables false
open Go.RowKit

theorem numR_canon {left rest : List Nat} {u : Nat} {bad : Bool} (h256 : ∀ x ∈ left, x < 256) (h : numR left bad = (u, rest, false)) : left = numC u ++ rest ∧ bad = false := by
  unfold numR at h
  cases hn : nextC left with
  | none => rw [hn] at h; simp at h
  | some p =>
    obtain ⟨v, n⟩ := p
    rw [hn] at h
    simp only [Prod.mk.injEq] at h
    obtain ⟨rfl, rfl, rfl⟩ := h
    have := nextC_canon left v n h256 hn
    refine ⟨?_, rfl⟩
    rw [← this, List.take_append_drop]
theorem mem_of_app {a b : List Nat} (h : ∀ x ∈ a ++ b, x < 256) : ∀ x ∈ b, x < 256 := fun x hx => h x (List.mem_append_right _ hx)
end Go.Proofs.Ytjcmekhamohbnaa

namespace Go.Proofs.Ytjcmekhamohbnaa
set_option linter.unusedVariables false
open Go.RowKit

end Go.Proofs.Ytjcmekhamohbnaa

namespace Go.Proofs.Ytjcmekhamohbnaa
set_option linter.unusedVariables false
open Go.RowKit

theorem unpack_canon {bs us : List Nat} {n count : Int} (h256 : ∀ x ∈ bs, x < 256) (h : unpackB bs n count = some us) : bs = packB (heldN n) us ∧ us.length = count.toNat := by
  refine ⟨?_, (unpackB_len h).1⟩
  unfold unpackB at h
  split at h
  · next hc =>
    obtain ⟨_, _, h3, h4⟩ := hc
    have hp := pack_nums (N := heldN n) (C := count.toNat) (bs := bs) (fun i => by
      rw [List.getD_eq_getElem?_getD]
      cases hq : bs[i]? with
      | none => decide
      | some x => exact h256 x (List.mem_of_getElem? hq)) h3
    rw [h4] at hp
    have e := eq_of_beq hp
    simp only [Option.some.injEq] at h
    rw [← h]
    exact e.symm
  · cases h
end Go.Proofs.Ytjcmekhamohbnaa
