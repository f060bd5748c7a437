/-
  Plain: orders told by -1, 0, 1; those of values and of rows.
-/
import Derived.Test.YtlkjdclhgmkndaaVal
namespace Go.Proofs.Ytlkjdclhgmkndaa
set_option linter.unusedVariables false
open Go.RowKit

structure Cmp3 {α : Type} (f : α → α → Int) : Prop where
  anti : ∀ a b, f b a = - f a b
  tri : ∀ a b, f a b = -1 ∨ f a b = 0 ∨ f a b = 1
  eq : ∀ a b, f a b = 0 ↔ a = b
  tr : ∀ a b c, f a b ≤ 0 → f b c ≤ 0 → f a c ≤ 0 ∧ (f a c = 0 → f a b = 0 ∧ f b c = 0)

def cmpZ (a b : Int) : Int := if a < b then -1 else if b < a then 1 else 0
theorem cmpZ_ok : Cmp3 cmpZ := by
  refine ⟨fun a b => ?_, fun a b => ?_, fun a b => ?_, fun a b c => ?_⟩ <;> unfold cmpZ
  · split <;> split <;> (try split) <;> omega
  · split <;> (try split) <;> omega
  · split <;> (try split) <;> omega
  · repeat' split
    all_goals omega

def lexL {α : Type} (f : α → α → Int) : List α → List α → Int
  | [], [] => 0
  | [], _ :: _ => -1
  | _ :: _, [] => 1
  | a :: x, b :: y => if f a b = 0 then lexL f x y else f a b

theorem lexL_ok {α : Type} {f : α → α → Int} (h : Cmp3 f) : Cmp3 (lexL f) := by
  refine ⟨?_, ?_, ?_, ?_⟩
  · intro a
    induction a with
    | nil => intro b; cases b <;> rfl
    | cons x l ih =>
      intro b
      cases b with
      | nil => rfl
      | cons y r =>
        unfold lexL
        rw [h.anti x y, ih r]
        split <;> split <;> omega
  · intro a
    induction a with
    | nil => intro b; cases b <;> simp [lexL]
    | cons x l ih =>
      intro b
      cases b with
      | nil => simp [lexL]
      | cons y r =>
        unfold lexL
        split
        · exact ih r
        · exact h.tri x y
  · intro a
    induction a with
    | nil => intro b; cases b <;> simp [lexL]
    | cons x l ih =>
      intro b
      cases b with
      | nil => simp [lexL]
      | cons y r =>
        unfold lexL
        rw [List.cons.injEq, ← h.eq x y, ← ih r]
        split <;> rename_i hx <;> simp [hx]
  · intro a
    induction a with
    | nil => intro b c; cases b <;> cases c <;> simp [lexL]
    | cons x l ih =>
      intro b c
      cases b with
      | nil => cases c <;> simp [lexL]
      | cons y r =>
        cases c with
        | nil => simp [lexL]
        | cons z s =>
          have h1 := h.tr x y z
          have h2 := ih r s
          unfold lexL
          by_cases e1 : f x y = 0
          · have e1' := (h.eq x y).1 e1
            subst e1'
            rw [if_pos e1]
            by_cases e2 : f x z = 0
            · rw [if_pos e2, if_pos e2]; exact h2
            · rw [if_neg e2, if_neg e2]
              intro _ k2
              exact ⟨k2, fun k3 => absurd k3 e2⟩
          · rw [if_neg e1]
            by_cases e2 : f y z = 0
            · have e2' := (h.eq y z).1 e2
              subst e2'
              rw [if_pos e2, if_neg e1]
              intro k1 _
              exact ⟨k1, fun k3 => absurd k3 e1⟩
            · rw [if_neg e2]
              intro k1 k2
              have k3 := h1 k1 k2
              have e3 : ¬ f x z = 0 := fun k4 => e1 (k3.2 k4).1
              rw [if_neg e3]
              exact ⟨k3.1, fun k4 => absurd k4 e3⟩

def pairC {α β : Type} (f : α → α → Int) (g : β → β → Int) (p q : α × β) : Int := if f p.1 q.1 = 0 then g p.2 q.2 else f p.1 q.1
theorem pairC_ok {α β : Type} {f : α → α → Int} {g : β → β → Int} (h : Cmp3 f) (k : Cmp3 g) : Cmp3 (pairC f g) := by
  refine ⟨fun a b => ?_, fun a b => ?_, fun a b => ?_, fun a b c => ?_⟩ <;> unfold pairC
  · rw [h.anti a.1 b.1, k.anti a.2 b.2]
    split <;> split <;> omega
  · split
    · exact k.tri _ _
    · exact h.tri _ _
  · rw [Prod.ext_iff, ← h.eq a.1 b.1, ← k.eq a.2 b.2]
    split <;> rename_i hx <;> simp [hx]
  · have h1 := h.tr a.1 b.1 c.1
    have h2 := k.tr a.2 b.2 c.2
    by_cases e1 : f a.1 b.1 = 0
    · have e1' := (h.eq _ _).1 e1
      rw [if_pos e1]
      rw [e1']
      by_cases e2 : f b.1 c.1 = 0
      · rw [if_pos e2, if_pos e2]; exact h2
      · rw [if_neg e2, if_neg e2]
        intro _ k2
        exact ⟨k2, fun k3 => absurd k3 e2⟩
    · rw [if_neg e1]
      by_cases e2 : f b.1 c.1 = 0
      · have e2' := (h.eq _ _).1 e2
        rw [if_pos e2, ← e2', if_neg e1]
        intro k1 _
        exact ⟨k1, fun k3 => absurd k3 e1⟩
      · rw [if_neg e2]
        intro k1 k2
        have k3 := h1 k1 k2
        have e3 : ¬ f a.1 c.1 = 0 := fun k4 => e1 (k3.2 k4).1
        rw [if_neg e3]
        exact ⟨k3.1, fun k4 => absurd k4 e3⟩

def cmpN (a b : Nat) : Int := cmpZ a b
theorem cmpN_ok : Cmp3 cmpN := by
  refine ⟨fun a b => cmpZ_ok.anti _ _, fun a b => cmpZ_ok.tri _ _, fun a b => ?_, fun a b c => cmpZ_ok.tr _ _ _⟩
  unfold cmpN
  rw [cmpZ_ok.eq]; omega
def cmpB : List Nat → List Nat → Int := lexL cmpN

/-- Of two values, as they are held against each other. -/
def cmpT (a b : Vc) : Int := if a.u = true then (if b.u = true then 0 else -1) else if b.u = true then 1 else if a.k = 2 ∨ b.k = 2 then cmpB a.b b.b else cmpZ a.n b.n
def cmpR : List Vc → List Vc → Int := lexL cmpT
def sameT (a b : Vc) : Bool := a.u == b.u && a.k == b.k && a.n == b.n && a.b == b.b
def sameR : List Vc → List Vc → Bool
  | [], [] => true
  | a :: x, b :: y => sameT a b && sameR x y
  | _, _ => false

theorem sameT_iff (a b : Vc) : sameT a b = true ↔ a = b := by
  obtain ⟨a1, a2, a3, a4⟩ := a
  obtain ⟨b1, b2, b3, b4⟩ := b
  simp [sameT, and_assoc]
theorem sameR_iff : ∀ (a b : List Vc), sameR a b = true ↔ a = b
  | [], [] => by simp [sameR]
  | [], b :: y => by simp [sameR]
  | a :: x, [] => by simp [sameR]
  | a :: x, b :: y => by rw [sameR, Bool.and_eq_true, sameT_iff, sameR_iff x y, List.cons.injEq]

/-- A value such as may be. -/
def NormV (a : Vc) : Prop := (a.u = true → a.n = 0 ∧ a.b = []) ∧ (a.k = 2 → a.n = 0) ∧ (a.k ≠ 2 → a.b = [])
def keyV (a : Vc) : (Int × Int) × List Nat := ((if a.u = true then 0 else 1, a.n), a.b)
def cmpK : (Int × Int) × List Nat → (Int × Int) × List Nat → Int := pairC (pairC cmpZ cmpZ) (lexL cmpN)
theorem cmpK_ok : Cmp3 cmpK := pairC_ok (pairC_ok cmpZ_ok cmpZ_ok) (lexL_ok cmpN_ok)

theorem cmpZ_self (a : Int) : cmpZ a a = 0 := by unfold cmpZ; split <;> (try split) <;> omega
theorem cmpT_key {a b : Vc} (ha : NormV a) (hb : NormV b) (hk : a.k = b.k) : cmpT a b = cmpK (keyV a) (keyV b) := by
  obtain ⟨au, ak, an, ab⟩ := a
  obtain ⟨bu, bk, bn, bb⟩ := b
  obtain ⟨a1, a2, a3⟩ := ha
  obtain ⟨b1, b2, b3⟩ := hb
  simp only at *
  subst hk
  unfold cmpT cmpK keyV pairC
  cases au <;> cases bu <;> simp only [Bool.false_eq_true, if_false, if_true, cmpZ_self, cmpB]
  · by_cases hk : ak = 2
    · rw [a2 hk, b2 hk, cmpZ_self]; simp [hk]
    · rw [a3 hk, b3 hk]
      simp only [hk, or_self, if_false]
      by_cases h : cmpZ an bn = 0
      · rw [h]; simp [lexL]
      · simp [h]
  · simp [cmpZ]
  · simp [cmpZ]
  · obtain ⟨h1, h2⟩ := a1 rfl
    obtain ⟨h3, h4⟩ := b1 rfl
    rw [h1, h2, h3, h4]
    simp [cmpZ, lexL]

theorem key_eq {a b : Vc} (hk : a.k = b.k) : keyV a = keyV b ↔ a = b := by
  obtain ⟨au, ak, an, ab⟩ := a
  obtain ⟨bu, bk, bn, bb⟩ := b
  simp only at hk
  subst hk
  unfold keyV
  cases au <;> cases bu <;> simp

/-- Rows of the same kinds. -/
theorem cmpR_key : ∀ (x y : List Vc), (∀ v ∈ x, NormV v) → (∀ v ∈ y, NormV v) → x.map (·.k) = y.map (·.k) → cmpR x y = lexL cmpK (x.map keyV) (y.map keyV)
  | [], [], _, _, _ => rfl
  | [], b :: y, _, _, h => by simp at h
  | a :: x, [], _, _, h => by simp at h
  | a :: x, b :: y, hx, hy, h => by
    simp only [List.map_cons, List.cons.injEq] at h
    have ih := cmpR_key x y (fun v hv => hx v (List.mem_cons_of_mem _ hv)) (fun v hv => hy v (List.mem_cons_of_mem _ hv)) h.2
    have e := cmpT_key (hx a List.mem_cons_self) (hy b List.mem_cons_self) h.1
    unfold cmpR at ih ⊢
    rw [List.map_cons, List.map_cons, lexL, lexL, ih, e]

theorem keys_eq : ∀ (x y : List Vc), x.map (·.k) = y.map (·.k) → (x.map keyV = y.map keyV ↔ x = y)
  | [], [], _ => by simp
  | [], b :: y, h => by simp at h
  | a :: x, [], h => by simp at h
  | a :: x, b :: y, h => by
    simp only [List.map_cons, List.cons.injEq] at h
    rw [List.map_cons, List.map_cons, List.cons.injEq, List.cons.injEq, key_eq h.1, keys_eq x y h.2]

end Go.Proofs.Ytlkjdclhgmkndaa
