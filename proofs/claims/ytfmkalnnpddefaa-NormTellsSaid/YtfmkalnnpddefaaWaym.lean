/-
  Plain: the reference's ways, one more; how great they are. A row of lists, others appended.
-/
import Derived.Test.YtfmkalnnpddefaaInwm
import Derived.Test.YtfmkalnnpddefaaNsum
namespace Go.Proofs.Ytfmkalnnpddefaa
set_option linter.unusedVariables false
set_option linter.unusedSimpArgs false
open Go.RowKit

theorem waysS_snoc (q : Pt) : ∀ (l : List Pt) (out : List (List Pt)), waysS (l ++ [q]) out = match waysS l out with
    | none => none
    | some o => match waysT q with
      | none => none
      | some m => if 32 < o.length + m.length then none else some (o ++ m)
  | [], out => by
    rw [List.nil_append, waysS, waysS]
    cases waysT q with
    | none => rfl
    | some m =>
      simp only
      split
      · rfl
      · rw [waysS]
  | p :: r, out => by
    rw [List.cons_append, waysS, waysS]
    cases waysT p with
    | none => rfl
    | some m =>
      simp only
      split
      · rfl
      · exact waysS_snoc q r _
theorem waysP_snoc (q : Pt) : ∀ (l : List Pt) (out : List (List Pt)), waysP (l ++ [q]) out = match waysP l out with
    | none => none
    | some o => match waysT q with
      | none => none
      | some m => timesN o m
  | [], out => by
    rw [List.nil_append, waysP, waysP]
    cases waysT q with
    | none => rfl
    | some m =>
      simp only
      cases timesN out m with
      | none => rfl
      | some o2 => simp only; rw [waysP]
  | p :: r, out => by
    rw [List.cons_append, waysP, waysP]
    cases waysT p with
    | none => rfl
    | some m =>
      simp only
      cases timesN out m with
      | none => rfl
      | some o2 => exact waysP_snoc q r o2
theorem waysS_none {r : List Pt} : ∀ {l : List Pt} {out : List (List Pt)}, waysS l out = none → waysS (l ++ r) out = none
  | [], out, h => by rw [waysS] at h; cases h
  | p :: t, out, h => by
    rw [List.cons_append]
    rw [waysS] at h ⊢
    cases hp : waysT p with
    | none => rfl
    | some m =>
      rw [hp] at h
      simp only at h ⊢
      split
      · rfl
      · rename_i hh
        rw [if_neg hh] at h
        exact waysS_none h
theorem waysP_none {r : List Pt} : ∀ {l : List Pt} {out : List (List Pt)}, waysP l out = none → waysP (l ++ r) out = none
  | [], out, h => by rw [waysP] at h; cases h
  | p :: t, out, h => by
    rw [List.cons_append]
    rw [waysP] at h ⊢
    cases hp : waysT p with
    | none => rfl
    | some m =>
      rw [hp] at h
      simp only at h ⊢
      cases ht : timesN out m with
      | none => rfl
      | some o2 =>
        rw [ht] at h
        exact waysP_none h
mutual
theorem waysT_small : ∀ (p : Pt) {a : List (List Pt)}, waysT p = some a → SmallN a
  | .mk k c o v l, a, h => by
    rw [waysT] at h
    split at h
    · exact waysS_small l [] (by simp [SmallN]) h
    · split at h
      · exact waysP_small l [[]] (by simp [SmallN]) h
      · cases h; simp [SmallN]
theorem waysS_small : ∀ (l : List Pt) (out : List (List Pt)) {a : List (List Pt)}, SmallN out → waysS l out = some a → SmallN a
  | [], out, a, ho, h => by rw [waysS] at h; cases h; exact ho
  | q :: r, out, a, ho, h => by
    rw [waysS] at h
    cases hq : waysT q with
    | none => rw [hq] at h; cases h
    | some m =>
      rw [hq] at h
      simp only at h
      split at h
      · cases h
      · rename_i hh
        have hm := waysT_small q hq
        exact waysS_small r _ ⟨by rw [List.length_append]; omega, fun x hx => (List.mem_append.1 hx).elim (ho.2 x) (hm.2 x)⟩ h
theorem waysP_small : ∀ (l : List Pt) (out : List (List Pt)) {a : List (List Pt)}, SmallN out → waysP l out = some a → SmallN a
  | [], out, a, ho, h => by rw [waysP] at h; cases h; exact ho
  | q :: r, out, a, ho, h => by
    rw [waysP] at h
    cases hq : waysT q with
    | none => rw [hq] at h; cases h
    | some m =>
      rw [hq] at h
      simp only at h
      cases ht : timesN out m with
      | none => rw [ht] at h; cases h
      | some o2 =>
        rw [ht] at h
        exact waysP_small r o2 (timesN_small ht) h
end

theorem elmW : Elm Try.prog 111 29 1 24 := by
  have h : (Try.prog.info? 29).map (fun i => (i.zero, i.size, i.bytes)) = some (some (.slice none 0 0), 1, 24) := by kernel_rfl
  cases hq : Try.prog.info? 29 with
  | none => rw [hq] at h; cases h
  | some i =>
    rw [hq] at h
    simp only [Option.map_some, Option.some.injEq, Prod.mk.injEq] at h
    exact ⟨Try.underlying111, ⟨i, _, hq, h.1, h.2.1, h.2.2, rfl⟩, by decide, by decide⟩

theorem ownN_append0 {X : Nat → Prop} {B K : Nat} {wr w2 w3 : World} {v v3 : Value} {o mm : List (List Pt)} {sls yls : List Value}
    (hown : wr.ownsRow B 29 1 v o.length sls) (hlen : sls.length = o.length) (hel : ∀ (i : Nat) (s : Value) (l : List Pt), sls[i]? = some s → o[i]? = some l → RdLF (fun b => (X b ∧ b < B) ∨ v.ownBlock = some b) wr s l)
    (hB : B ≤ wr.heap.size) (hK : wr.heap.size ≤ K) (hag : Below wr.heap.size wr w2)
    (hyl : yls.length = mm.length) (hyel : ∀ (i : Nat) (s : Value) (l : List Pt), yls[i]? = some s → mm[i]? = some l → RdLF (fun b => (X b ∨ B ≤ b) ∧ b < K) w2 s l) (hK2 : K ≤ w2.heap.size)
    (hg : w2.grownBy w3 v.ownBlock) (hnew : ∀ g, v3.ownBlock = some g → v.ownBlock = some g ∨ g = w2.heap.size)
    (h3 : w3.ownsRow B 29 1 v3 (o.length + mm.length) (sls ++ yls)) : OwnN X B w3 v3 (o ++ mm) := by
  have hold : ∀ b, v.ownBlock = some b → B ≤ b ∧ b < wr.heap.size := fun b hb => hown.lt b hb
  have hs2 := hag.size
  refine ⟨sls ++ yls, by rw [List.length_append]; exact h3, by rw [List.length_append, List.length_append, hlen, hyl], fun i t lt hi hli => ?_⟩
  by_cases hlt : i < sls.length
  · rw [List.getElem?_append_left hlt] at hi
    rw [List.getElem?_append_left (by rw [← hlen]; exact hlt)] at hli
    have h23 : Agree (fun b => v.ownBlock = some b) wr w3 := ((Agree.refl _ wr).thenBelow hag).thenGrown hg fun i _ h => h
    refine (hel i t lt hi hli).to h23 (fun b _ h => .inr h) (fun b hb h => ?_)
    rcases h with h | h
    · exact .inl h
    · rcases hnew b h with h | h
      · exact .inr h
      · omega
  · rw [List.getElem?_append_right (by omega)] at hi
    rw [List.getElem?_append_right (by rw [← hlen]; omega), ← hlen] at hli
    refine (hyel _ t lt hi hli).to (agree_grown hg) (fun b _ h => ?_) (fun b hb h => ?_)
    · have h1 := hold b h
      exact ⟨.inr h1.1, by omega⟩
    · rcases h with h | h
      · exact ⟨.inl h.1, by have := h.2; omega⟩
      · rcases hnew b h with h | h
        · have h1 := hold b h
          exact ⟨.inr h1.1, by omega⟩
        · omega

/-- ways answers so. -/
def WaysOK (p : Pt) : Prop := ∀ (cs : List Value) (X : Nat → Prop) (w : World), RdT1F X w p cs →
  Calls Try.prog 69 #[.agg cs.toArray] w fun e w' => RetN X w (waysT p) e w' ∧ Below w.heap.size w w'

end Go.Proofs.Ytfmkalnnpddefaa
