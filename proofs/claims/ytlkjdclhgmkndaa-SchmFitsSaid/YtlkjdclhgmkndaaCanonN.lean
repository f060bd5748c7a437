/-
  What an operation looks at.
-/
import Derived.Test.YtlkjdclhgmkndaaCanonM
namespace Go.Proofs.Ytlkjdclhgmkndaa.Canon
set_option linter.unusedVariables false
set_option linter.unusedSimpArgs false
open Go.RowKit

theorem map_opt_congr {ev ev2 : Operand → Value} {r : Option Operand} (h : ∀ x, r = some x → ev x = ev2 x) : r.map ev = r.map ev2 := by
  cases r with
  | none => rfl
  | some x => simp [h x rfl]

theorem list_map_congr {ev ev2 : Operand → Value} {l : List Operand} (h : ∀ x ∈ l, ev x = ev2 x) : l.map ev = l.map ev2 := List.map_congr_left h

theorem pairs_congr {ev ev2 : Operand → Value} {l : List (Nat × Operand)} (h : ∀ p ∈ l, ev p.2 = ev2 p.2) : (l.map fun (i, x) => (i, ev x)) = l.map fun (i, x) => (i, ev2 x) :=
  List.map_congr_left fun p hp => by obtain ⟨i, x⟩ := p; simp only [h _ hp]

theorem pop_congr {P : Program} {ev ev2 : Operand → Value} (o : Oper) (h : ∀ x ∈ o.op.operands, ev x = ev2 x) : pop P ev o = pop P ev2 o := by
  obtain ⟨dst, op, type, pos, after, guard⟩ := o
  cases op <;> simp only [Op.operands] at h <;> simp only [pop]
  case move x => rw [h x (by simp)]
  case assign x => rw [h x (by simp)]
  case pick a b e => rw [h a (by simp), h b (by simp), h e (by simp)]
  case build t ps => rw [pairs_congr (ev := ev) (ev2 := ev2) fun p hp => h p.2 (by simp; exact ⟨p.1, by simpa using hp⟩)]
  case nilCheck x => rw [h x (by simp)]
  case binOp op t x y yt => rw [h x (by simp), h y (by simp)]
  case unOp op t x => rw [h x (by simp)]
  case convert s d x => rw [h x (by simp)]
  case makeFunc fn f g =>
    rw [Array.map_congr_left (xs := f) fun x hx => h x (by simp [hx]), Array.map_congr_left (xs := g) fun x hx => h x (by simp [hx])]
  case makeInterface t x => rw [h x (by simp)]
  case fieldAddr s x f => rw [h x (by simp)]
  case field s x f => rw [h x (by simp)]
  case indexAddr t x i => rw [h x (by simp), h i (by simp)]
  case index t x i => rw [h x (by simp), h i (by simp)]
  case extract x i => rw [h x (by simp)]
  case slice t x lo hi mx =>
    rw [h x (by simp), map_opt_congr (r := lo) fun y hy => h y (by simp [hy]), map_opt_congr (r := hi) fun y hy => h y (by simp [hy])]
  case call cl =>
    unfold popCall
    have ha : ∀ x ∈ cl.args.toList, ev x = ev2 x := fun x hx => h x (by simp [Call.operands]; exact .inr (by simpa using hx))
    rw [list_map_congr ha]
    cases hl : cl.args.toList with
    | nil => rfl
    | cons x r =>
      cases r with
      | nil =>
        have hx := ha x (by rw [hl]; simp)
        cases cl.callee with
        | value f => rfl
        | invoke a b => rfl
        | builtin b =>
          cases b <;> first | rfl | skip
          cases cl.argTypes.toList with
          | nil => rfl
          | cons t ts =>
            cases ts with
            | nil => simp only [hx]
            | cons _ _ => rfl
      | cons y r => rfl

theorem hop_congr {E : Env} {ev ev2 : Operand → Value} (o : Oper) (s : St) (h : ∀ x ∈ o.op.operands, ev x = ev2 x) : hop E ev o s = hop E ev2 o s := by
  obtain ⟨dst, op, type, pos, after, guard⟩ := o
  cases op <;> simp only [Op.operands] at h <;> simp only [hop]
  case box t x => rw [h x (by simp)]
  case buildSlice t n ps =>
    have e1 : (ps.map fun (i, x) => (i, ev x)).toList = ps.toList.map fun (i, x) => (i, ev x) := by simp
    have e2 : (ps.map fun (i, x) => (i, ev2 x)).toList = ps.toList.map fun (i, x) => (i, ev2 x) := by simp
    rw [e1, e2, pairs_congr (ev := ev) (ev2 := ev2) fun p hp => h p.2 (by simp; exact ⟨p.1, by simpa using hp⟩)]
  case load t x => rw [h x (by simp)]
  case store t x y => rw [h x (by simp), h y (by simp)]
  case makeSlice t x y => rw [h x (by simp), h y (by simp)]
  case slice t x lo hi mx =>
    rw [h x (by simp), map_opt_congr (r := lo) fun y hy => h y (by simp [hy]), map_opt_congr (r := hi) fun y hy => h y (by simp [hy]), map_opt_congr (r := mx) fun y hy => h y (by simp [hy])]
  case convert a b x => rw [h x (by simp)]
  case call cl =>
    unfold hopCall
    have ha : ∀ x ∈ cl.args.toList, ev x = ev2 x := fun x hx => h x (by simp [Call.operands]; exact .inr (by simpa using hx))
    have hf : ∀ f, cl.callee = .value f → ev f = ev2 f := fun f hf => h f (by simp [Call.operands, hf])
    rw [list_map_congr ha]
    cases hcl : cl.callee with
    | value f => simp only; rw [hf f hcl]
    | invoke r m => rfl
    | builtin b =>
      cases b <;> simp only
      case append =>
        cases hl : cl.args.toList with
        | nil => rfl
        | cons x r =>
          cases r with
          | nil => rfl
          | cons y r =>
            cases r with
            | nil =>
              have hx := ha x (by rw [hl]; simp)
              have hy := ha y (by rw [hl]; simp)
              cases cl.argTypes.toList with
              | nil => rfl
              | cons t ts => simp only [hx, hy]
            | cons z r => rfl
      case copy =>
        cases hl : cl.args.toList with
        | nil => rfl
        | cons x r =>
          cases r with
          | nil => rfl
          | cons y r =>
            cases r with
            | nil =>
              have hx := ha x (by rw [hl]; simp)
              have hy := ha y (by rw [hl]; simp)
              cases cl.argTypes.toList with
              | nil => rfl
              | cons t ts => simp only [hx, hy]
            | cons z r => rfl
      case clear =>
        cases hl : cl.args.toList with
        | nil => rfl
        | cons x r =>
          cases r with
          | nil =>
            have hx := ha x (by rw [hl]; simp)
            cases cl.argTypes.toList with
            | nil => rfl
            | cons t ts =>
              cases ts with
              | nil => simp only [hx]
              | cons _ _ => rfl
          | cons y r => rfl
      case cap =>
        cases hl : cl.args.toList with
        | nil => rfl
        | cons x r =>
          cases r with
          | nil =>
            have hx := ha x (by rw [hl]; simp)
            cases cl.argTypes.toList with
            | nil => rfl
            | cons t ts =>
              cases ts with
              | nil => simp only [hx]
              | cons _ _ => rfl
          | cons y r => rfl

theorem doOp_congr {E : Env} {call : CallF} {ev ev2 : Operand → Value} (o : Oper) (s : St) (h : ∀ x ∈ o.op.operands, ev x = ev2 x) : doOp E call ev o s = doOp E call ev2 o s := by
  unfold doOp; rw [hop_congr o s h]
end Go.Proofs.Ytlkjdclhgmkndaa.Canon
