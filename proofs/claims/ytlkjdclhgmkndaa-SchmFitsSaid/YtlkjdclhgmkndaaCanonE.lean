/-
  Operations that touch no memory.
-/
import Derived.Test.YtlkjdclhgmkndaaCanonD
namespace Go.Proofs.Ytlkjdclhgmkndaa.Canon
set_option linter.unusedVariables false
set_option linter.unusedSimpArgs false
open Go.RowKit

/-! What is run without memory. -/
theorem prun_bind {α β : Type} (P : Program) (x : Sem α) (f : α → Sem β) : prun P (x >>= f) = (prun P x).bind fun a => prun P (f a) := by
  show prun P (x.bind f) = _
  induction x with
  | pure a => rfl
  | program k ih => simp only [Sem.bind, prun]; exact ih P
  | _ => rfl
theorem prun_pure {α : Type} (P : Program) (a : α) : prun P (Pure.pure a : Sem α) = some a := rfl
theorem prun_stuck {α : Type} (P : Program) (w : String) : prun P (stuck w : Sem α) = none := rfl
theorem prun_unsupported {α : Type} (P : Program) (u : Unsupported) : prun P (unsupported u : Sem α) = none := rfl
theorem prun_program (P : Program) : prun P program = some P := rfl
theorem prun_underlying (P : Program) (t : TypeId) : prun P (underlying t) = P.underlying t := by
  unfold underlying
  rw [prun_bind, prun_program]
  simp only [Option.bind]
  cases P.underlying t <;> rfl
theorem prun_typeInfo (P : Program) (t : TypeId) : prun P (typeInfo t) = P.info? t := by
  unfold typeInfo
  rw [prun_bind, prun_program]
  simp only [Option.bind]
  cases P.info? t <;> rfl
theorem prun_sizeOf (P : Program) (t : TypeId) : prun P (sizeOf t) = size? P t := by
  unfold sizeOf size?
  rw [prun_bind, prun_typeInfo]
  cases P.info? t <;> rfl
theorem prun_isAgg (P : Program) (t : TypeId) : prun P (isAgg t) = isAgg? P t := by
  unfold isAgg isAgg?
  rw [prun_bind, prun_underlying]
  cases h : P.underlying t with
  | none => rfl
  | some d => cases d <;> rfl
theorem prun_zeroValue (P : Program) (t : TypeId) : prun P (zeroValue t) = (P.info? t).bind (·.zero) := by
  unfold zeroValue
  rw [prun_bind, prun_typeInfo]
  cases P.info? t with
  | none => rfl
  | some i => simp only [Option.bind]; cases i.zero <;> rfl

theorem run_of_prun {α : Type} {P : Program} {x : Sem α} {a : α} (h : prun P x = some a) (w : World) : x.run P w = .ok a w := prun_run P x a h w
theorem run_underlying' {P : Program} {t : TypeId} {d : TypeDesc} (h : P.underlying t = some d) (w : World) : (underlying t).run P w = .ok d w :=
  run_of_prun (by rw [prun_underlying, h]) w
theorem run_sizeOf' {P : Program} {t : TypeId} {n : Nat} (h : size? P t = some n) (w : World) : (sizeOf t).run P w = .ok n w :=
  run_of_prun (by rw [prun_sizeOf, h]) w
theorem run_isAgg' {P : Program} {t : TypeId} {n : Bool} (h : isAgg? P t = some n) (w : World) : (isAgg t).run P w = .ok n w :=
  run_of_prun (by rw [prun_isAgg, h]) w
theorem run_typeInfo' {P : Program} {t : TypeId} {i : TypeInfo} (h : P.info? t = some i) (w : World) : (typeInfo t).run P w = .ok i w :=
  run_of_prun (by rw [prun_typeInfo, h]) w
theorem cellsOf_size {P : Program} {t : TypeId} {n : Nat} (h : size? P t = some n) : P.cellsOf t = n := by
  unfold size? at h; unfold Program.cellsOf
  split at h
  · rename_i i hi; simp only [Option.some.injEq] at h; simp [hi, h]
  · cases h

section
variable {Φ : Fx} {Z : Nat} {c : Ctx} {D : Nat → Prop} {P : Program}

theorem VR.cells {v v' : Value} (h : VR Z c D v v') : LR Z c D v.cells.toList v'.cells.toList := by
  cases h with
  | agg cs cs' hs h => exact ⟨hs, h⟩
  | ptr o off h => exact .cons (.ptr o off h) .nil
  | sl o off l cp h hz => exact .cons (.sl o off l cp h hz) .nil
  | z0 a => exact .cons (.z0 a) .nil
  | z1 a cp => exact .cons (.z1 a cp) .nil
  | func fn f f' g g' hf hg h1 h2 => exact .cons (.func fn f f' g g' hf hg h1 h2) .nil
  | iface t v v' h => exact .cons (.iface t v v' h) .nil
  | nsl k h =>
    have e : (nslV (c.x (6000000 + 4 * k)) (c.x (6000000 + 4 * k + 1)) (c.x (6000000 + 4 * k + 2)) (c.x (6000000 + 4 * k + 3))).cells.toList = [nslV (c.x (6000000 + 4 * k)) (c.x (6000000 + 4 * k + 1)) (c.x (6000000 + 4 * k + 2)) (c.x (6000000 + 4 * k + 3))] := by
      unfold nslV; split <;> rfl
    rw [e]
    exact .cons (.nsl k h) .nil
  | tuple cs cs' hs h => exact .cons (.tuple cs cs' hs h) .nil
  | bool b => exact .cons (.bool b) .nil
  | int k n => exact .cons (.int k n) .nil
  | float k n => exact .cons (.float k n) .nil
  | symA l k n h => exact .cons (.symA l k n h) .nil
  | symB l k n h0 h => exact .cons (.symB l k n h0 h) .nil
  | symM k n h => exact .cons (.symM k n h) .nil
  | symC k s n h1 h2 h3 h4 => exact .cons (.symC k s n h1 h2 h3 h4) .nil
  | junk a l cp => exact .cons (.junk a l cp) .nil
  | string s => exact .cons (.string s) .nil
  | pnil => exact .cons .pnil .nil
  | snil l cp => exact .cons (.snil l cp) .nil
  | nilFunc => exact .cons .nilFunc .nil
  | nilIface => exact .cons .nilIface .nil

/-- Values handed to places: the same places, related values. -/
def PR (Z : Nat) (c : Ctx) (D : Nat → Prop) : List (Nat × Value) → List (Nat × Value) → Prop
  | [], [] => True
  | (i, v) :: l, (j, u) :: l' => i = j ∧ VR Z c D v u ∧ PR Z c D l l'
  | _, _ => False

theorem PR.map {f g : Operand → Value} (h : ∀ x, VR Z c D (f x) (g x)) : ∀ (ps : List (Nat × Operand)), PR Z c D (ps.map fun (i, x) => (i, f x)) (ps.map fun (i, x) => (i, g x))
  | [] => trivial
  | (i, x) :: ps => ⟨rfl, h x, PR.map h ps⟩

theorem foldl_set_len (off : Nat) : ∀ (l : List (Value × Nat)) (cs : Array Value), (l.foldl (fun cs (c, j) => cs.setIfInBounds (off + j) c) cs).size = cs.size
  | [], cs => rfl
  | (x, j) :: l, cs => by rw [List.foldl_cons, foldl_set_len off l]; simp

theorem foldl_set_rel (off : Nat) : ∀ (l l' : List Value) (k : Nat) (cs cs' : Array Value), LR Z c D l l' → LR Z c D cs.toList cs'.toList →
    LR Z c D ((l.zipIdx k).foldl (fun cs (c, j) => cs.setIfInBounds (off + j) c) cs).toList ((l'.zipIdx k).foldl (fun cs (c, j) => cs.setIfInBounds (off + j) c) cs').toList
  | [], l', k, cs, cs', hl, hc => by rw [hl.inv_nil]; exact hc
  | v :: l, l', k, cs, cs', hl, hc => by
    obtain ⟨v', r', rfl, hv, hr⟩ := hl.inv_cons
    rw [List.zipIdx_cons, List.zipIdx_cons, List.foldl_cons, List.foldl_cons]
    exact foldl_set_rel off l r' (k + 1) _ _ hr (by rw [Array.toList_setIfInBounds, Array.toList_setIfInBounds]; exact hc.set _ hv)

theorem arr_len {a b : Array Value} (h : LR Z c D a.toList b.toList) : a.size = b.size := by simpa using h.1

theorem fill_rel (place : Nat → Option (Nat × Nat)) : ∀ (ps ps' : List (Nat × Value)) (cs cs' r : Array Value), PR Z c D ps ps' → LR Z c D cs.toList cs'.toList →
    Instr.fill place cs ps = some r → ∃ r', Instr.fill place cs' ps' = some r' ∧ LR Z c D r.toList r'.toList
  | [], [], cs, cs', r, _, hc, h => by
    simp only [Instr.fill, Option.some.injEq] at h ⊢
    subst h
    exact ⟨_, rfl, hc⟩
  | [], (_, _) :: _, _, _, _, hp, _, _ => hp.elim
  | (_, _) :: _, [], _, _, _, hp, _, _ => hp.elim
  | (i, v) :: ps, (j, u) :: ps', cs, cs', r, hp, hc, h => by
    obtain ⟨rfl, hv, hps⟩ := hp
    simp only [Instr.fill] at h ⊢
    cases hpl : place i with
    | none => rw [hpl] at h; cases h
    | some q =>
      obtain ⟨off, size⟩ := q
      rw [hpl] at h
      simp only at h ⊢
      have e1 : u.cells.size = v.cells.size := (arr_len hv.cells).symm
      have e2 : cs'.size = cs.size := (arr_len hc).symm
      rw [e1, e2]
      split at h
      · cases h
      · rename_i hcond
        rw [if_neg hcond]
        refine fill_rel place ps ps' _ _ r hps ?_ h
        have := foldl_set_rel (Z := Z) (c := c) (D := D) off v.cells.toList u.cells.toList 0 cs cs' hv.cells hc
        rw [← Array.foldl_toList, ← Array.foldl_toList, Array.toList_zipIdx, Array.toList_zipIdx]
        exact this

theorem build_rel {t : TypeId} {ps ps' : List (Nat × Value)} {v : Value} (hp : PR Z c D ps ps') (hz : ∀ z, (P.info? t).bind (·.zero) = some z → allL Canon.ground0 z.cells.toList = true)
    (h : prun P (Instr.build t ps.toArray) = some v) : ∃ v', prun P (Instr.build t ps'.toArray) = some v' ∧ VR Z c D v v' := by
  unfold Instr.build at h ⊢
  simp only [prun_bind, prun_zeroValue, prun_underlying] at h ⊢
  cases hz0 : (P.info? t).bind (·.zero) with
  | none => rw [hz0] at h; cases h
  | some z =>
    have hzz : LR Z c D z.cells.toList z.cells.toList := .of_ground0 (hz z hz0)
    rw [hz0] at h
    simp only [Option.bind] at h ⊢
    cases hu : P.underlying t with
    | none => rw [hu] at h; cases h
    | some d =>
      rw [hu] at h
      simp only at h ⊢
      split at h
      · rename_i fields
        rw [prun_bind] at h
        simp only [prun_bind]
        cases hm : prun P (Array.mapM (m := Sem) (fun (f : Field) => do pure (f.offset, ← sizeOf f.type)) fields) with
        | none => simp only [hm] at h; cases h
        | some places =>
          simp only [hm, Option.bind] at h ⊢
          split at h
          · rename_i cells hf
            obtain ⟨r', hf', hr'⟩ := fill_rel (Z := Z) (c := c) (D := D) _ ps ps' _ _ _ hp hzz hf
            rw [hf']
            simp only [prun_pure, Option.some.injEq] at h ⊢
            subst h
            exact ⟨_, rfl, .agg _ _ hr'.1 hr'.2⟩
          · simp [prun_stuck] at h
      · rename_i len elem
        rw [prun_bind, prun_sizeOf] at h
        simp only [prun_bind, prun_sizeOf]
        cases hm : size? P elem with
        | none => simp only [hm] at h; cases h
        | some size =>
          simp only [hm, Option.bind] at h ⊢
          split at h
          · rename_i cells hf
            obtain ⟨r', hf', hr'⟩ := fill_rel (Z := Z) (c := c) (D := D) _ ps ps' _ _ _ hp hzz hf
            rw [hf']
            simp only [prun_pure, Option.some.injEq] at h ⊢
            subst h
            exact ⟨_, rfl, .agg _ _ hr'.1 hr'.2⟩
          · simp [prun_stuck] at h
      · simp [prun_stuck] at h

theorem part_rel {t : TypeId} {cs cs' : Array Value} {off : Nat} {v : Value} (hc : LR Z c D cs.toList cs'.toList) (h : prun P (part t cs off) = some v) :
    ∃ v', prun P (part t cs' off) = some v' ∧ VR Z c D v v' := by
  unfold part at h ⊢
  simp only [prun_bind, prun_isAgg] at h ⊢
  cases ha : isAgg? P t with
  | none => rw [ha] at h; cases h
  | some b =>
    rw [ha] at h
    simp only [Option.bind] at h ⊢
    cases b with
    | true =>
      simp only [if_true, prun_bind, prun_sizeOf] at h ⊢
      cases hs : size? P t with
      | none => rw [hs] at h; cases h
      | some sz =>
        simp only [hs, Option.bind, prun_pure, Option.some.injEq] at h ⊢
        subst h
        refine ⟨_, rfl, .agg _ _ ?_ ?_⟩
        all_goals
          have hx : LR Z c D (cs.extract off (off + sz)).toList (cs'.extract off (off + sz)).toList := by
            rw [Array.toList_extract, Array.toList_extract, List.extract_eq_take_drop, List.extract_eq_take_drop]
            exact (hc.drop off).take _
          first | exact hx.1 | exact hx.2
    | false =>
      simp only [Bool.false_eq_true, if_false] at h ⊢
      split at h
      · rename_i u hu
        simp only [prun_pure, Option.some.injEq] at h
        subst h
        obtain ⟨u', h1, h2⟩ := hc.at (by simpa using hu)
        have h1' : cs'[off]? = some u' := by simpa using h1
        rw [h1']
        exact ⟨u', rfl, h2⟩
      · simp [prun_stuck] at h
end
end Go.Proofs.Ytlkjdclhgmkndaa.Canon
