/-
  Calls that are entered; operations one behind the other.
  Operations one behind the other.
  Operations and calls, one behind the other.
  What an operation looks at.
  A region that draws its order: what the runner's one order leaves.
  A region that draws its order: the trace of the runner's one order.
-/
import Derived.Test.YtnfjdoeemnhkbaaCanonJ
namespace Go.Proofs.Ytnfjdoeemnhkbaa.Canon
set_option linter.unusedVariables false
set_option linter.unusedSimpArgs false
open Go.RowKit

def ANext.isVal : ANext → Bool
  | .val _ => true
  | .enter _ _ => false

/-- All rows have numbers that were told. -/
def Bd (s : St) : Prop := s.next ≤ 4000000 ∧ ∀ o, s.heap.get o ≠ none → o < s.next
/-- What is new has higher numbers; what is written is told. -/
def Mo (s s' : St) : Prop := s.next ≤ s'.next ∧ s'.mw ≤ s.mw ∧ (Bd s → Bd s' ∧ ∀ o, o < s'.mw → o < s.next → s'.heap.get o = s.heap.get o)

theorem Mo.refl (s : St) : Mo s s := ⟨Nat.le_refl _, Nat.le_refl _, fun h => ⟨h, fun _ _ _ => rfl⟩⟩
theorem Mo.trans {a b c : St} (h : Mo a b) (k : Mo b c) : Mo a c := by
  refine ⟨Nat.le_trans h.1 k.1, Nat.le_trans k.2.1 h.2.1, fun hb => ?_⟩
  obtain ⟨h1, h2⟩ := h.2.2 hb
  obtain ⟨k1, k2⟩ := k.2.2 h1
  refine ⟨k1, fun o h3 h4 => ?_⟩
  have h5 := h.1
  have k5 := k.2.1
  rw [k2 o h3 (by omega), h2 o (by omega) h4]

def Good (s : St) (r : ANext × St) : Prop := r.1.isVal = true ∧ Mo s r.2

theorem Good.val {s : St} {r : ANext × St} (h : Good s r) : r.1.isVal = true := h.1

theorem alloc_mo {s : St} (h : s.next < 4000000) (x : AObj) : Mo s ⟨s.next + 1, s.mw, T.set (some x) deep s.heap s.next⟩ := by
  have hget : ∀ p, (T.set (some x) deep s.heap s.next).get p = if p = s.next then some x else s.heap.get p := fun p => get_set _ _ _ _ _ (by unfold deep; omega)
  refine ⟨by dsimp only; omega, Nat.le_refl _, fun hb => ⟨⟨by dsimp only; omega, fun o ho => ?_⟩, fun o h1 h2 => ?_⟩⟩
  · rw [hget] at ho
    dsimp only
    split at ho
    · omega
    · have := hb.2 o ho; omega
  · rw [hget, if_neg (by omega)]
theorem set_mo {s : St} (x : Option AObj) {b : Nat} (hl : s.heap.get b ≠ none) : Mo s ⟨s.next, Nat.min s.mw b, T.set x deep s.heap b⟩ := by
  refine ⟨Nat.le_refl _, Nat.min_le_left _ _, fun hb => ?_⟩
  have hbl := hb.2 b hl
  have hget : ∀ p, (T.set x deep s.heap b).get p = if p = b then x else s.heap.get p := fun p => get_set _ _ _ _ _ (by have := hb.1; unfold deep; omega)
  refine ⟨⟨hb.1, fun o ho => ?_⟩, fun o h1 h2 => ?_⟩
  · rw [hget] at ho
    split at ho
    · dsimp only; omega
    · exact hb.2 o ho
  · dsimp only at h1
    have : Nat.min s.mw b ≤ b := Nat.min_le_right _ _
    rw [hget, if_neg (by omega)]

theorem alloc_good {e : TypeId} {cells : List Value} {ex : Bool} {s s0 : St} (h0 : Mo s0 s) {mk : Nat → Value} {r : ANext × St}
    (h : alloc e cells ex s (fun id s => some (.val (mk id), s)) = some r) : Good s0 r := by
  have := alloc_inv h
  simp only [Option.some.injEq] at this
  obtain ⟨h1, rfl⟩ := this
  exact ⟨rfl, h0.trans (alloc_mo h1 _)⟩

theorem bif_good {b : Bool} {x : Option (ANext × St)} {s : St} {r : ANext × St} (hx : x = some r → Good s r) (h : (bif b then x else none) = some r) : Good s r := hx (bif_inv h).2
theorem bif_good2 {b : Bool} {x y : Option (ANext × St)} {s : St} {r : ANext × St} (hx : x = some r → Good s r) (hy : y = some r → Good s r) (h : (bif b then x else y) = some r) : Good s r := by
  cases b
  · exact hy h
  · exact hx h
theorem some_good {v : Value} {s : St} {r : ANext × St} (h : some (ANext.val v, s) = some r) : Good s r := by cases h; exact ⟨rfl, .refl _⟩
theorem write_mono {s s2 : St} {a : Addr} {vs : List Value} (h : writeAt s a vs = some s2) : Mo s s2 := by
  unfold writeAt at h
  split at h
  · rename_i o ho
    obtain ⟨_, h⟩ := bif_inv h
    obtain ⟨_, h⟩ := bif_inv h
    split at h
    · simp only [Option.some.injEq] at h; subst h; exact set_mo _ (by rw [ho]; simp)
    · cases h
  · cases h
theorem write_good {v : Value} {s s2 : St} {a : Addr} {vs : List Value} {r : ANext × St} (hw : writeAt s a vs = some s2) (h : some (ANext.val v, s2) = some r) : Good s r := by
  cases h
  exact ⟨rfl, write_mono hw⟩

theorem make_good {e : TypeId} {i : TypeInfo} {z : Value} {bs : Option Addr} {len cap : Nat} {x : Value} {s : St} {r : ANext × St} (h : makeAppend e i z bs len cap x s = some r) : Good s r := by
  unfold makeAppend at h
  split at h
  · exact bif_good (fun h => alloc_good (.refl _) h) h
  · cases h
theorem append_good {P : Program} {e : TypeId} {size bytes : Nat} {bs : Option Addr} {len cap : Nat} {x : Value} {s : St} {r : ANext × St} (h : appendOp P e size bytes bs len cap x s = some r) : Good s r := by
  unfold appendOp at h
  split at h
  · cases h
  · refine bif_good2 (fun h => bif_good some_good h) (fun h => ?_) h
    split at h
    · cases h
    · rw [fNat_eq] at h
      refine bif_good (fun h => ?_) h
      split at h
      · exact bif_good (fun h => bif_good (fun h => alloc_good (.refl _) h) h) h
      · refine bif_good2 (fun h => bif_good (fun h => bif_good (fun h => bif_good (fun h => alloc_good (.refl _) h) h) h) h) (fun h => ?_) h
        refine bif_good2 (fun h => ?_) (fun h => ?_) h
        · split at h
          · rename_i hw; exact write_good hw h
          · cases h
        · split at h
          · rename_i ob old hob hold
            exact bif_good2 (fun h => alloc_good (.refl _) h) (fun h => bif_good (fun h => alloc_good (set_mo none (by rw [hob]; simp)) h) h) h
          · cases h

section
variable {Φ : Fx} {c : Ctx} {D : Nat → Prop} {P : Program} {w : World} {s s' : St}

theorem hop_good {E : Env} {ev : Operand → Value} (o : Oper) {r : ANext × St} (hh : hop E ev o s = some r) :
    Good s r ∨ ∃ cl f0 f first captured, o.op = .call cl ∧ cl.callee = .value f0 ∧ ev f0 = .func (.func f) first captured ∧ r = (.enter f (app first.toList (app (cl.args.toList.map ev) captured.toList)), s) := by
  obtain ⟨dst, op, type, pos, after, guard⟩ := o
  cases op <;> simp only [hop] at hh <;> first | (cases hh; done) | skip
  case alloc t =>
    split at hh
    · exact .inl (bif_good (fun h => alloc_good (.refl _) h) hh)
    · cases hh
  case box t x => exact .inl (alloc_good (.refl _) hh)
  case buildSlice t len parts =>
    split at hh
    · split at hh
      · refine .inl (bif_good (fun h => ?_) hh)
        split at h
        · exact alloc_good (.refl _) h
        · cases h
      · cases hh
    · cases hh
  case load t a =>
    split at hh
    · split at hh
      · exact .inl (some_good hh)
      · cases hh
    · split at hh
      · exact .inl (some_good hh)
      · cases hh
    · cases hh
  case store t a x =>
    split at hh
    · refine .inl (bif_good (fun h => ?_) hh)
      split at h
      · rename_i hw; exact write_good hw h
      · cases h
    · cases hh
  case makeSlice t l cp =>
    split at hh
    · split at hh
      · split at hh
        · exact .inl (bif_good (fun h => alloc_good (.refl _) h) hh)
        · cases hh
      · cases hh
    · cases hh
  case slice t x lo hi mx =>
    split at hh
    · split at hh
      · split at hh
        · exact .inl (some_good hh)
        · cases hh
      · cases hh
    · cases hh
  case convert src dst x =>
    split at hh
    · split at hh
      · exact .inl (alloc_good (.refl _) hh)
      · cases hh
    · split at hh
      · split at hh
        · split at hh
          · exact .inl (some_good hh)
          · cases hh
        · cases hh
      · cases hh
    · refine .inl (bif_good (fun h => ?_) hh)
      split at h
      · cases h
        exact ⟨rfl, Nat.le_refl _, Nat.min_le_left _ _, fun hb => ⟨hb, fun _ _ _ => rfl⟩⟩
      · cases h
    · cases hh
  case call cl =>
    obtain ⟨callee, cargs, argTypes⟩ := cl
    unfold hopCall at hh
    simp only at hh
    split at hh
    · split at hh
      · split at hh
        · split at hh
          · split at hh
            · refine .inl ?_
              exact bif_good2 (fun h => bif_good make_good h) (fun h => bif_good append_good h) hh
            · cases hh
          · cases hh
        · cases hh
      · cases hh
    · split at hh
      · split at hh
        · split at hh
          · refine .inl (bif_good2 some_good (fun h => ?_) hh)
            split at h
            · split at h
              · rename_i hw; exact write_good hw h
              · cases h
            · cases h
          · cases hh
        · cases hh
      · cases hh
    · split at hh
      · split at hh
        · split at hh
          · refine .inl (bif_good2 some_good (fun h => ?_) hh)
            split at h
            · refine bif_good (fun h => ?_) h
              split at h
              · rename_i hw; exact write_good hw h
              · cases h
            · cases h
          · cases hh
        · cases hh
      · cases hh
    · split at hh
      · split at hh
        · exact .inl (bif_good some_good hh)
        · cases hh
      · cases hh
    · rename_i f0
      split at hh
      · rename_i g first captured hg
        cases hh; exact .inr ⟨_, f0, _, _, _, rfl, rfl, hg, rfl⟩
      · cases hh
    · cases hh

theorem hop_enter {E : Env} {ev ev' : Operand → Value} (hE : E.P = P) (hev : ∀ x, VR (zId P) c D (ev x) (ev' x)) (o : Oper) {f : FuncId} {args : List Value}
    (hh : hop E ev o s = some (.enter f args, s')) {fn : Func} (hfn : P.funcs[f]? = some fn) (hb : fn.body.isSome = true) (hname : (fn.name == "runtime.NumGoroutine") = false) :
    s' = s ∧ ∃ args', LR (zId P) c D args args' ∧ (execOp ev' o).run P w = .ok (.enter f args'.toArray) w := by
  rcases hop_good o hh with ⟨h, _⟩ | ⟨cl, f0, g, first, captured, h1, h2, h3, h4⟩
  · cases h
  simp only [Prod.mk.injEq, ANext.enter.injEq] at h4
  obtain ⟨⟨rfl, rfl⟩, rfl⟩ := h4
  obtain ⟨dst, op, type, pos, after, guard⟩ := o
  obtain ⟨callee, cargs, argTypes⟩ := cl
  simp only at h1 h2
  subst h1 h2
  obtain ⟨f', g', r1, r2, r3⟩ := func_inv (h3 ▸ hev f0)
  refine ⟨rfl, f'.toList ++ (cargs.toList.map ev' ++ g'.toList), ?_, ?_⟩
  · rw [app_eq, app_eq]
    exact r2.append ((LR.map_ev hev _).append r3)
  · have e4 : (f'.toList ++ (cargs.toList.map ev' ++ g'.toList)).toArray = f' ++ cargs.map ev' ++ g' := by
      apply Array.toList_inj.1; simp
    rw [e4]
    have hb2 : fn.body.isNone = false := by cases hfb : fn.body with | none => rw [hfb] at hb; cases hb | some _ => rfl
    simp only [execOp, resolve, r1, Deferred.ofValue, Sem.run_bind, Sem.run_pure, Result.andThen_ok, invoke, callFunc, run_program, hfn, hname, hb2, Bool.false_eq_true, if_false]

/-- A call of an entry without a body. -/
theorem hop_ext {E : Env} {ev ev' : Operand → Value} (hE : E.P = P) (hev : ∀ x, VR (zId P) c D (ev x) (ev' x)) (o : Oper) {f : FuncId} {args : List Value}
    (hh : hop E ev o s = some (.enter f args, s')) {fn : Func} {row : Array Value → Sem Value} (hfn : P.funcs[f]? = some fn) (hname : (fn.name == "runtime.NumGoroutine") = false)
    (hb : fn.body.isNone = true) (hn : Extern.findNext fn = none) (he : Extern.find fn = some row) :
    s' = s ∧ ∃ args', LR (zId P) c D args args' ∧ (execOp ev' o).run P w = ((row args'.toArray).run P w).andThen fun v w' => .ok (.value v) w' := by
  rcases hop_good o hh with ⟨h, _⟩ | ⟨cl, f0, g, first, captured, h1, h2, h3, h4⟩
  · cases h
  simp only [Prod.mk.injEq, ANext.enter.injEq] at h4
  obtain ⟨⟨rfl, rfl⟩, rfl⟩ := h4
  obtain ⟨dst, op, type, pos, after, guard⟩ := o
  obtain ⟨callee, cargs, argTypes⟩ := cl
  simp only at h1 h2
  subst h1 h2
  obtain ⟨f', g', r1, r2, r3⟩ := func_inv (h3 ▸ hev f0)
  refine ⟨rfl, f'.toList ++ (cargs.toList.map ev' ++ g'.toList), ?_, ?_⟩
  · rw [app_eq, app_eq]
    exact r2.append ((LR.map_ev hev _).append r3)
  · have e4 : (f'.toList ++ (cargs.toList.map ev' ++ g'.toList)).toArray = f' ++ cargs.map ev' ++ g' := by
      apply Array.toList_inj.1; simp
    rw [e4, ← run_callFunc_extern hfn hname hb hn he]
    simp only [execOp, resolve, r1, Deferred.ofValue, Sem.run_bind, Sem.run_pure, Result.andThen_ok, invoke]
end
end Go.Proofs.Ytnfjdoeemnhkbaa.Canon

namespace Go.Proofs.Ytnfjdoeemnhkbaa.Canon
set_option linter.unusedVariables false
set_option linter.unusedSimpArgs false
open Go.RowKit

/-- Names from n to n' are new, with what they stand for; memory made meanwhile may be written no more. -/
structure Named (Φ : Fx) (c : Ctx) (n n' : Nat) (nl : Nat → List Value) (fz : Nat → Option Obj) (w w' : World) : Prop where
  old : ∀ o, ¬(n ≤ o ∧ o < n') → nl o = c.nv o
  more : ∀ b x, c.fz b = some x → fz b = some x
  at_ : ∀ b x, fz b = some x → w'.heap[b]? = some x
  low : ∀ b, b < w.heap.size → fz b = c.fz b
  kn : ∀ o, n ≤ o → o < n' → nl o ≠ [] → Φ.kn o (nl o) fz

structure EnvOK (Φ : Fx) (E : Env) : Prop where
  fn : ∀ f fn, E.fn f = some fn → E.P.funcs[f]? = some fn
  name : ∀ f fn, E.fn f = some fn → (fn.name == "runtime.NumGoroutine") = false
  mixed : E.P.follows .mixedOrders = true
  known : ∀ f, E.known f = true → ∀ w, Calls E.P f #[] w fun e w' => e = .returned (.bool true) ∧ Below w.heap.size w w'
  orc : ∀ f args s v s', E.orc f args s = some (v, s') → s'.heap = s.heap ∧ s'.mw = s.mw ∧ s.next ≤ s'.next ∧ (s.next ≤ 4000000 → s'.next ≤ 4000000) ∧
    ∀ (c : Ctx) (D : Nat → Prop) (w : World) (args' : List Value), HR Φ E.P c D s.heap w → (∀ o, s.next ≤ o → o < s'.next → ¬D o) → LR (zId E.P) c D args args' →
    Calls E.P f args'.toArray w fun e w' => ∃ nl fz v', e = .returned v' ∧ Below w.heap.size w w' ∧ Named Φ c s.next s'.next nl fz w w' ∧ VR (zId E.P) ⟨c.ρ, c.x, nl, fz⟩ (fun o => D o ∨ (s.next ≤ o ∧ o < s'.next)) v v'

/-- The numbers told, and those of a step. -/
def Dm (D : Nat → Prop) (n n' : Nat) : Nat → Prop := fun o => D o ∨ (n ≤ o ∧ o < n')

theorem Dm.nil (D : Nat → Prop) (n : Nat) : Dm D n n = D := dom_nil D n
theorem Dm.trans {D : Nat → Prop} {a b c : Nat} (h1 : a ≤ b) (h2 : b ≤ c) : Dm (Dm D a b) b c = Dm D a c := by
  funext o; apply propext; unfold Dm; constructor
  · rintro ((h | h) | h)
    · exact .inl h
    · exact .inr ⟨h.1, by omega⟩
    · exact .inr ⟨by omega, h.2⟩
  · rintro (h | h)
    · exact .inl (.inl h)
    · by_cases ho : o < b
      · exact .inl (.inr ⟨h.1, ho⟩)
      · exact .inr ⟨by omega, h.2⟩

/-- Package variables stand for themselves. -/
def Glob (Z : Nat) (c : Ctx) (D : Nat → Prop) : Prop := ∀ g, g < Z → D g ∧ c.ρ g = g

theorem Glob.step {Φ : Fx} {P : Program} {c c' : Ctx} {D : Nat → Prop} {H H' : T AObj} {n n' m : Nat} {w w' : World} (h : Glob (zId P) c D) (k : Step Φ P c c' D H H' n n' m w w') (hn : zId P < n) : Glob (zId P) c' (Dm D n n') :=
  fun g hg => ⟨.inl (h g hg).1, by rw [(k.agree g (by omega)).1]; exact (h g hg).2⟩

section
variable {Z : Nat} {c c' : Ctx} {D : Nat → Prop}

theorem VR.of_ground2 {v : Value} (g : Canon.ground2 v = true) : VR Z c D v v := by
  cases v <;> first | exact .of_ground (by simpa [Canon.ground2] using g) | skip
  case tuple cs =>
    have g' : ∀ x ∈ cs.toList, Canon.ground x = true := by rw [← allL_eq]; simpa [Canon.ground2] using g
    refine .tuple _ _ rfl fun i v v' h1 h2 => ?_
    rw [h1] at h2; simp only [Option.some.injEq] at h2; subst h2
    exact .of_ground (g' v (List.mem_of_getElem? h1))

/-- What an operand is, where what it names is known. -/
def ev1 (Z : Nat) (a : Act) : Operand → Value
  | .const v => bif Canon.ground2 v then v else undef
  | .global g => bif Nat.blt g Z then .pointer (some ⟨g, 0, none⟩) else undef
  | x => a.eval x

theorem ev1_rel {tm : List Value} {a : Act} (h : LR Z c D tm a.tmps.toList) (hg : Glob Z c D) (x : Operand) : VR Z c D (aeval Z tm x) (ev1 Z a x) := by
  cases x with
  | tmp t =>
    simp only [aeval, ev1, Act.eval, nth_eq]
    cases ht : tm[t]? with
    | none =>
      have : a.tmps.toList[t]? = none := by rw [List.getElem?_eq_none]; rw [← h.1]; exact List.getElem?_eq_none_iff.1 ht
      have : a.tmps.getD t undef = undef := by
        rw [Array.getElem?_toList] at this
        simp [this]
      rw [this]; exact .undef
    | some v =>
      obtain ⟨v', h1, h2⟩ := h.at ht
      have : a.tmps.getD t undef = v' := by
        rw [Array.getElem?_toList] at h1
        simp [h1]
      rw [this]; exact h2
  | const v =>
    simp only [aeval, ev1]
    cases hv : Canon.ground2 v
    · exact .undef
    · exact .of_ground2 hv
  | global g =>
    simp only [aeval, ev1]
    cases hv : Nat.blt g Z with
    | false => exact .undef
    | true =>
      rw [Nat.blt_eq] at hv
      have := VR.ptr (Z := Z) (c := c) (D := D) g 0 (hg g hv).1
      rw [(hg g hv).2] at this
      exact this
  | func f => exact .func _ _ _ _ _ rfl rfl (fun i v v' h => by simp at h) (fun i v v' h => by simp at h)

theorem ev1_eq {a : Act} {x : Operand} (h : opdOK Z x = true) : ev1 Z a x = a.eval x := by
  cases x with
  | const v => simp only [opdOK] at h; simp [ev1, Act.eval, h]
  | global g => simp only [opdOK] at h; simp [ev1, Act.eval, h]
  | _ => rfl

theorem ev1_op {a : Act} {o : Oper} (h : opOK Z o = true) : execOp a.eval o = execOp (ev1 Z a) o := by
  unfold opOK at h
  rw [Bool.and_eq_true, allL_eq] at h
  refine execOp_congr o (fun cs b e => ?_) fun x hx => (ev1_eq (h.2 x (by simpa using hx))).symm
  rw [e] at h; cases h.1

theorem LR.put {tm : List Value} {a : Act} (h : LR Z c D tm a.tmps.toList) {v v' : Value} (hv : VR Z c D v v') (d : Option Tmp) : LR Z c D (putT tm d v) (a.put d v').tmps.toList := by
  cases d with
  | none => exact h
  | some d =>
    simp only [putT, Act.put, setNth_eq, Array.toList_setIfInBounds]
    exact h.set d hv

theorem wanted_eq {tm : List Value} {a : Act} (h : LR Z c D tm a.tmps.toList) (ops : Array Oper) (o : Oper) : wanted ops.toList tm o = Region.wanted o (yielded ops a.tmps) := by
  unfold wanted Region.wanted
  cases o.guard with
  | none => rfl
  | some jw =>
    obtain ⟨j, want⟩ := jw
    simp only
    unfold dstOf yielded
    rw [nth_eq, Array.getElem?_toList]
    cases hj : ops[j]? with
    | none => simp
    | some oj =>
      simp only [Option.bind]
      cases oj.dst with
      | none => simp
      | some d =>
        simp only [nth_eq]
        cases hd : tm[d]? with
        | none =>
          have : a.tmps.toList[d]? = none := by rw [List.getElem?_eq_none]; rw [← h.1]; exact List.getElem?_eq_none_iff.1 hd
          rw [Array.getElem?_toList] at this
          rw [this]; rfl
        | some v =>
          obtain ⟨v', h1, h2⟩ := h.at hd
          rw [Array.getElem?_toList] at h1
          rw [h1]
          cases h2 with
          | bool b => cases b <;> cases want <;> rfl
          | cell k v h hv h1 hb => cases v' <;> first | rfl | exact absurd rfl (hb _)
          | nsl k h => rcases nslV_is (c.x (6000000 + 4 * k)) (c.x (6000000 + 4 * k + 1)) (c.x (6000000 + 4 * k + 2)) (c.x (6000000 + 4 * k + 3)) with e | e <;> rw [e] <;> rfl
          | _ => rfl
end
end Go.Proofs.Ytnfjdoeemnhkbaa.Canon

namespace Go.Proofs.Ytnfjdoeemnhkbaa.Canon
set_option linter.unusedVariables false
set_option linter.unusedSimpArgs false
open Go.RowKit

/-- What is promised of an entry without a body. -/
def ExtOK (Φ : Fx) (P : Program) (f : FuncId) (args : List Value) (s s' : St) (v : Value) : Prop :=
  s' = s ∧ ∃ fn row, P.funcs[f]? = some fn ∧ fn.body.isNone = true ∧ (fn.name == "runtime.NumGoroutine") = false ∧ Extern.findNext fn = none ∧ Extern.find fn = some row ∧
    ∀ c D w args', HR Φ P c D s.heap w → LR (zId P) c D args args' → ∃ v', VR (zId P) c D v v' ∧ (row args'.toArray).run P w = .ok v' w

/-- What is promised of calls. -/
def CallOK (Φ : Fx) (P : Program) (call : CallF) : Prop := ∀ f args s v s', call f args s = some (v, s') → zId P < s.next →
  Mo s s' ∧ (((∃ fn, P.funcs[f]? = some fn ∧ fn.body.isSome = true ∧ (fn.name == "runtime.NumGoroutine") = false) ∧
  ∀ c D w args', Bd s → HR Φ P c D s.heap w → Glob (zId P) c D → (∀ o, s.next ≤ o → o < s'.next → ¬D o) → LR (zId P) c D args args' →
    Calls P f args'.toArray w fun e w' => ∃ c' v', e = .returned v' ∧ Step Φ P c c' D s.heap s'.heap s.next s'.next s'.mw w w' ∧ VR (zId P) c' (Dm D s.next s'.next) v v') ∨ ExtOK Φ P f args s s' v)

section
variable {Φ : Fx} {P : Program} {E : Env} {call : CallF}

theorem doOp_mono (hc : CallOK Φ P call) {ev : Operand → Value} {o : Oper} {s s' : St} {v : Value} (h : doOp E call ev o s = some (v, s')) (hZ : zId P < s.next) : Mo s s' := by
  unfold doOp at h
  split at h
  · rename_i v1 s1 hh
    simp only [Option.some.injEq, Prod.mk.injEq] at h
    obtain ⟨rfl, rfl⟩ := h
    rcases hop_good o hh with ⟨_, h1⟩ | ⟨cl, f0, g, first, captured, _, _, _, h4⟩
    · exact h1
    · cases h4
  · rename_i f args s1 hh
    rcases hop_good o hh with ⟨h0, _⟩ | ⟨cl, f0, g, first, captured, _, _, _, h4⟩
    · cases h0
    · simp only [Prod.mk.injEq, ANext.enter.injEq] at h4
      obtain ⟨_, rfl⟩ := h4
      exact (hc _ _ _ _ _ h hZ).1
  · cases h

theorem doOp_sound (hE : E.P = P) (hc : CallOK Φ P call) {ev : Operand → Value} {o : Oper} {s s' : St} {v : Value} (h : doOp E call ev o s = some (v, s')) (hZ : zId P < s.next)
    {c : Ctx} {D : Nat → Prop} {w : World} {ev' : Operand → Value} (hB : Bd s) (hH : HR Φ P c D s.heap w) (hG : Glob (zId P) c D) (hf : ∀ o, s.next ≤ o → o < s'.next → ¬D o)
    (hev : ∀ x, VR (zId P) c D (ev x) (ev' x)) {a : Act} {next : Act → World → Prop} {Q : Exit → Act → World → Prop} (ha : execOp a.eval o = execOp ev' o)
    (hK : ∀ c' v' w', Step Φ P c c' D s.heap s'.heap s.next s'.next s'.mw w w' → VR (zId P) c' (Dm D s.next s'.next) v v' → next (a.put o.dst v') w') : o.wp P a w next Q := by
  unfold Oper.wp
  rw [ha]
  unfold doOp at h
  split at h
  · rename_i v1 s1 hh
    simp only [Option.some.injEq, Prod.mk.injEq] at h
    obtain ⟨rfl, rfl⟩ := h
    obtain ⟨_, c', v', w', e1, e2, e3⟩ := hop_val hE hH hZ hf hev o hh
    rcases e1 with e1 | ⟨e1, rfl⟩
    · rw [e1]; exact hK c' v' w' e2 e3
    · rw [e1]; exact hK c' undef w' e2 e3
  · rename_i f args s1 hh
    rcases hop_good o hh with ⟨h0, _⟩ | ⟨cl, f0, g, first, captured, _, _, _, h4⟩
    · cases h0
    · have h5 := h4
      simp only [Prod.mk.injEq, ANext.enter.injEq] at h4
      obtain ⟨_, rfl⟩ := h4
      obtain ⟨h1, ⟨⟨fn, h6, h7, h8⟩, h9⟩ | ⟨rfl, fn, row, h6, h7, h8, h9, h10, h11⟩⟩ := hc _ _ _ _ _ h hZ
      · obtain ⟨_, args', r1, r2⟩ := hop_enter (w := w) hE hev o hh h6 h7 h8
        rw [r2]
        refine (h9 c D w args' hB hH hG hf r1).mono fun e w' hp => ?_
        obtain ⟨c', v', rfl, k1, k2⟩ := hp
        exact hK c' v' w' k1 k2
      · obtain ⟨_, args', r1, r2⟩ := hop_ext (w := w) hE hev o hh h6 h8 h7 h9 h10
        obtain ⟨v', k1, k2⟩ := h11 c D w args' hH r1
        rw [r2, k2]
        exact hK c v' w (.refl hH) (by rw [Dm.nil]; exact k1)
  · cases h

/-- A state that stands at a place of the runner. -/
theorem fresh_sub {D : Nat → Prop} {a b c : Nat} (hf : ∀ o, a ≤ o → o < c → ¬D o) (h1 : a ≤ b) (h2 : b ≤ c) : (∀ o, a ≤ o → o < b → ¬D o) ∧ ∀ o, b ≤ o → o < c → ¬Dm D a b o :=
  ⟨fun o h3 h4 => hf o h3 (by omega), fun o h3 h4 h5 => by
    rcases h5 with h5 | h5
    · exact hf o (by omega) h4 h5
    · omega⟩

theorem runOps_mono (hc : CallOK Φ P call) {ops : List Oper} : ∀ (rest : List Oper) (tm tm' : List Value) (s s' : St), runOps E call ops rest tm s = some (tm', s') → zId P < s.next → Mo s s'
  | [], tm, tm', s, s', h, hZ => by
    simp only [runOps, Option.some.injEq, Prod.mk.injEq] at h
    obtain ⟨_, rfl⟩ := h
    exact .refl _
  | o :: rest, tm, tm', s, s', h, hZ => by
    unfold runOps at h
    cases hw : wanted ops tm o with
    | false =>
      rw [hw, cond_false] at h
      exact runOps_mono hc rest _ _ _ _ h hZ
    | true =>
      rw [hw, cond_true] at h
      split at h
      · rw [fVal_eq] at h
        exact runOps_mono hc rest _ _ _ _ h hZ
      · split at h
        · rename_i v s1 hd
          rw [fVal_eq] at h
          have h1 := doOp_mono hc hd hZ
          exact h1.trans (runOps_mono hc rest _ _ _ _ h (by have := h1.1; omega))
        · cases h

theorem runOps_sound (hE : E.P = P) (hc : CallOK Φ P call) {ops : Array Oper} (hok : opsOK (zId P) ops.toList = true) {Q : Exit → Act → World → Prop} :
    ∀ (rest : List Oper) (i : Nat) (tm tm' : List Value) (s s' : St), (∀ j, rest[j]? = ops[i + j]?) → runOps E call ops.toList rest tm s = some (tm', s') → zId P < s.next →
    ∀ (c : Ctx) (D : Nat → Prop) (w : World) (a : Act), Bd s → HR Φ P c D s.heap w → Glob (zId P) c D → (∀ o, s.next ≤ o → o < s'.next → ¬D o) → LR (zId P) c D tm a.tmps.toList →
    (∀ c' a' w', Step Φ P c c' D s.heap s'.heap s.next s'.next s'.mw w w' → LR (zId P) c' (Dm D s.next s'.next) tm' a'.tmps.toList → a'.defers = a.defers → Q .normal a' w') →
    wpOps P ops Q (List.range' i rest.length) a w
  | [], i, tm, tm', s, s', hj, h, hZ, c, D, w, a, hB, hH, hG, hf, hT, hQ => by
    simp only [runOps, Option.some.injEq, Prod.mk.injEq] at h
    obtain ⟨rfl, rfl⟩ := h
    exact hQ c a w (.refl hH) (by rw [Dm.nil]; exact hT) rfl
  | o :: rest, i, tm, tm', s, s', hj, h, hZ, c, D, w, a, hB, hH, hG, hf, hT, hQ => by
    have hi : ops[i]? = some o := by have := hj 0; simpa using this.symm
    have hj' : ∀ j, rest[j]? = ops[i + 1 + j]? := fun j => by have := hj (j + 1); rw [List.getElem?_cons_succ] at this; rw [this]; congr 1; omega
    have hoo : opOK (zId P) o = true := by
      unfold opsOK at hok
      rw [allL_eq] at hok
      exact hok o (by rw [Array.mem_toList_iff]; exact Array.mem_of_getElem? hi)
    unfold runOps at h
    rw [List.length_cons, List.range'_succ, wpOps, hi]
    simp only
    rw [← wanted_eq hT ops o]
    cases hw : wanted ops.toList tm o with
    | false =>
      rw [hw, cond_false] at h
      rw [if_neg (by simp)]
      refine runOps_sound hE hc hok rest (i + 1) _ _ _ _ hj' h hZ c D w _ hB hH hG hf (hT.put .undef _) fun c' a' w' h1 h2 h3 => hQ c' a' w' h1 h2 ?_
      rw [h3]; cases o.dst <;> rfl
    | true =>
      rw [hw, cond_true] at h
      rw [if_pos rfl]
      refine .inl ?_
      rw [hE] at h
      split at h
      · rename_i v hp
        rw [fVal_eq] at h
        obtain ⟨v', k1, k2⟩ := pop_sound (ev1_rel hT hG) o v hp
        unfold Oper.wp
        rw [ev1_op hoo, k2 w]
        refine runOps_sound hE hc hok rest (i + 1) _ _ _ _ hj' h hZ c D w _ hB hH hG hf (hT.put k1 _) fun c' a' w' h1 h2 h3 => hQ c' a' w' h1 h2 ?_
        rw [h3]; cases o.dst <;> rfl
      · split at h
        · rename_i v s1 hd
          rw [fVal_eq] at h
          obtain ⟨m1, m2, mb⟩ := doOp_mono hc hd hZ
          obtain ⟨m3, m4, _⟩ := runOps_mono hc rest _ _ _ _ h (by omega)
          obtain ⟨f1, f2⟩ := fresh_sub hf m1 m3
          refine doOp_sound hE hc hd hZ hB hH hG f1 (ev1_rel hT hG) (ev1_op hoo) fun c1 v1 w1 st1 hv1 => ?_
          refine runOps_sound hE hc hok rest (i + 1) _ _ _ _ hj' h (by omega) c1 (Dm D s.next s1.next) w1 _ (mb hB).1 st1.hr (hG.step st1 hZ) f2 ((hT.mono (fun o ho => st1.agree o fun ⟨h5, h6⟩ => f1 o h5 h6 ho) (fun o ho => .inl ho)).put hv1 _) fun c' a' w' h1 h2 h3 => hQ c' a' w' ?_ ?_ ?_
          · exact (st1.weaken m4).trans (fun o ho hoo => hf o hoo.1 hoo.2 ho) hH h1
          · rw [Dm.trans m1 m3] at h2; exact h2
          · rw [h3]; cases o.dst <;> rfl
        · cases h
end
end Go.Proofs.Ytnfjdoeemnhkbaa.Canon

namespace Go.Proofs.Ytnfjdoeemnhkbaa.Canon
set_option linter.unusedVariables false
set_option linter.unusedSimpArgs false
open Go.RowKit

theorem map_opt_congr {ev ev2 : Operand → Value} {r : Option Operand} (h : ∀ x, r = some x → ev x = ev2 x) : r.map ev = r.map ev2 := by
  cases r with
  | none => rfl
  | some x => simp [h x rfl]

theorem list_map_congr {ev ev2 : Operand → Value} {l : List Operand} (h : ∀ x ∈ l, ev x = ev2 x) : l.map ev = l.map ev2 := List.map_congr_left h

theorem pairs_congr {ev ev2 : Operand → Value} {l : List (Nat × Operand)} (h : ∀ p ∈ l, ev p.2 = ev2 p.2) : (l.map fun (i, x) => (i, ev x)) = l.map fun (i, x) => (i, ev2 x) :=
  List.map_congr_left fun p hp => by obtain ⟨i, x⟩ := p; simp only [h _ hp]

theorem pop_congr {P : Program} {ev ev2 : Operand → Value} (o : Oper) (h : ∀ x ∈ o.op.operands, ev x = ev2 x) : pop P ev o = pop P ev2 o := by
  obtain ⟨dst, op, type, pos, after, guard⟩ := o
  cases op <;> simp only [Op.operands] at h <;> simp only [pop]
  case move x => rw [h x (by simp)]
  case assign x => rw [h x (by simp)]
  case pick a b e => rw [h a (by simp), h b (by simp), h e (by simp)]
  case build t ps => rw [pairs_congr (ev := ev) (ev2 := ev2) fun p hp => h p.2 (by simp; exact ⟨p.1, by simpa using hp⟩)]
  case nilCheck x => rw [h x (by simp)]
  case binOp op t x y yt => rw [h x (by simp), h y (by simp)]
  case unOp op t x => rw [h x (by simp)]
  case convert s d x => rw [h x (by simp)]
  case makeFunc fn f g =>
    rw [Array.map_congr_left (xs := f) fun x hx => h x (by simp [hx]), Array.map_congr_left (xs := g) fun x hx => h x (by simp [hx])]
  case makeInterface t x => rw [h x (by simp)]
  case fieldAddr s x f => rw [h x (by simp)]
  case field s x f => rw [h x (by simp)]
  case indexAddr t x i => rw [h x (by simp), h i (by simp)]
  case index t x i => rw [h x (by simp), h i (by simp)]
  case extract x i => rw [h x (by simp)]
  case slice t x lo hi mx =>
    rw [h x (by simp), map_opt_congr (r := lo) fun y hy => h y (by simp [hy]), map_opt_congr (r := hi) fun y hy => h y (by simp [hy])]
  case call cl =>
    unfold popCall
    have ha : ∀ x ∈ cl.args.toList, ev x = ev2 x := fun x hx => h x (by simp [Call.operands]; exact .inr (by simpa using hx))
    rw [list_map_congr ha]
    cases hl : cl.args.toList with
    | nil => rfl
    | cons x r =>
      cases r with
      | nil =>
        have hx := ha x (by rw [hl]; simp)
        cases cl.callee with
        | value f => rfl
        | invoke a b => rfl
        | builtin b =>
          cases b <;> first | rfl | skip
          cases cl.argTypes.toList with
          | nil => rfl
          | cons t ts =>
            cases ts with
            | nil => simp only [hx]
            | cons _ _ => rfl
      | cons y r => rfl

theorem hop_congr {E : Env} {ev ev2 : Operand → Value} (o : Oper) (s : St) (h : ∀ x ∈ o.op.operands, ev x = ev2 x) : hop E ev o s = hop E ev2 o s := by
  obtain ⟨dst, op, type, pos, after, guard⟩ := o
  cases op <;> simp only [Op.operands] at h <;> simp only [hop]
  case box t x => rw [h x (by simp)]
  case buildSlice t n ps =>
    have e1 : (ps.map fun (i, x) => (i, ev x)).toList = ps.toList.map fun (i, x) => (i, ev x) := by simp
    have e2 : (ps.map fun (i, x) => (i, ev2 x)).toList = ps.toList.map fun (i, x) => (i, ev2 x) := by simp
    rw [e1, e2, pairs_congr (ev := ev) (ev2 := ev2) fun p hp => h p.2 (by simp; exact ⟨p.1, by simpa using hp⟩)]
  case load t x => rw [h x (by simp)]
  case store t x y => rw [h x (by simp), h y (by simp)]
  case makeSlice t x y => rw [h x (by simp), h y (by simp)]
  case slice t x lo hi mx =>
    rw [h x (by simp), map_opt_congr (r := lo) fun y hy => h y (by simp [hy]), map_opt_congr (r := hi) fun y hy => h y (by simp [hy]), map_opt_congr (r := mx) fun y hy => h y (by simp [hy])]
  case convert a b x => rw [h x (by simp)]
  case call cl =>
    unfold hopCall
    have ha : ∀ x ∈ cl.args.toList, ev x = ev2 x := fun x hx => h x (by simp [Call.operands]; exact .inr (by simpa using hx))
    have hf : ∀ f, cl.callee = .value f → ev f = ev2 f := fun f hf => h f (by simp [Call.operands, hf])
    rw [list_map_congr ha]
    cases hcl : cl.callee with
    | value f => simp only; rw [hf f hcl]
    | invoke r m => rfl
    | builtin b =>
      cases b <;> simp only
      case append =>
        cases hl : cl.args.toList with
        | nil => rfl
        | cons x r =>
          cases r with
          | nil => rfl
          | cons y r =>
            cases r with
            | nil =>
              have hx := ha x (by rw [hl]; simp)
              have hy := ha y (by rw [hl]; simp)
              cases cl.argTypes.toList with
              | nil => rfl
              | cons t ts => simp only [hx, hy]
            | cons z r => rfl
      case copy =>
        cases hl : cl.args.toList with
        | nil => rfl
        | cons x r =>
          cases r with
          | nil => rfl
          | cons y r =>
            cases r with
            | nil =>
              have hx := ha x (by rw [hl]; simp)
              have hy := ha y (by rw [hl]; simp)
              cases cl.argTypes.toList with
              | nil => rfl
              | cons t ts => simp only [hx, hy]
            | cons z r => rfl
      case clear =>
        cases hl : cl.args.toList with
        | nil => rfl
        | cons x r =>
          cases r with
          | nil =>
            have hx := ha x (by rw [hl]; simp)
            cases cl.argTypes.toList with
            | nil => rfl
            | cons t ts =>
              cases ts with
              | nil => simp only [hx]
              | cons _ _ => rfl
          | cons y r => rfl
      case cap =>
        cases hl : cl.args.toList with
        | nil => rfl
        | cons x r =>
          cases r with
          | nil =>
            have hx := ha x (by rw [hl]; simp)
            cases cl.argTypes.toList with
            | nil => rfl
            | cons t ts =>
              cases ts with
              | nil => simp only [hx]
              | cons _ _ => rfl
          | cons y r => rfl

theorem doOp_congr {E : Env} {call : CallF} {ev ev2 : Operand → Value} (o : Oper) (s : St) (h : ∀ x ∈ o.op.operands, ev x = ev2 x) : doOp E call ev o s = doOp E call ev2 o s := by
  unfold doOp; rw [hop_congr o s h]
end Go.Proofs.Ytnfjdoeemnhkbaa.Canon

namespace Go.Proofs.Ytnfjdoeemnhkbaa.Canon
set_option linter.unusedVariables false
set_option linter.unusedSimpArgs false
open Go.RowKit

/-- What became of one operation: 0 passed by; 1 no memory; 2 it reads; 3 it stands in a row with all that touch memory. -/
structure Rec where
  kind : Nat
  v : Value
  i : St
  o : St
  rd : Option (Addr × Nat × List Value)

noncomputable def tmSel (R : Nat → Rec) (sel : Nat → Bool) : List Oper → Nat → List Value → List Value
  | [], _, tm => tm
  | o :: r, k, tm => tmSel R sel r (k + 1) (bif sel k then putT tm o.dst (R k).v else tm)

theorem bif_not {α : Type} {b : Bool} {x : Option α} {v : α} (h : (bif b then none else x) = some v) : b = false ∧ x = some v := by
  cases b
  · exact ⟨rfl, h⟩
  · cases h
theorem bif_true {b x : Bool} (h : (bif b then x else false) = true) : b = true ∧ x = true := by
  cases b
  · cases h
  · exact ⟨rfl, h⟩
theorem bif_or {α : Type} {b : Bool} {x y v : α} (h : (bif b then x else y) = v) : (b = true ∧ x = v) ∨ (b = false ∧ y = v) := by
  cases b
  · exact .inr ⟨rfl, h⟩
  · exact .inl ⟨rfl, h⟩

/-- A row stands as an operation left it. -/
def own (r : Rec) (p : Nat) : Prop := (r.o.mw ≤ p ∨ r.i.next ≤ p) ∧ p < r.o.next ∧ r.o.heap.get p ≠ none
noncomputable def ov (r : Rec) (p : Nat) (rest : Option AObj) : Option AObj :=
  if (r.o.mw ≤ p ∨ r.i.next ≤ p) ∧ p < r.o.next then (match r.o.heap.get p with | some x => some x | none => rest) else rest
theorem ov_own {r : Rec} {p : Nat} {rest : Option AObj} (h : own r p) : ov r p rest = r.o.heap.get p := by
  unfold ov
  rw [if_pos ⟨h.1, h.2.1⟩]
  obtain ⟨x, hx⟩ := Option.ne_none_iff_exists'.1 h.2.2
  rw [hx]
theorem ov_not {r : Rec} {p : Nat} {rest : Option AObj} (h : ¬own r p) : ov r p rest = rest := by
  unfold ov
  split
  · rename_i h1
    cases hx : r.o.heap.get p with
    | none => rfl
    | some x => exact absurd ⟨h1.1, h1.2, by rw [hx]; simp⟩ h
  · rfl

/-- Memory, with what some of the operations that read left. -/
noncomputable def selTo (R : Nat → Rec) (H0 : Nat → Option AObj) (sel : Nat → Bool) : Nat → Nat → Option AObj
  | 0, p => H0 p
  | k + 1, p => if (R k).kind = 2 ∧ sel k = true then ov (R k) p (selTo R H0 sel k p) else selTo R H0 sel k p

theorem selTo_congr {R : Nat → Rec} {H0 : Nat → Option AObj} {sel sel' : Nat → Bool} : ∀ (k p : Nat), (∀ j, j < k → (R j).kind = 2 → own (R j) p → sel j = sel' j) → selTo R H0 sel k p = selTo R H0 sel' k p
  | 0, p, _ => rfl
  | k + 1, p, h => by
    have ih := selTo_congr (R := R) (H0 := H0) (sel := sel) (sel' := sel') k p fun j hj => h j (by omega)
    unfold selTo
    by_cases h2 : (R k).kind = 2
    · by_cases ho : own (R k) p
      · rw [h k (by omega) h2 ho, ih]
      · rw [ov_not ho, ov_not ho, ih]; simp
    · rw [if_neg (fun h => h2 h.1), if_neg (fun h => h2 h.1), ih]

theorem selTo_R {R R' : Nat → Rec} {H0 : Nat → Option AObj} {sel : Nat → Bool} : ∀ (k p : Nat), (∀ j, j < k → R' j = R j) → selTo R' H0 sel k p = selTo R H0 sel k p
  | 0, p, _ => rfl
  | k + 1, p, h => by
    unfold selTo
    rw [h k (by omega), selTo_R k p fun j hj => h j (by omega)]

/-- None of those behind k are taken. -/
theorem selTo_cut {R : Nat → Rec} {H0 : Nat → Option AObj} {sel : Nat → Bool} {k : Nat} (p : Nat) : ∀ n, k ≤ n → (∀ j, k ≤ j → j < n → (R j).kind = 2 → own (R j) p → sel j = false) → selTo R H0 sel n p = selTo R H0 sel k p
  | 0, h, _ => by rw [show k = 0 by omega]
  | n + 1, h, hs => by
    by_cases hk : k = n + 1
    · rw [hk]
    · have ih := selTo_cut (R := R) (H0 := H0) (sel := sel) (k := k) p n (by omega) fun j h1 h2 => hs j h1 (by omega)
      rw [← ih]
      show (if (R n).kind = 2 ∧ sel n = true then ov (R n) p (selTo R H0 sel n p) else selTo R H0 sel n p) = _
      by_cases h2 : (R n).kind = 2
      · by_cases ho : own (R n) p
        · rw [hs n (by omega) (by omega) h2 ho]; simp
        · rw [ov_not ho]; simp
      · rw [if_neg (fun h => h2 h.1)]

/-- The last one that left it. -/
theorem selTo_last {R : Nat → Rec} {H0 : Nat → Option AObj} {sel : Nat → Bool} {k n p : Nat} (hk : k < n) (h2 : (R k).kind = 2) (hs : sel k = true) (ho : own (R k) p)
    (hl : ∀ j, k < j → j < n → (R j).kind = 2 → own (R j) p → sel j = false) : selTo R H0 sel n p = (R k).o.heap.get p := by
  rw [selTo_cut (k := k + 1) p n (by omega) (fun j h1 h3 => hl j (by omega) h3)]
  show (if (R k).kind = 2 ∧ sel k = true then ov (R k) p (selTo R H0 sel k p) else selTo R H0 sel k p) = _
  rw [if_pos ⟨h2, hs⟩, ov_own ho]

/-- Where a row comes of. -/
theorem selTo_of {R : Nat → Rec} {H0 : Nat → Option AObj} {sel : Nat → Bool} : ∀ (k p : Nat), selTo R H0 sel k p = H0 p ∨ ∃ j, j < k ∧ (R j).kind = 2 ∧ sel j = true ∧ own (R j) p
  | 0, p => .inl rfl
  | k + 1, p => by
    show (if (R k).kind = 2 ∧ sel k = true then ov (R k) p (selTo R H0 sel k p) else selTo R H0 sel k p) = H0 p ∨ _
    have up : (selTo R H0 sel k p = H0 p ∨ ∃ j, j < k ∧ (R j).kind = 2 ∧ sel j = true ∧ own (R j) p) → selTo R H0 sel k p = H0 p ∨ ∃ j, j < k + 1 ∧ (R j).kind = 2 ∧ sel j = true ∧ own (R j) p := by
      rintro (h | ⟨j, h1, h2⟩)
      · exact .inl h
      · exact .inr ⟨j, by omega, h2⟩
    by_cases h2 : (R k).kind = 2 ∧ sel k = true
    · rw [if_pos h2]
      by_cases ho : own (R k) p
      · exact .inr ⟨k, by omega, h2.1, h2.2, ho⟩
      · rw [ov_not ho]; exact up (selTo_of k p)
    · rw [if_neg h2]; exact up (selTo_of k p)

noncomputable def fullTo (R : Nat → Rec) (H0 : Nat → Option AObj) : Nat → Nat → Option AObj
  | 0 => H0
  | k + 1 => if (R k).kind = 2 then (fun o => ov (R k) o (fullTo R H0 k o))
      else if (R k).kind = 3 then (R k).o.heap.get else fullTo R H0 k

theorem fullTo_congr {R R' : Nat → Rec} {H0 : Nat → Option AObj} : ∀ k, (∀ j, j < k → R' j = R j) → fullTo R' H0 k = fullTo R H0 k
  | 0, _ => rfl
  | k + 1, h => by
    unfold fullTo
    rw [h k (by omega), fullTo_congr k fun j hj => h j (by omega)]

theorem fullTo_sel {R : Nat → Rec} {H0 : Nat → Option AObj} : ∀ (k p : Nat), (∀ j, j < k → (R j).kind ≠ 3) → fullTo R H0 k p = selTo R H0 (fun _ => true) k p
  | 0, p, _ => rfl
  | k + 1, p, h => by
    have ih := fullTo_sel (R := R) (H0 := H0) k p fun j hj => h j (by omega)
    unfold fullTo selTo
    by_cases h2 : (R k).kind = 2
    · rw [if_pos h2, if_pos ⟨h2, rfl⟩, ih]
    · rw [if_neg h2, if_neg (h k (by omega)), if_neg (fun h => h2 h.1), ih]

theorem tmSel_congr {R R' : Nat → Rec} {sel : Nat → Bool} : ∀ (ops : List Oper) (k : Nat) (tm : List Value), (∀ j, sel j = true → R' j = R j) → tmSel R' sel ops k tm = tmSel R sel ops k tm
  | [], k, tm, h => rfl
  | o :: r, k, tm, h => by
    unfold tmSel
    rw [tmSel_congr r (k + 1) _ h]
    cases hk : sel k with
    | false => rfl
    | true => rw [h k hk]

theorem putT_len (tm : List Value) (d : Option Tmp) (v : Value) : (putT tm d v).length = tm.length := by
  cases d <;> simp [putT, setNth_eq]

theorem tmSel_none {R : Nat → Rec} {sel : Nat → Bool} : ∀ (ops : List Oper) (k : Nat) (tm : List Value), (∀ j, k ≤ j → sel j = false) → tmSel R sel ops k tm = tm
  | [], k, tm, h => rfl
  | o :: r, k, tm, h => by
    unfold tmSel
    rw [h k (Nat.le_refl _), cond_false, tmSel_none r (k + 1) tm fun j hj => h j (by omega)]

/-- Selections that agree on those who write t, agree at t. -/
theorem tmSel_at {R : Nat → Rec} {sel sel' : Nat → Bool} {t : Nat} : ∀ (ops : List Oper) (k : Nat) (tm tm' : List Value), tm[t]? = tm'[t]? →
    (∀ j o, ops[j]? = some o → o.dst = some t → sel (k + j) = sel' (k + j)) → (tmSel R sel ops k tm)[t]? = (tmSel R sel' ops k tm')[t]?
  | [], k, tm, tm', h, _ => h
  | o :: r, k, tm, tm', h, hs => by
    unfold tmSel
    refine tmSel_at r (k + 1) _ _ ?_ fun j o' hj hd => by have := hs (j + 1) o' (by simpa using hj) hd; rwa [show k + (j + 1) = k + 1 + j by omega] at this
    by_cases hd : o.dst = some t
    · have := hs 0 o rfl hd
      rw [Nat.add_zero] at this
      rw [this]
      cases sel' k with
      | false => exact h
      | true =>
        have hl : (t < tm.length) ↔ (t < tm'.length) := by
          constructor
          · intro h1; rcases Nat.lt_or_ge t tm'.length with h2 | h2
            · exact h2
            · rw [List.getElem?_eq_getElem h1, List.getElem?_eq_none h2] at h; cases h
          · intro h1; rcases Nat.lt_or_ge t tm.length with h2 | h2
            · exact h2
            · rw [List.getElem?_eq_getElem h1, List.getElem?_eq_none h2] at h; cases h
        simp only [cond_true, hd, putT, setNth_eq, List.getElem?_set, if_true]
        by_cases h1 : t < tm.length
        · rw [if_pos h1, if_pos (hl.1 h1)]
        · rw [if_neg h1, if_neg (fun h2 => h1 (hl.2 h2))]
    · have e1 : ∀ (b : Bool) (x : List Value), (bif b then putT x o.dst (R k).v else x)[t]? = x[t]? := by
        intro b x
        cases b with
        | false => rfl
        | true =>
          cases hdd : o.dst with
          | none => rfl
          | some d =>
            simp only [cond_true, putT, setNth_eq, List.getElem?_set]
            rw [if_neg (fun e => hd (by rw [hdd, e]))]
      rw [e1, e1]; exact h

/-- One more that writes t, none behind it: its value stands there. -/
theorem tmSel_put {R : Nat → Rec} {sel : Nat → Bool} {i t : Nat} {oi : Oper} : ∀ (ops : List Oper) (k : Nat) (tm : List Value), k ≤ i → ops[i - k]? = some oi →
    (∀ j o, ops[j]? = some o → i < k + j → o.dst = some t → oi.dst = some t → sel (k + j) = false) →
    (tmSel R (fun j => sel j || decide (j = i)) ops k tm)[t]? = (putT (tmSel R (fun j => sel j && !decide (j = i)) ops k tm) oi.dst (R i).v)[t]?
  | [], k, tm, hk, hi, _ => by simp at hi
  | o :: r, k, tm, hk, hi, hs => by
    by_cases hki : k = i
    · subst hki
      rw [Nat.sub_self] at hi
      simp only [List.getElem?_cons_zero, Option.some.injEq] at hi
      subst hi
      unfold tmSel
      simp only [decide_true, Bool.or_true, cond_true, Bool.not_true, Bool.and_false, cond_false]
      by_cases hd : o.dst = some t
      · have e1 : (tmSel R (fun j => sel j || decide (j = k)) r (k + 1) (putT tm o.dst (R k).v))[t]? = (putT tm o.dst (R k).v)[t]? := by
          have := tmSel_at (R := R) (sel := fun j => sel j || decide (j = k)) (sel' := fun _ => false) (t := t) r (k + 1) (putT tm o.dst (R k).v) (putT tm o.dst (R k).v) rfl fun j o' hj hd' => by
            have := hs (j + 1) o' (by simpa using hj) (by omega) hd' hd
            rw [show k + (j + 1) = k + 1 + j by omega] at this
            simp [this]; omega
          rw [this, tmSel_none _ _ _ fun _ _ => rfl]
        rw [e1, hd]
        simp only [putT, setNth_eq, List.getElem?_set, if_true]
        have hlen : ∀ (ops : List Oper) (k : Nat) (tm : List Value) (s : Nat → Bool), (tmSel R s ops k tm).length = tm.length := by
          intro ops
          induction ops with
          | nil => intro k tm s; rfl
          | cons o r ih => intro k tm s; unfold tmSel; rw [ih]; cases s k <;> simp [putT_len]
        rw [hlen]
      · have e2 : ∀ x : List Value, (putT x o.dst (R k).v)[t]? = x[t]? := by
          intro x
          cases hdd : o.dst with
          | none => rfl
          | some d =>
            simp only [putT, setNth_eq, List.getElem?_set]
            rw [if_neg (fun e => hd (by rw [hdd, e]))]
        rw [e2]
        refine tmSel_at r (k + 1) _ _ (e2 tm) fun j o' hj hd' => ?_
        have : ¬ k + 1 + j = k := by omega
        simp [this]
    · unfold tmSel
      have h1 : decide (k = i) = false := by simpa using hki
      simp only [h1, Bool.or_false, Bool.not_false, Bool.and_true]
      refine tmSel_put r (k + 1) _ (by omega) ?_ fun j o' hj hlt hd hd' => ?_
      · rw [show i - k = (i - (k + 1)) + 1 by omega] at hi
        simpa using hi
      · have := hs (j + 1) o' (by simpa using hj) (by omega) hd hd'
        rwa [show k + (j + 1) = k + 1 + j by omega] at this

theorem merge_get (n1 : Nat) (src : T AObj) (hn : n1 ≤ 4000000) : ∀ (f n0 : Nat) (t : T AObj) (o : Nat), n1 - n0 ≤ f →
    (merge n0 n1 src f t).get o = if n0 ≤ o ∧ o < n1 then (match src.get o with | some x => some x | none => t.get o) else t.get o
  | 0, n0, t, o, h => by
    unfold merge
    rw [if_neg (by omega)]
  | f + 1, n0, t, o, h => by
    unfold merge
    rw [nblt]
    by_cases hlt : n0 < n1
    · rw [decide_eq_true hlt, cond_true, merge_get n1 src hn f (n0 + 1) _ o (by omega)]
      have hset : (graft src t n0).get o = if o = n0 then (match src.get n0 with | some x => some x | none => t.get n0) else t.get o := by
        unfold graft
        split
        · rename_i x hx
          rw [get_set _ _ _ _ _ (by unfold deep; omega), hx]
        · rename_i hx
          rw [hx]
          split
          · rename_i e; rw [e]
          · rfl
      rw [hset]
      by_cases ho : o = n0
      · subst ho
        rw [if_neg (by omega), if_pos rfl, if_pos (by omega)]
      · rw [if_neg ho]
        by_cases h2 : n0 + 1 ≤ o ∧ o < n1
        · rw [if_pos h2, if_pos (by omega)]
        · rw [if_neg h2, if_neg (by omega)]
    · rw [decide_eq_false hlt, cond_false, if_neg (by omega)]

theorem lo_le {mw next p : Nat} : Nat.min mw next ≤ p ↔ (mw ≤ p ∨ next ≤ p) := by
  show min mw next ≤ p ↔ _
  omega

/-- What is seen of the rest: those that are waited for. -/
theorem putDelta_get {m : Nat} {d : Delta} {h : T AObj} (hd : d.hi ≤ 4000000) (p : Nat) :
    (putDelta m d h).get p = if Nat.testBit m d.at_ = true then (if d.lo ≤ p ∧ p < d.hi then (match d.out.get p with | some x => some x | none => h.get p) else h.get p) else h.get p := by
  unfold putDelta
  cases Nat.testBit m d.at_ with
  | false => simp
  | true => rw [cond_true, merge_get _ _ hd _ _ _ _ (Nat.le_refl _)]; simp

theorem disj_spec {a b : T AObj} : ∀ (f lo : Nat), disj a b lo f = true → ∀ p, lo ≤ p → p < lo + f → a.get p ≠ none → b.get p = none
  | 0, lo, _, p, h1, h2, _ => by omega
  | f + 1, lo, h, p, h1, h2, h3 => by
    unfold disj at h
    by_cases hp : p = lo
    · subst hp
      split at h
      · rename_i e; exact absurd e h3
      · split at h
        · assumption
        · cases h
    · split at h
      · exact disj_spec f (lo + 1) h p (by omega) (by omega) h3
      · split at h
        · exact disj_spec f (lo + 1) h p (by omega) (by omega) h3
        · cases h

theorem kept_spec {a b : T AObj} : ∀ (f lo : Nat), kept a b lo f = true → ∀ p, lo ≤ p → p < lo + f → (a.get p = none ↔ b.get p = none)
  | 0, lo, _, p, h1, h2 => by omega
  | f + 1, lo, h, p, h1, h2 => by
    unfold kept at h
    by_cases hp : p = lo
    · subst hp
      split at h
      · rename_i e1 e2; simp [e1, e2]
      · rename_i e1 e2; simp [e1, e2]
      · cases h
    · split at h
      · exact kept_spec f (lo + 1) h p (by omega) (by omega)
      · exact kept_spec f (lo + 1) h p (by omega) (by omega)
      · cases h
end Go.Proofs.Ytnfjdoeemnhkbaa.Canon

namespace Go.Proofs.Ytnfjdoeemnhkbaa.Canon
set_option linter.unusedVariables false
set_option linter.unusedSimpArgs false
open Go.RowKit

noncomputable def text (ops : List Oper) (tm0 : List Value) (R : Nat → Rec) (k : Nat) : List Value := tmSel R (fun j => decide (j < k)) ops 0 tm0

noncomputable def cellsF (F : Nat → Option AObj) (a : Addr) (n : Nat) : Option (List Value) := match F a.block with
  | some o => takeN n (dropN a.off o.cells)
  | none => none
theorem cellsAt_F (h : T AObj) (a : Addr) (n : Nat) : cellsAt h a n = cellsF h.get a n := rfl

/-- It is a load, there, of these cells. -/
def LoadsTo (P : Program) (ev : Operand → Value) (o : Oper) (ad : Addr) (n : Nat) (cs : List Value) (v : Value) : Prop :=
  ∃ t a, o.op = .load t a ∧ ev a = .pointer (some ad) ∧ ((isAgg? P t = some true ∧ size? P t = some n ∧ v = .agg cs.toArray) ∨ (isAgg? P t = some false ∧ (∃ sz, size? P t = some sz) ∧ n = 1 ∧ cs = [v]))

/-- These cells stand there in each memory that there may be. -/
def StillAt (H0 : Nat → Option AObj) (R : Nat → Rec) (m k : Nat) (ad : Addr) (n : Nat) (cs : List Value) : Prop :=
  (∃ j, j < k ∧ (R j).kind = 3 ∧ m.testBit j = true ∧ ∀ q, j ≤ q → q < k → (R q).kind = 3 → cellsF (R q).o.heap.get ad n = some cs) ∨
  (cellsF H0 ad n = some cs ∧ ∀ q, q < k → (R q).kind = 3 → cellsF (R q).o.heap.get ad n = some cs)

structure CR (P : Program) (E : Env) (call : CallF) (ops : List Oper) (M : List Nat) (tm0 : List Value) (H0 : Nat → Option AObj) (n0 : Nat) (R : Nat → Rec) (k : Nat) (o : Oper) : Prop where
  le : (R k).kind ≤ 3
  k0 : (R k).kind = 0 → wanted ops (text ops tm0 R k) o = false ∧ (R k).v = undef
  k1 : (R k).kind = 1 → wanted ops (text ops tm0 R k) o = true ∧ (pop P (aeval (zId P) (text ops tm0 R k)) o = some (R k).v ∨
    ∃ ad n cs, (R k).rd = some (ad, n, cs) ∧ ad.block < n0 ∧ LoadsTo P (aeval (zId P) (text ops tm0 R k)) o ad n cs (R k).v ∧ StillAt H0 R (M.getD k 0) k ad n cs)
  k2 : 2 ≤ (R k).kind → wanted ops (text ops tm0 R k) o = true ∧ doOp E call (aeval (zId P) (text ops tm0 R k)) o (R k).i = some ((R k).v, (R k).o) ∧
    (R k).i.mw = (R k).i.next ∧ Bd (R k).i ∧ n0 ≤ (R k).i.next ∧ ∀ j, j < k → 2 ≤ (R j).kind → (R j).o.next ≤ (R k).i.next
  kr : (R k).kind = 2 → n0 ≤ (R k).o.mw ∧ (∀ p, (R k).o.mw ≤ p → p < (R k).i.next → ((R k).i.heap.get p = none ↔ (R k).o.heap.get p = none)) ∧ (∀ j, j < k → (R j).kind ≠ 3) ∧
    (∀ p obj, (R k).i.heap.get p = some obj → selTo R H0 (fun j => (M.getD k 0).testBit j) k p = some obj) ∧
    ∀ j, j < k → (R j).kind = 2 → (M.getD k 0).testBit j = true ∨ ((∀ p, own (R j) p → (R k).i.heap.get p = none) ∧ ∀ p, p < (R k).i.next → own (R k) p → (R j).i.heap.get p = none)
  k3 : (R k).kind = 3 → (∀ j, j < k → 2 ≤ (R j).kind → (M.getD k 0).testBit j = true) ∧ (R k).i.heap.get = fullTo R H0 k ∧
    ∀ j, j < k → ∀ ad n cs, (R j).rd = some (ad, n, cs) → (M.getD k 0).testBit j = true ∨ cellsF (R k).o.heap.get ad n = some cs

theorem StillAt.congr {H0 : Nat → Option AObj} {R R' : Nat → Rec} {m k : Nat} {ad : Addr} {n : Nat} {cs : List Value} (h : StillAt H0 R m k ad n cs) (e : ∀ j, j < k → R' j = R j) : StillAt H0 R' m k ad n cs := by
  rcases h with ⟨j, h1, h2, h3, h4⟩ | ⟨h1, h2⟩
  · exact .inl ⟨j, h1, by rw [e j h1]; exact h2, h3, fun q hq1 hq2 hq3 => by rw [e q hq2] at hq3 ⊢; exact h4 q hq1 hq2 hq3⟩
  · exact .inr ⟨h1, fun q hq2 hq3 => by rw [e q hq2] at hq3 ⊢; exact h2 q hq2 hq3⟩

/-- The memories behind those that stand in a row, the last one first. -/
def OutsOK (R : Nat → Rec) : Nat → List (Nat × T AObj) → Prop
  | i, [] => ∀ j, j < i → (R j).kind ≠ 3
  | i, (t, h) :: r => t < i ∧ (R t).kind = 3 ∧ h = (R t).o.heap ∧ (∀ j, t < j → j < i → (R j).kind ≠ 3) ∧ OutsOK R t r

theorem OutsOK.congr {R R' : Nat → Rec} : ∀ {l : List (Nat × T AObj)} {i : Nat}, OutsOK R i l → (∀ j, j < i → R' j = R j) → OutsOK R' i l
  | [], i, h, e => fun j hj => by rw [e j hj]; exact h j hj
  | (t, x) :: r, i, ⟨h1, h2, h3, h4, h5⟩, e =>
    ⟨h1, by rw [e t h1]; exact h2, by rw [e t h1]; exact h3, fun j hj1 hj2 => by rw [e j hj2]; exact h4 j hj1 hj2, h5.congr fun j hj => e j (by omega)⟩

theorem OutsOK.on {R : Nat → Rec} {l : List (Nat × T AObj)} {i : Nat} (h : OutsOK R i l) (hk : (R i).kind ≠ 3) : OutsOK R (i + 1) l := by
  cases l with
  | nil =>
    intro j hj
    by_cases e : j = i
    · rw [e]; exact hk
    · exact h j (by omega)
  | cons x r =>
    obtain ⟨t, x⟩ := x
    obtain ⟨h1, h2, h3, h4, h5⟩ := h
    refine ⟨by omega, h2, h3, fun j hj1 hj2 => ?_, h5⟩
    by_cases e : j = i
    · rw [e]; exact hk
    · exact h4 j hj1 (by omega)

theorem addrEq_spec {a b : Addr} (h : addrEq a b = true) : a = b := by
  unfold addrEq at h
  split at h
  · rename_i b o b' o'
    cases h1 : Nat.beq b b' with
    | false => rw [h1] at h; cases h
    | true =>
      rw [h1, cond_true] at h
      rw [Nat.eq_of_beq_eq_true h1, Nat.eq_of_beq_eq_true h]
  · cases h

theorem sameV_spec {a b : Value} (h : sameV a b = true) : a = b := by
  unfold sameV at h
  split at h
  · rename_i a b; cases a <;> cases b <;> first | rfl | cases h
  · rename_i k a k' b
    cases h1 : kbeq k k' with
    | false => rw [h1] at h; cases h
    | true => rw [h1, cond_true] at h; rw [ibeq_eq] at h; rw [(kbeq_eq k k').1 h1, of_decide_eq_true h]
  · rename_i a b
    rw [bytesEq_eq] at h
    have := of_decide_eq_true h
    congr 1
    exact ByteArray.ext (Array.toList_inj.1 this)
  · rfl
  · rw [addrEq_spec h]
  · rename_i l c l' c'
    obtain ⟨h1, h2⟩ := bif_true h
    rw [Nat.eq_of_beq_eq_true h1, Nat.eq_of_beq_eq_true h2]
  · rename_i a l c b l' c'
    obtain ⟨h1, h2⟩ := bif_true h
    obtain ⟨h2, h3⟩ := bif_true h2
    rw [addrEq_spec h1, Nat.eq_of_beq_eq_true h2, Nat.eq_of_beq_eq_true h3]
  · rfl
  · rfl
  · cases h

theorem sameL_spec : ∀ {l r : List Value}, sameL l r = true → l = r
  | [], [], _ => rfl
  | [], _ :: _, h => by cases h
  | _ :: _, [], h => by cases h
  | a :: l, b :: r, h => by
    unfold sameL at h
    obtain ⟨h1, h2⟩ := bif_true h
    rw [sameV_spec h1, sameL_spec h2]

theorem candOf_spec {H0 : Nat → Option AObj} {R : Nat → Rec} {m : Nat} {ad : Addr} {n : Nat} {h0 : T AObj} (e : h0.get = H0) : ∀ {l : List (Nat × T AObj)} {i : Nat} {cs : List Value}, OutsOK R i l → candOf m ad n h0 l = some cs → StillAt H0 R m i ad n cs
  | [], i, cs, h, hc => .inr ⟨by rw [← e, ← cellsAt_F]; exact hc, fun q hq hk => absurd hk (h q hq)⟩
  | (t, x) :: r, i, cs, ⟨h1, h2, h3, h4, h5⟩, hc => by
    unfold candOf at hc
    split at hc
    · cases hc
    · rename_i cs1 hcs1
      have hx : cellsF (R t).o.heap.get ad n = some cs1 := by rw [← h3, ← cellsAt_F]; exact hcs1
      rcases bif_or hc with ⟨hb, hc⟩ | ⟨_, hc⟩
      · simp only [Option.some.injEq] at hc
        subst hc
        refine .inl ⟨t, h1, h2, hb, fun q hq1 hq2 hq3 => ?_⟩
        by_cases hqt : q = t
        · rw [hqt]; exact hx
        · exact absurd hq3 (h4 q (by omega) hq2)
      · split at hc
        · rename_i cs2 hcs2
          obtain ⟨hs, hc⟩ := bif_inv hc
          simp only [Option.some.injEq] at hc
          subst hc
          have he := sameL_spec hs
          subst he
          rcases candOf_spec e h5 hcs2 with ⟨j, k1, k2, k3, k4⟩ | ⟨k1, k2⟩
          · refine .inl ⟨j, by omega, k2, k3, fun q hq1 hq2 hq3 => ?_⟩
            rcases Nat.lt_trichotomy q t with h | h | h
            · exact k4 q hq1 h hq3
            · rw [h]; exact hx
            · exact absurd hq3 (h4 q h hq2)
          · refine .inr ⟨k1, fun q hq2 hq3 => ?_⟩
            rcases Nat.lt_trichotomy q t with h | h | h
            · exact k2 q h hq3
            · rw [h]; exact hx
            · exact absurd hq3 (h4 q h hq2)
        · cases hc

theorem stillOf_spec {P : Program} {ev : Operand → Value} {o : Oper} {n0 m : Nat} {h0 : T AObj} {outs : List (Nat × T AObj)} {v : Value} {ad : Addr} {n : Nat} {cs : List Value} (h : stillOf P ev o n0 m h0 outs = some (v, ad, n, cs)) :
    ad.block < n0 ∧ LoadsTo P ev o ad n cs v ∧ candOf m ad n h0 outs = some cs := by
  unfold stillOf at h
  split at h
  · rename_i t a ho
    split at h
    · rename_i ad1 sz ha hag hsz
      obtain ⟨h1, h⟩ := bif_inv h
      rw [Nat.blt_eq] at h1
      split at h
      · rename_i cs1 hcs
        simp only [Option.some.injEq, Prod.mk.injEq] at h
        obtain ⟨rfl, rfl, rfl, rfl⟩ := h
        exact ⟨h1, ⟨t, a, ho, ha, .inl ⟨hag, hsz, rfl⟩⟩, hcs⟩
      · cases h
    · rename_i ad1 sz ha hag hsz
      obtain ⟨h1, h⟩ := bif_inv h
      rw [Nat.blt_eq] at h1
      split at h
      · rename_i v1 hcs
        simp only [Option.some.injEq, Prod.mk.injEq] at h
        obtain ⟨rfl, rfl, rfl, rfl⟩ := h
        exact ⟨h1, ⟨t, a, ho, ha, .inr ⟨hag, ⟨_, hsz⟩, rfl, rfl⟩⟩, hcs⟩
      · cases h
    · cases h
  · cases h

theorem text_congr {ops : List Oper} {tm0 : List Value} {R R' : Nat → Rec} {k : Nat} (h : ∀ j, j < k → R' j = R j) : text ops tm0 R' k = text ops tm0 R k :=
  tmSel_congr ops 0 tm0 fun j hj => h j (by simpa using hj)

noncomputable def upd (R : Nat → Rec) (i : Nat) (r : Rec) : Nat → Rec := fun j => if j = i then r else R j
theorem upd_at (R : Nat → Rec) (i : Nat) (r : Rec) : upd R i r i = r := if_pos rfl
theorem upd_ne (R : Nat → Rec) (i : Nat) (r : Rec) {j : Nat} (h : j ≠ i) : upd R i r j = R j := if_neg h
theorem upd_lt (R : Nat → Rec) (i : Nat) (r : Rec) {j : Nat} (h : j < i) : upd R i r j = R j := upd_ne R i r (by omega)

theorem text_succ {ops : List Oper} {tm0 : List Value} {R : Nat → Rec} {i : Nat} {o : Oper} (hi : ops[i]? = some o) : text ops tm0 R (i + 1) = putT (text ops tm0 R i) o.dst (R i).v := by
  apply List.ext_getElem?
  intro t
  unfold text
  have h1 := tmSel_put (R := R) (sel := fun j => decide (j < i + 1)) (i := i) (t := t) (oi := o) ops 0 tm0 (Nat.zero_le _) (by simpa using hi)
    (fun j o' hj hlt _ _ => by simp; omega)
  have e1 : (fun j => decide (j < i + 1) || decide (j = i)) = fun j => decide (j < i + 1) := by funext j; by_cases h : j = i <;> simp [h]
  have e2 : (fun j => decide (j < i + 1) && !decide (j = i)) = fun j => decide (j < i) := by
    funext j; rw [Bool.eq_iff_iff]; simp; omega
  rw [e1, e2] at h1
  exact h1

section
variable {Φ : Fx} {P : Program} {E : Env} {call : CallF} {ops : List Oper} {M : List Nat} {tm0 : List Value} {H0 : Nat → Option AObj} {n0 : Nat}

structure DInv (ops : List Oper) (tm0 : List Value) (H0 : Nat → Option AObj) (n0 i : Nat) (R : Nat → Rec) (touched : Nat) (seq : Bool) (base : T AObj) (outs : List (Nat × T AObj)) (reads : List Rdg) (deltas : List Delta) (tm : List Value) (s : St) : Prop where
  tm : tm = text ops tm0 R i
  bd : Bd s
  heap : s.heap.get = fullTo R H0 i
  ge : n0 ≤ s.next
  nx : ∀ j, j < i → 2 ≤ (R j).kind → (R j).o.next ≤ s.next
  tc : ∀ j, j < i → 2 ≤ (R j).kind → touched.testBit j = true
  sq : seq = false → (∀ j, j < i → (R j).kind ≠ 3) ∧ (∀ m p, (seen m base deltas).get p = selTo R H0 (fun j => m.testBit j) i p) ∧ (∀ d ∈ deltas, d.hi ≤ s.next) ∧
    ∀ j, j < i → (R j).kind = 2 → ∃ d ∈ deltas, d.at_ = j ∧ d.lo = Nat.min (R j).o.mw (R j).i.next ∧ d.hi = (R j).o.next ∧ d.out = (R j).o.heap ∧ d.inn = (R j).i.heap
  h0 : ∀ o, H0 o ≠ none → o < n0
  bs : base.get = H0
  ou : OutsOK R i outs
  rs : ∀ j, j < i → ∀ ad n cs, (R j).rd = some (ad, n, cs) → ∃ r ∈ reads, r.at_ = j ∧ r.ad = ad ∧ r.n = n ∧ r.cs = cs

theorem testBit_or {a i j : Nat} : (Nat.lor a (Nat.shiftLeft 1 i)).testBit j = (a.testBit j || decide (j = i)) := by
  show (a ||| (1 <<< i)).testBit j = _
  rw [Nat.testBit_or, Nat.shiftLeft_eq, Nat.one_mul, Nat.testBit_two_pow]
  congr 1
  rw [Bool.eq_iff_iff]; simp; omega

theorem land_eq {t m : Nat} (h : Nat.land t m = t) {j : Nat} (ht : t.testBit j = true) : m.testBit j = true := by
  have : (t &&& m).testBit j = t.testBit j := by show (Nat.land t m).testBit j = _; rw [h]
  rw [Nat.testBit_and, ht, Bool.true_and] at this
  exact this

/-- Nothing is touched: one place on. -/
theorem DInv.on {i touched : Nat} {R : Nat → Rec} {seq : Bool} {base : T AObj} {outs : List (Nat × T AObj)} {reads reads' : List Rdg} {deltas : List Delta} {tm : List Value} {s : St} (h : DInv ops tm0 H0 n0 i R touched seq base outs reads deltas tm s)
    {o : Oper} (hi : ops[i]? = some o) (r : Rec) (hk : r.kind < 2) (hrs : ∀ x ∈ reads, x ∈ reads') (hrd : ∀ ad n cs, r.rd = some (ad, n, cs) → ⟨i, ad, n, cs⟩ ∈ reads') : DInv ops tm0 H0 n0 (i + 1) (upd R i r) touched seq base outs reads' deltas (putT tm o.dst r.v) s := by
  have hlt : ∀ j, j < i → (upd R i r) j = R j := fun j hj => upd_lt R i r hj
  refine ⟨?_, h.bd, ?_, h.ge, fun j hj hk' => ?_, fun j hj hk' => ?_, fun hs => ⟨fun j hj => ?_, fun m p => ?_, (h.sq hs).2.2.1, fun j hj hk' => ?_⟩, h.h0, h.bs, (h.ou.congr hlt).on (by rw [upd_at]; omega), fun j hj ad n cs he => ?_⟩
  · rw [text_succ hi, upd_at, text_congr (R := R) hlt, h.tm]
  · unfold fullTo
    rw [upd_at, if_neg (by omega), if_neg (by omega), fullTo_congr i hlt]; exact h.heap
  · by_cases hji : j = i
    · rw [hji, upd_at] at hk'; omega
    · rw [upd_ne _ _ _ hji] at hk' ⊢; exact h.nx j (by omega) hk'
  · by_cases hji : j = i
    · rw [hji, upd_at] at hk'; omega
    · rw [upd_ne _ _ _ hji] at hk'; exact h.tc j (by omega) hk'
  · by_cases hji : j = i
    · rw [hji, upd_at]; omega
    · rw [upd_ne _ _ _ hji]; exact (h.sq hs).1 j (by omega)
  · unfold selTo
    rw [upd_at, if_neg (fun h => by omega), selTo_R i p hlt]
    exact (h.sq hs).2.1 m p
  · by_cases hji : j = i
    · rw [hji, upd_at] at hk'; omega
    · rw [upd_ne _ _ _ hji] at hk' ⊢; exact (h.sq hs).2.2.2 j (by omega) hk'
  · by_cases hji : j = i
    · rw [hji, upd_at] at he
      exact ⟨_, hrd ad n cs he, hji.symm, rfl, rfl, rfl⟩
    · rw [upd_ne _ _ _ hji] at he
      obtain ⟨x, hx, hx2⟩ := h.rs j (by omega) ad n cs he
      exact ⟨x, hrs x hx, hx2⟩

/-- What runDrawn leaves, told by the records of its operations. -/
def Traced (P : Program) (E : Env) (call : CallF) (ops : List Oper) (M : List Nat) (tm0 : List Value) (H0 : Nat → Option AObj) (n0 i : Nat) (R : Nat → Rec) (s : St) (tm' : List Value) (s' : St) : Prop :=
  ∃ R' : Nat → Rec, (∀ j, j < i → R' j = R j) ∧ (∀ k, i ≤ k → ∀ o, ops[k]? = some o → CR P E call ops M tm0 H0 n0 R' k o) ∧ tm' = text ops tm0 R' ops.length ∧
    s'.heap.get = fullTo R' H0 ops.length ∧ s.next ≤ s'.next ∧ s'.mw ≤ s.mw ∧ Bd s' ∧ (∀ k, i ≤ k → k < ops.length → 2 ≤ (R' k).kind → (R' k).o.next ≤ s'.next) ∧
    (∀ k, i ≤ k → k < ops.length → (R' k).kind = 3 → s'.mw ≤ (R' k).o.mw ∨ (R' k).i.next ≤ (R' k).o.mw) ∧ ∀ o, o < s'.mw → o < s.next → s'.heap.get o = s.heap.get o

/-- One record, and what comes behind it. -/
theorem Traced.cons {i : Nat} {R : Nat → Rec} {r : Rec} {s s1 s' : St} {tm' : List Value} {o : Oper} (hi : ops[i]? = some o)
    (hC : CR P E call ops M tm0 H0 n0 (upd R i r) i o) (h1 : s.next ≤ s1.next) (h2 : s1.mw ≤ s.mw)
    (h3 : 2 ≤ r.kind → r.o.next ≤ s1.next) (h4 : r.kind = 3 → s1.mw ≤ r.o.mw ∨ r.i.next ≤ r.o.mw) (h5 : ∀ o, o < s1.mw → o < s.next → s1.heap.get o = s.heap.get o)
    (h : Traced P E call ops M tm0 H0 n0 (i + 1) (upd R i r) s1 tm' s') : Traced P E call ops M tm0 H0 n0 i R s tm' s' := by
  obtain ⟨R', a1, a2, a3, a4, a5, a6, a7, a8, a9, a10⟩ := h
  have hR' : ∀ j, j < i → R' j = R j := fun j hj => by rw [a1 j (by omega)]; exact upd_lt R i r hj
  have hRi : R' i = r := by rw [a1 i (by omega)]; exact upd_at R i r
  refine ⟨R', hR', fun k hk o' ho' => ?_, a3, a4, by omega, by omega, a7, fun k hk hl hkk => ?_, fun k hk hl hkk => ?_, fun p hp1 hp2 => ?_⟩
  · rcases Nat.lt_or_ge i k with h6 | h6
    · exact a2 k (by omega) o' ho'
    · obtain rfl : k = i := by omega
      rw [hi] at ho'
      simp only [Option.some.injEq] at ho'
      subst ho'
      have e1 : ∀ j, j < k → R' j = (upd R k r) j := fun j hj => a1 j (by omega)
      have e2 : R' k = (upd R k r) k := a1 k (by omega)
      have e3 : text ops tm0 R' k = text ops tm0 (upd R k r) k := text_congr e1
      have e4 : fullTo R' H0 k = fullTo (upd R k r) H0 k := fullTo_congr k e1
      refine ⟨by rw [e2]; exact hC.le, by rw [e2, e3]; exact hC.k0, fun h7 => ?_, fun h7 => ?_, fun h7 => ?_, fun h7 => ?_⟩
      · rw [e2] at h7
        obtain ⟨b1, b2⟩ := hC.k1 h7
        rw [e2, e3]
        refine ⟨b1, b2.imp id ?_⟩
        rintro ⟨ad, n, cs, c1, c2, c3, c4⟩
        exact ⟨ad, n, cs, c1, c2, c3, c4.congr e1⟩
      · rw [e2] at h7
        obtain ⟨b1, b2, b3, b4, b5, b6⟩ := hC.k2 h7
        rw [e2, e3]
        exact ⟨b1, b2, b3, b4, b5, fun j hj hjj => by rw [e1 j hj] at hjj ⊢; exact b6 j hj hjj⟩
      · rw [e2] at h7
        obtain ⟨b1, b2, b3, b4, b5⟩ := hC.kr h7
        rw [e2]
        refine ⟨b1, b2, fun j hj => by rw [e1 j hj]; exact b3 j hj, fun p obj hp => ?_, fun j hj hjj => ?_⟩
        · rw [selTo_R (R := upd R k r) k p e1]; exact b4 p obj hp
        · rw [e1 j hj] at hjj ⊢; exact b5 j hj hjj
      · rw [e2] at h7
        obtain ⟨b1, b2, b3⟩ := hC.k3 h7
        exact ⟨fun j hj hjj => by rw [e1 j hj] at hjj; exact b1 j hj hjj, by rw [e2, e4]; exact b2, fun j hj ad n cs he => by rw [e1 j hj] at he; rw [e2]; exact b3 j hj ad n cs he⟩
  · rcases Nat.lt_or_ge i k with h6 | h6
    · exact a8 k (by omega) hl hkk
    · obtain rfl : k = i := by omega
      rw [hRi] at hkk ⊢
      have := h3 hkk; omega
  · rcases Nat.lt_or_ge i k with h6 | h6
    · exact a9 k (by omega) hl hkk
    · obtain rfl : k = i := by omega
      rw [hRi] at hkk ⊢
      rcases h4 hkk with h9 | h9
      · exact .inl (by omega)
      · exact .inr h9
  · rw [a10 p hp1 (by omega), h5 p (by omega) hp2]

theorem headN_drop (M : List Nat) (i : Nat) : headN (M.drop i) = M.getD i 0 := by
  cases hd : M.drop i with
  | nil =>
    have : M.length ≤ i := by simpa using hd
    simp [headN, List.getD, List.getElem?_eq_none this]
  | cons x r =>
    have : M[i]? = some x := by have := congrArg (fun l => l[0]?) hd; simpa using this
    simp [headN, List.getD, this]
theorem tailN_drop (M : List Nat) (i : Nat) : tailN (M.drop i) = M.drop (i + 1) := by
  have e : ∀ l : List Nat, tailN l = l.tail := fun l => by cases l <;> rfl
  rw [e, List.tail_drop]

theorem drawn_trace (hE : E.P = P) (hc : CallOK Φ P call) : ∀ (rest : List Oper) (i : Nat) (R : Nat → Rec) (touched : Nat) (seq : Bool) (base : T AObj) (outs : List (Nat × T AObj)) (reads : List Rdg) (deltas : List Delta) (tm : List Value) (s : St)
    (tm' : List Value) (s' : St), (∀ j, rest[j]? = ops[i + j]?) → runDrawn E call n0 ops rest (M.drop i) i touched seq base outs reads deltas tm s = some (tm', s') → zId P < s.next →
    DInv ops tm0 H0 n0 i R touched seq base outs reads deltas tm s → i ≤ ops.length → Traced P E call ops M tm0 H0 n0 i R s tm' s'
  | [], i, R, touched, seq, base, outs, reads, deltas, tm, s, tm', s', hj, h, hZ, I, hle => by
    have hlen : ops.length = i := by
      have := hj 0
      rw [List.getElem?_nil, Nat.add_zero] at this
      have := List.getElem?_eq_none_iff.1 this.symm
      omega
    simp only [runDrawn, Option.some.injEq, Prod.mk.injEq] at h
    obtain ⟨rfl, rfl⟩ := h
    refine ⟨R, fun _ _ => rfl, fun k hk o ho => ?_, by rw [hlen]; exact I.tm, by rw [hlen]; exact I.heap, Nat.le_refl _, Nat.le_refl _, I.bd, fun k hk hl => by omega, fun k hk hl => by omega, fun _ _ _ => rfl⟩
    have := (List.getElem?_eq_some_iff.1 ho).1
    omega
  | o :: rest, i, R, touched, seq, base, outs, reads, deltas, tm, s, tm', s', hj, h, hZ, I, hle => by
    have hi : ops[i]? = some o := by have := hj 0; simpa using this.symm
    have hlt : i < ops.length := (List.getElem?_eq_some_iff.1 hi).1
    have hj' : ∀ j, rest[j]? = ops[i + 1 + j]? := fun j => by have := hj (j + 1); rw [List.getElem?_cons_succ] at this; rw [this]; congr 1; omega
    have hm1 := headN_drop M i
    have hm2 := tailN_drop M i
    have htext : ∀ r, text ops tm0 (upd R i r) i = text ops tm0 R i := fun r => text_congr fun j hj => upd_lt R i r hj
    unfold runDrawn at h
    simp only [hm1, hm2] at h
    cases hw : wanted ops tm o with
    | false =>
      rw [hw, cond_false] at h
      have I2 := I.on hi ⟨0, undef, s, s, none⟩ (show 0 < 2 by omega) (fun _ hx => hx) (fun _ _ _ he => by cases he)
      refine Traced.cons hi ?_ (Nat.le_refl _) (Nat.le_refl _) (fun h => by simp at h) (fun h => by simp at h) (fun _ _ _ => rfl) (drawn_trace hE hc rest (i + 1) _ _ _ _ _ _ _ _ _ _ _ hj' h hZ I2 hlt)
      refine ⟨by rw [upd_at]; exact Nat.zero_le 3, fun _ => ?_, fun h => ?_, fun h => ?_, fun h => ?_, fun h => ?_⟩
      · rw [upd_at, htext, ← I.tm]; exact ⟨hw, rfl⟩
      all_goals (rw [upd_at] at h; simp at h)
    | true =>
      rw [hw, cond_true] at h
      rw [hE] at h
      split at h
      · rename_i v hp
        rw [fVal_eq] at h
        have I2 := I.on hi ⟨1, v, s, s, none⟩ (show 1 < 2 by omega) (fun _ hx => hx) (fun _ _ _ he => by cases he)
        refine Traced.cons hi ?_ (Nat.le_refl _) (Nat.le_refl _) (fun h => by simp at h) (fun h => by simp at h) (fun _ _ _ => rfl) (drawn_trace hE hc rest (i + 1) _ _ _ _ _ _ _ _ _ _ _ hj' h hZ I2 hlt)
        refine ⟨by rw [upd_at]; show 1 ≤ 3; omega, fun h => ?_, fun _ => ?_, fun h => ?_, fun h => ?_, fun h => ?_⟩
        · rw [upd_at] at h; simp at h
        · rw [upd_at, htext, ← I.tm]; exact ⟨hw, .inl hp⟩
        all_goals (rw [upd_at] at h; simp at h)
      · rename_i hpn
        split at h
        · rename_i v ad n cs hst
          obtain ⟨hs1, hs2, hs3⟩ := stillOf_spec hst
          rw [fVal_eq] at h
          have I2 := I.on hi ⟨1, v, s, s, some (ad, n, cs)⟩ (show 1 < 2 by omega) (fun _ hx => List.mem_cons_of_mem _ hx) (fun _ _ _ he => by cases he; exact List.mem_cons_self)
          refine Traced.cons hi ?_ (Nat.le_refl _) (Nat.le_refl _) (fun h => by simp at h) (fun h => by simp at h) (fun _ _ _ => rfl) (drawn_trace hE hc rest (i + 1) _ _ _ _ _ _ _ _ _ _ _ hj' h hZ I2 hlt)
          refine ⟨by rw [upd_at]; show 1 ≤ 3; omega, fun h => ?_, fun _ => ?_, fun h => ?_, fun h => ?_, fun h => ?_⟩
          · rw [upd_at] at h; simp at h
          · rw [upd_at, htext, ← I.tm]; exact ⟨hw, .inr ⟨ad, n, cs, rfl, hs1, hs2, (candOf_spec I.bs I.ou hs3).congr fun j hj => upd_lt _ _ _ hj⟩⟩
          all_goals (rw [upd_at] at h; simp at h)
        -- it touches memory
        obtain ⟨hnot, h⟩ := bif_not h
        generalize hall : Nat.beq (Nat.land touched (M.getD i 0)) touched = all at h hnot
        have hbits : all = true → ∀ j, j < i → 2 ≤ (R j).kind → (M.getD i 0).testBit j = true := fun ha j hj hk => land_eq (Nat.beq_eq.mp (hall.trans ha)) (I.tc j hj hk)
        -- what it sees
        have hseq : seq = false ∨ all = true := by
          cases seq with
          | false => exact .inl rfl
          | true => cases all with
            | true => exact .inr rfl
            | false => simp at hnot
        generalize hhh : (bif all then s.heap else seen (M.getD i 0) base deltas) = hh at h
        have hview : seq = false → ∀ p obj, hh.get p = some obj → selTo R H0 (fun j => (M.getD i 0).testBit j) i p = some obj := by
          intro hs p obj hp
          obtain ⟨q1, q2, q3, q4⟩ := I.sq hs
          cases ha : all with
          | true =>
            rw [ha, cond_true] at hhh
            rw [← hhh, I.heap, fullTo_sel i p q1] at hp
            rw [← hp]
            exact selTo_congr i p fun j hj hj2 _ => hbits ha j hj (by omega)
          | false =>
            rw [ha, cond_false] at hhh
            rw [← hhh, q2] at hp
            exact hp
        have hsee : ∀ p, hh.get p ≠ none → p < s.next := by
          intro p hp
          cases ha : all with
          | true => rw [ha, cond_true] at hhh; rw [← hhh] at hp; exact I.bd.2 p hp
          | false =>
            have hs : seq = false := by rcases hseq with h | h <;> simp_all
            obtain ⟨obj, hob⟩ := Option.ne_none_iff_exists'.1 hp
            have hv := hview hs p obj hob
            rcases selTo_of (R := R) (H0 := H0) (sel := fun j => (M.getD i 0).testBit j) i p with h8 | ⟨j, h8, h9, _, h10⟩
            · rw [hv] at h8
              have := I.h0 p (by rw [← h8]; simp)
              have := I.ge
              omega
            · have := I.nx j h8 (by omega)
              have := h10.2.1
              omega
        have hbd2 : Bd ⟨s.next, s.next, hh⟩ := ⟨I.bd.1, hsee⟩
        split at h
        · rename_i v s1 hd
          rw [fVal_eq] at h
          obtain ⟨m1, m2, m3⟩ := doOp_mono hc hd hZ
          obtain ⟨m4, m5⟩ := m3 hbd2
          dsimp only at m1 m2 m5
          rcases bif_or h with ⟨hgood, h⟩ | ⟨_, h4⟩
          · have hs : seq = false := by cases seq with | false => rfl | true => cases hgood
            rw [hs, cond_false] at hgood
            obtain ⟨g1, g2⟩ := bif_true hgood
            obtain ⟨g3, g4⟩ := bif_true g2
            rw [Nat.ble_eq] at g1
            rw [allL_eq] at g4
            obtain ⟨q1, q2, q3, q4⟩ := I.sq hs
            have hkept : ∀ p, s1.mw ≤ p → p < s.next → (hh.get p = none ↔ s1.heap.get p = none) := fun p h1 h2 =>
              kept_spec _ _ g3 p (by rw [lo_le]; exact .inl h1) (by have : Nat.min s1.mw s.next ≤ p := lo_le.2 (.inl h1); omega)
            have hr : own ⟨2, v, ⟨s.next, s.next, hh⟩, s1, none⟩ = fun p => (s1.mw ≤ p ∨ s.next ≤ p) ∧ p < s1.next ∧ s1.heap.get p ≠ none := rfl
            -- memory behind it
            have hget : ∀ p, (bif all then s1.heap else merge (Nat.min s1.mw s.next) s1.next s1.heap (s1.next - Nat.min s1.mw s.next) s.heap).get p = ov ⟨2, v, ⟨s.next, s.next, hh⟩, s1, none⟩ p (s.heap.get p) := fun p => by
              cases ha : all with
              | true =>
                rw [ha, cond_true] at hhh
                rw [cond_true]
                by_cases ho : own ⟨2, v, ⟨s.next, s.next, hh⟩, s1, none⟩ p
                · rw [ov_own ho]
                · rw [ov_not ho]
                  rw [hr] at ho
                  by_cases hlo : s1.mw ≤ p ∨ s.next ≤ p
                  · have e1 : s1.heap.get p = none := Classical.byContradiction fun hne => by
                      have := m4.2 p hne
                      exact ho ⟨hlo, this, hne⟩
                    rw [e1]
                    rcases Nat.lt_or_ge p s.next with h6 | h6
                    · have h7 : s1.mw ≤ p := by omega
                      rw [hhh, (hkept p h7 h6).2 e1]
                    · exact (Classical.byContradiction fun hne => by have := I.bd.2 p (fun e => hne e.symm); omega)
                  · rw [m5 p (by omega) (by omega), hhh]
              | false =>
                rw [cond_false, merge_get _ _ m4.1 _ _ _ _ (Nat.le_refl _)]
                unfold ov
                simp only [lo_le]
            refine Traced.cons (r := ⟨2, v, ⟨s.next, s.next, hh⟩, s1, none⟩) (s1 := ⟨s1.next, Nat.min s.mw s1.mw, bif all then s1.heap else merge (Nat.min s1.mw s.next) s1.next s1.heap (s1.next - Nat.min s1.mw s.next) s.heap⟩) hi ?_ m1 (Nat.min_le_left _ _) (fun _ => Nat.le_refl _) (fun h7 => by cases h7) (fun p hp1 hp2 => ?_)
              (drawn_trace hE hc rest (i + 1) _ _ _ _ _ _ _ _ _ _ _ hj' h (by dsimp only; omega) ?_ hlt)
            · refine ⟨by rw [upd_at]; show 2 ≤ 3; omega, fun h7 => ?_, fun h7 => ?_, fun _ => ?_, fun h7 => ?_, fun h7 => ?_⟩
              · rw [upd_at] at h7; cases h7
              · rw [upd_at] at h7; cases h7
              · rw [upd_at, htext, ← I.tm]
                exact ⟨hw, hd, rfl, hbd2, I.ge, fun j hj hk => by rw [upd_lt _ _ _ hj] at hk ⊢; exact I.nx j hj hk⟩
              · rw [upd_at]
                refine ⟨g1, hkept, fun j hj => by rw [upd_lt _ _ _ hj]; exact q1 j hj, fun p obj hp => ?_, fun j hj hj2 => ?_⟩
                · rw [selTo_R (R := R) i p fun j hj => upd_lt _ _ _ hj]
                  exact hview hs p obj hp
                · rw [upd_lt _ _ _ hj] at hj2 ⊢
                  obtain ⟨d, d1, d2, d3, d4, d5, d6⟩ := q4 j hj hj2
                  have hp2 := g4 d d1
                  unfold pairOK2 at hp2
                  cases hb : Nat.testBit (M.getD i 0) d.at_ with
                  | true => left; rw [← d2]; exact hb
                  | false =>
                    rw [hb, cond_false] at hp2
                    obtain ⟨p1, p2⟩ := bif_true hp2
                    refine .inr ⟨fun p hp => ?_, fun p hpn hp => ?_⟩
                    · have h9 : d.lo ≤ p := by rw [d3, lo_le]; exact hp.1
                      exact disj_spec _ _ p1 p h9 (by have := hp.2.1; omega) (by rw [d5]; exact hp.2.2)
                    · have h9 : Nat.min s1.mw s.next ≤ p := lo_le.2 hp.1
                      rw [← d6]
                      exact disj_spec _ _ p2 p h9 (by dsimp only at hpn; omega) hp.2.2
              · rw [upd_at] at h7; cases h7
            · dsimp only at hp1 ⊢
              rw [hget, ov_not]
              rw [hr]
              rintro ⟨h8, _⟩
              have : p < s1.mw := Nat.lt_of_lt_of_le hp1 (Nat.min_le_right _ _)
              omega
            · refine ⟨?_, ⟨m4.1, fun p hp => ?_⟩, ?_, by have := I.ge; dsimp only; omega, fun j hj hk => ?_, fun j hj hk => ?_, fun _ => ⟨fun j hj hk => ?_, fun m p => ?_, fun d hdm => ?_, fun j hj hk => ?_⟩, I.h0, I.bs, (I.ou.congr fun j hj => upd_lt _ _ _ hj).on (by rw [upd_at]; exact fun e => by cases e), fun j hj ad n cs he => ?_⟩
              · rw [text_succ hi, upd_at, htext, I.tm]
              · dsimp only at hp ⊢
                rw [hget] at hp
                by_cases ho : own ⟨2, v, ⟨s.next, s.next, hh⟩, s1, none⟩ p
                · exact ho.2.1
                · rw [ov_not ho] at hp
                  have := I.bd.2 p hp; omega
              · dsimp only
                unfold fullTo
                rw [upd_at, fullTo_congr (R := R) i fun j hj => upd_lt _ _ _ hj, ← I.heap, if_pos rfl]
                funext p
                exact hget p
              · by_cases hji : j = i
                · rw [hji, upd_at]; exact Nat.le_refl _
                · rw [upd_ne _ _ _ hji] at hk ⊢; have := I.nx j (by omega) hk; dsimp only; omega
              · rw [testBit_or]
                by_cases hji : j = i
                · simp [hji]
                · rw [upd_ne _ _ _ hji] at hk; rw [I.tc j (by omega) hk]; rfl
              · by_cases hji : j = i
                · rw [hji, upd_at] at hk; cases hk
                · rw [upd_ne _ _ _ hji] at hk; exact q1 j (by omega) hk
              · show (putDelta m _ (seen m base deltas)).get p = _
                rw [putDelta_get m4.1]
                unfold selTo
                rw [upd_at, selTo_R (R := R) i p fun j hj => upd_lt _ _ _ hj, ← q2]
                unfold ov
                simp only [lo_le, true_and]
              · rcases List.mem_cons.1 hdm with rfl | hdm
                · exact Nat.le_refl _
                · have := q3 d hdm; dsimp only; omega
              · by_cases hji : j = i
                · refine ⟨_, List.mem_cons_self, ?_⟩
                  rw [hji, upd_at]
                  exact ⟨rfl, rfl, rfl, rfl, rfl⟩
                · rw [upd_ne _ _ _ hji] at hk ⊢
                  obtain ⟨d, d1, d2⟩ := q4 j (by omega) hk
                  exact ⟨d, List.mem_cons_of_mem _ d1, d2⟩
              · by_cases hji : j = i
                · rw [hji, upd_at] at he; cases he
                · rw [upd_ne _ _ _ hji] at he; exact I.rs j (by omega) ad n cs he
          · obtain ⟨ha, h4⟩ := bif_inv h4
            obtain ⟨ha, hrd⟩ := bif_true ha
            rw [ha, cond_true] at hhh
            subst hhh
            have hbits := hbits ha
            refine Traced.cons (r := ⟨3, v, ⟨s.next, s.next, s.heap⟩, s1, none⟩) (s1 := ⟨s1.next, Nat.min s.mw s1.mw, s1.heap⟩) hi ?_ m1 (Nat.min_le_left _ _) (fun _ => Nat.le_refl _) (fun _ => .inl (Nat.min_le_right _ _)) (fun p hp1 hp2 => m5 p (Nat.lt_of_lt_of_le hp1 (Nat.min_le_right _ _)) hp2)
              (drawn_trace hE hc rest (i + 1) _ _ _ _ _ _ _ _ _ _ _ hj' h4 (by dsimp only; omega) ?_ hlt)
            · refine ⟨by rw [upd_at]; exact Nat.le_refl 3, fun h7 => ?_, fun h7 => ?_, fun _ => ?_, fun h7 => ?_, fun h7 => ?_⟩
              · rw [upd_at] at h7; cases h7
              · rw [upd_at] at h7; cases h7
              · rw [upd_at, htext, ← I.tm]
                exact ⟨hw, hd, rfl, hbd2, I.ge, fun j hj hk => by rw [upd_lt _ _ _ hj] at hk ⊢; exact I.nx j hj hk⟩
              · rw [upd_at] at h7; cases h7
              · refine ⟨fun j hj hk => by rw [upd_lt _ _ _ hj] at hk; exact hbits j hj hk, ?_, fun j hj ad n cs he => ?_⟩
                · rw [upd_at, fullTo_congr (R := R) i fun j hj => upd_lt _ _ _ hj]
                  exact I.heap
                · rw [upd_lt _ _ _ hj] at he
                  rw [upd_at]
                  obtain ⟨r, r1, r2, r3, r4, r5⟩ := I.rs j hj ad n cs he
                  rw [allL_eq] at hrd
                  have hr := hrd r r1
                  unfold readOK at hr
                  rw [r2, r3, r4, r5] at hr
                  rcases bif_or hr with ⟨hb, _⟩ | ⟨_, hr⟩
                  · exact .inl hb
                  · split at hr
                    · rename_i cs2 hcs2
                      right
                      rw [← cellsAt_F]
                      exact hcs2.trans (congrArg some (sameL_spec hr))
                    · cases hr
            · refine ⟨?_, m4, ?_, by have := I.ge; dsimp only; omega, fun j hj hk => ?_, fun j hj hk => ?_, fun hs => (by cases hs), I.h0, I.bs, ⟨Nat.lt_succ_self i, by rw [upd_at], by rw [upd_at], fun j h1 h2 => by omega, I.ou.congr fun j hj => upd_lt _ _ _ hj⟩, fun j hj ad n cs he => ?_⟩
              · rw [text_succ hi, upd_at, htext, I.tm]
              · dsimp only
                unfold fullTo
                rw [upd_at]
                simp
              · by_cases hji : j = i
                · rw [hji, upd_at]; exact Nat.le_refl _
                · rw [upd_ne _ _ _ hji] at hk ⊢; have := I.nx j (by omega) hk; dsimp only; omega
              · rw [testBit_or]
                by_cases hji : j = i
                · simp [hji]
                · rw [upd_ne _ _ _ hji] at hk; rw [I.tc j (by omega) hk]; rfl
              · by_cases hji : j = i
                · rw [hji, upd_at] at he; cases he
                · rw [upd_ne _ _ _ hji] at he; exact I.rs j (by omega) ad n cs he
        · cases h
end
end Go.Proofs.Ytnfjdoeemnhkbaa.Canon
