/-
  The same runner, its temporaries in a tree: what it answers, the runner answers.
-/
import Derived.Test.YtnjeoolbnanmiaaCanonX
namespace Go.Proofs.Ytnjeoolbnanmiaa.Canon
set_option linter.unusedVariables false
set_option linter.unusedSimpArgs false
open Go.RowKit

/-- Temporaries: a tree of those that were set, and how many there are. -/
structure TM where
  t : T Value
  n : Nat
/-- A tree that holds a list. -/
structure Rp (m : TM) (l : List Value) : Prop where
  n : m.n = l.length
  le : l.length ≤ 4000000
  has : ∀ i v, m.t.get i = some v → l[i]? = some v
  hasnt : ∀ i, m.t.get i = none → l[i]? = none ∨ l[i]? = some undef

noncomputable def putW (m : TM) (d : Option Tmp) (v : Value) : TM := match d with
  | some d => bif Nat.blt d m.n then fNat m.n fun n => ⟨T.set (some v) deep m.t d, n⟩ else m
  | none => m
noncomputable def aevalW (Z : Nat) (m : TM) : Operand → Value
  | .tmp i => match m.t.get i with | some v => v | none => undef
  | .const v => bif ground2 v then v else undef
  | .global g => bif Nat.blt g Z then .pointer (some ⟨g, 0, none⟩) else undef
  | .func f => .func (.func f) #[] #[]
noncomputable def wantedW (ops : List Oper) (m : TM) (o : Oper) : Bool := match o.guard with
  | none => true
  | some (j, want) => match dstOf ops j with
    | some d => (match m.t.get d with | some (.bool b) => (bif b then want else !want) | _ => false)
    | none => false

noncomputable def doOpW (E : Env) (call : CallF) (ev : Operand → Value) (o : Oper) (s : St) : Option (Value × St) :=
  match hopW E ev o s with
  | some (.val v, s) => some (v, s)
  | some (.enter f args, s) => call f args s
  | none => none

theorem doOpW_eq (E : Env) (call : CallF) (ev : Operand → Value) (o : Oper) (s : St) : doOpW E call ev o s = doOp E call ev o s := by
  unfold doOpW doOp
  rw [hopW_eq]
  cases hop E ev o s with
  | none => rfl
  | some x => obtain ⟨n, t⟩ := x; cases n <;> rfl

noncomputable def runOpsW (E : Env) (call : CallF) (ops : List Oper) : List Oper → TM → St → Option (TM × St)
  | [], tm, s => some (tm, s)
  | o :: rest, tm, s =>
    bif wantedW ops tm o then
      match popW E.P (aevalW (zId E.P) tm) o with
      | some v => fVal v fun v => runOpsW E call ops rest (putW tm o.dst v) s
      | none => match doOpW E call (aevalW (zId E.P) tm) o s with
        | some (v, s) => fVal v fun v => runOpsW E call ops rest (putW tm o.dst v) s
        | none => none
    else runOpsW E call ops rest (putW tm o.dst undef) s

abbrev AResW := Option (AExit × TM × St)

noncomputable def iterW (f : TM → St → AResW) : Nat → TM → St → AResW
  | 0, _, _ => none
  | n + 1, tm, s => match f tm s with
    | some (.normal, tm, s) => iterW f n tm s
    | r => r

noncomputable def runDrawnW (E : Env) (call : CallF) (n0 : Nat) (ops : List Oper) : List Oper → List Nat → Nat → Nat → Bool → T AObj → List (Nat × T AObj) → List Rdg → List Delta → TM → St → Option (TM × St)
  | [], _, _, _, _, _, _, _, _, tm, s => some (tm, s)
  | o :: rest, ms, i, touched, seq, base, outs, reads, deltas, tm, s =>
    let m := headN ms
    let ms := tailN ms
    bif wantedW ops tm o then
      match popW E.P (aevalW (zId E.P) tm) o with
      | some v => fVal v fun v => runDrawnW E call n0 ops rest ms (i + 1) touched seq base outs reads deltas (putW tm o.dst v) s
      | none => match stillOf E.P (aevalW (zId E.P) tm) o n0 m base outs with
        | some (v, ad, n, cs) => fVal v fun v => runDrawnW E call n0 ops rest ms (i + 1) touched seq base outs (⟨i, ad, n, cs⟩ :: reads) deltas (putW tm o.dst v) s
        | none =>
        let all := Nat.beq (Nat.land touched m) touched
        bif (bif seq then !all else false) then none
        else
          let h := bif all then s.heap else seen m base deltas
          match doOpW E call (aevalW (zId E.P) tm) o { next := s.next, mw := s.next, heap := h } with
          | some (v, s') => fVal v fun v =>
              let lo := Nat.min s'.mw s.next
              bif (bif seq then false else bif Nat.ble n0 s'.mw then bif kept h s'.heap lo (s.next - lo) then allL (pairOK2 m h s'.heap lo s.next) deltas else false else false) then
                runDrawnW E call n0 ops rest ms (i + 1) (Nat.lor touched (Nat.shiftLeft 1 i)) false base outs reads (⟨i, lo, s'.next, s'.heap, h⟩ :: deltas) (putW tm o.dst v)
                  { next := s'.next, mw := Nat.min s.mw s'.mw, heap := bif all then s'.heap else merge lo s'.next s'.heap (s'.next - lo) s.heap }
              else bif (bif all then allL (readOK m s'.heap) reads else false) then
                runDrawnW E call n0 ops rest ms (i + 1) (Nat.lor touched (Nat.shiftLeft 1 i)) true base ((i, s'.heap) :: outs) reads [] (putW tm o.dst v) { next := s'.next, mw := Nat.min s.mw s'.mw, heap := s'.heap }
              else none
          | none => none
    else runDrawnW E call n0 ops rest ms (i + 1) touched seq base outs reads deltas (putW tm o.dst undef) s

noncomputable def quickOK (ops : Array Oper) : Bool := Nat.ble (lenN ops.toList 0) 4000000 && drawnT ops ops.toList (masksT ops.toList 0 .leaf) 0 .leaf .leaf

theorem quickOK_spec {ops : Array Oper} (h : quickOK ops = true) : masksT ops.toList 0 .leaf = masks ops.toList [] ∧ drawnOK ops [] ops.toList (masks ops.toList []) 0 = true := by
  unfold quickOK at h
  rw [Bool.and_eq_true, Nat.ble_eq, lenN_eq, Nat.add_zero] at h
  have e := masksT_all h.1
  exact ⟨e, by rw [← e]; exact drawnT_all h.2⟩

noncomputable def execW (E : Env) (call : CallF) : Code → TM → St → AResW
  | .skip, tm, s => some (.normal, tm, s)
  | .region _ ops draw, tm, s =>
    bif opsOK (zId E.P) ops.toList then bif draw then
      bif quickOK ops then (match runDrawnW E call s.next ops.toList ops.toList (masksT ops.toList 0 .leaf) 0 0 false s.heap [] [] [] tm s with
      | some (tm, s) => some (.normal, tm, s)
      | none => none) else none
    else (match runOpsW E call ops.toList ops.toList tm s with
      | some (tm, s) => some (.normal, tm, s)
      | none => none) else none
  | .seq a b, tm, s => match execW E call a tm s with
    | some (.normal, tm, s) => execW E call b tm s
    | r => r
  | .cond c t e, tm, s => match aevalW (zId E.P) tm c with
    | .bool true => execW E call t tm s
    | .bool false => execW E call e tm s
    | _ => none
  | .block id b, tm, s => match execW E call b tm s with
    | some (.exit k, tm, s) => bif Nat.beq k id then some (.normal, tm, s) else some (.exit k, tm, s)
    | r => r
  | .loop b, tm, s => iterW (fun tm s => execW E call b tm s) rounds tm s
  | .exit id, tm, s => some (.exit id, tm, s)
  | .ret, tm, s => some (.ret, tm, s)
  | _, _, _ => none

noncomputable def resultsOfW (P : Program) (tm : TM) (s : St) : List ResultVar → Option (List Value)
  | [] => some []
  | .tmp t :: r => (match resultsOfW P tm s r with | some l => some ((match tm.t.get t with | some v => v | none => undef) :: l) | none => none)
  | .cell a t :: r => match tm.t.get a, isAgg? P t, size? P t, resultsOfW P tm s r with
    | some (.pointer (some a)), some true, some sz, some l => (match cellsAt s.heap a sz with | some cs => some (.agg cs.toArray :: l) | none => none)
    | some (.pointer (some a)), some false, some _, some l => (match cellsAt s.heap a 1 with | some [v] => some (v :: l) | _ => none)
    | _, _, _, _ => none

noncomputable def fillW : List Value → Nat → T Value → T Value
  | [], _, t => t
  | v :: l, i, t => fillW l (i + 1) (T.set (some v) deep t i)

noncomputable def callW (E : Env) : Nat → CallF
  | 0, _, _, _ => none
  | d + 1, f, args, s =>
    match E.fn f with
    | none => none
    | some fn => match fn.body with
      | none => bif fn.origin == "" then (match ext fn.name args s with | some v => some (v, s) | none => none) else none
      | some c =>
        bif (bif E.known f then noArg args else false) then some (.bool true, s) else
        match E.orc f args with
        | some v => some (v, s)
        | none =>
        bif Nat.ble (lenN args 0) 4000 && Nat.ble fn.ntmps 4000000 then
        (match fNat (lenN args 0 + (fn.ntmps - lenN args 0)) fun n => execW E (callW E d) c ⟨fillW args 0 .leaf, n⟩ { next := s.next, mw := s.next, heap := s.heap } with
        | some (x, tm, s') =>
          (match x with
          | .exit _ => none
          | _ => match resultsOfW E.P tm s' fn.results.toList with
            | some l =>
              let v := one l
              bif Nat.ble s.next s'.mw then
                (bif ground2 v then some (v, { next := s'.next, mw := s.mw, heap := s.heap })
                else some (v, { next := s'.next, mw := s.mw, heap := reach s.next s'.heap 1000000 [v] s.heap }))
              else some (v, { next := s'.next, mw := Nat.min s.mw s'.mw, heap := s'.heap })
            | none => none)
        | none => none) else none

theorem Rp.aeval {Z : Nat} {m : TM} {l : List Value} (h : Rp m l) : aevalW Z m = Canon.aeval Z l := by
  funext x
  cases x with
  | tmp i =>
    simp only [aevalW, Canon.aeval, nth_eq]
    cases hi : m.t.get i with
    | none => rcases h.hasnt i hi with e | e <;> rw [e]
    | some v => rw [h.has i v hi]
  | _ => rfl
theorem Rp.wanted {m : TM} {l : List Value} (h : Rp m l) (ops : List Oper) (o : Oper) : wantedW ops m o = Canon.wanted ops l o := by
  unfold wantedW Canon.wanted
  cases o.guard with
  | none => rfl
  | some jw =>
    obtain ⟨j, want⟩ := jw
    simp only
    cases dstOf ops j with
    | none => rfl
    | some d =>
      simp only [nth_eq]
      cases hi : m.t.get d with
      | none => rcases h.hasnt d hi with e | e <;> rw [e] <;> rfl
      | some v => rw [h.has d v hi]; cases v <;> rfl
theorem Rp.put {m : TM} {l : List Value} (h : Rp m l) (d : Option Tmp) (v : Value) : Rp (putW m d v) (putT l d v) := by
  cases d with
  | none => exact h
  | some d =>
    have hl : (putT l (some d) v).length = l.length := by simp [putT, setNth_eq]
    simp only [putW, fNat_eq]
    cases hd : Nat.blt d m.n with
    | false =>
      have : ¬ d < l.length := by rw [← h.n]; intro e; rw [nblt, decide_eq_false_iff_not] at hd; exact hd e
      have e : putT l (some d) v = l := by
        simp only [putT, setNth_eq]
        exact List.set_eq_of_length_le (Nat.not_lt.1 this)
      rw [cond_false, e]; exact h
    | true =>
      rw [cond_true]
      have hlen : d < l.length := by rw [← h.n]; rwa [nblt, decide_eq_true_eq] at hd
      have hget : ∀ i, (T.set (some v) deep m.t d).get i = if i = d then some v else m.t.get i := fun i =>
        get_set _ _ _ _ _ (Nat.lt_of_le_of_lt (Nat.lt_of_lt_of_le hlen h.le) (by decide))
      have hlist : ∀ i, (putT l (some d) v)[i]? = if d = i then some v else l[i]? := fun i => by
        simp only [putT, setNth_eq, List.getElem?_set]
        by_cases hdi : d = i
        · subst hdi; rw [if_pos rfl, if_pos rfl, if_pos hlen]
        · rw [if_neg hdi, if_neg hdi]
      refine ⟨by rw [hl]; exact h.n, by rw [hl]; exact h.le, fun i u hi => ?_, fun i hi => ?_⟩
      · dsimp only at hi
        rw [hget] at hi
        rw [hlist]
        by_cases hdi : i = d
        · rw [if_pos hdi] at hi; rw [if_pos hdi.symm]; exact hi
        · rw [if_neg hdi] at hi; rw [if_neg (fun e => hdi e.symm)]; exact h.has i u hi
      · dsimp only at hi
        rw [hget] at hi
        rw [hlist]
        by_cases hdi : i = d
        · rw [if_pos hdi] at hi; cases hi
        · rw [if_neg hdi] at hi; rw [if_neg (fun e => hdi e.symm)]; exact h.hasnt i hi

section
variable {E : Env} {callW call : CallF}

/-- What one answers, the other answers. -/
noncomputable def Calls2 (callW call : CallF) : Prop := ∀ f args s r, callW f args s = some r → call f args s = some r

theorem doOp_W (hc : Calls2 callW call) {ev : Operand → Value} {o : Oper} {s : St} {r : Value × St} (h : doOp E callW ev o s = some r) : doOp E call ev o s = some r := by
  unfold doOp at h ⊢
  cases hh : hop E ev o s with
  | none => rw [hh] at h; cases h
  | some x =>
    obtain ⟨nx, s1⟩ := x
    rw [hh] at h
    cases nx with
    | val v => exact h
    | enter f args => exact hc _ _ _ _ h

theorem runOps_W (hc : Calls2 callW call) {ops : List Oper} : ∀ (rest : List Oper) (t : TM) (l : List Value) (s : St) (t' : TM) (s' : St), Rp t l → runOpsW E callW ops rest t s = some (t', s') →
    ∃ l', runOps E call ops rest l s = some (l', s') ∧ Rp t' l'
  | [], t, l, s, t', s', h, hr => by
    simp only [runOpsW, Option.some.injEq, Prod.mk.injEq] at hr
    obtain ⟨rfl, rfl⟩ := hr
    exact ⟨l, rfl, h⟩
  | o :: rest, t, l, s, t', s', h, hr => by
    unfold runOpsW at hr
    unfold runOps
    rw [h.wanted] at hr
    cases hw : wanted ops l o with
    | false =>
      rw [hw, cond_false] at hr
      rw [cond_false]
      exact runOps_W hc rest _ _ s t' s' (h.put _ _) hr
    | true =>
      rw [hw, cond_true] at hr
      rw [cond_true]
      rw [popW_eq, doOpW_eq, h.aeval] at hr
      split at hr
      · rename_i v hp
        rw [hp]
        simp only
        rw [fVal_eq] at hr ⊢
        exact runOps_W hc rest _ _ s t' s' (h.put _ _) hr
      · rename_i hp
        rw [hp]
        simp only
        split at hr
        · rename_i v s1 hd
          rw [doOp_W hc hd]
          simp only
          rw [fVal_eq] at hr ⊢
          exact runOps_W hc rest _ _ s1 t' s' (h.put _ _) hr
        · cases hr

theorem runDrawn_W (hc : Calls2 callW call) {n0 : Nat} {ops : List Oper} : ∀ (rest : List Oper) (ms : List Nat) (i touched : Nat) (seq : Bool) (base : T AObj) (outs : List (Nat × T AObj)) (reads : List Rdg) (deltas : List Delta) (t : TM) (l : List Value) (s : St) (t' : TM) (s' : St), Rp t l →
    runDrawnW E callW n0 ops rest ms i touched seq base outs reads deltas t s = some (t', s') → ∃ l', runDrawn E call n0 ops rest ms i touched seq base outs reads deltas l s = some (l', s') ∧ Rp t' l'
  | [], ms, i, touched, seq, base, outs, reads, deltas, t, l, s, t', s', h, hr => by
    simp only [runDrawnW, Option.some.injEq, Prod.mk.injEq] at hr
    obtain ⟨rfl, rfl⟩ := hr
    exact ⟨l, rfl, h⟩
  | o :: rest, ms, i, touched, seq, base, outs, reads, deltas, t, l, s, t', s', h, hr => by
    unfold runDrawnW at hr
    unfold runDrawn
    simp only at hr ⊢
    rw [h.wanted] at hr
    cases hw : wanted ops l o with
    | false =>
      rw [hw, cond_false] at hr
      rw [cond_false]
      exact runDrawn_W hc rest _ _ _ _ _ _ _ _ _ _ s t' s' (h.put _ _) hr
    | true =>
      rw [hw, cond_true] at hr
      rw [cond_true]
      rw [popW_eq, doOpW_eq, h.aeval] at hr
      cases hp : pop E.P (aeval (zId E.P) l) o with
      | some v =>
        rw [hp] at hr
        simp only [fVal_eq] at hr ⊢
        exact runDrawn_W hc rest _ _ _ _ _ _ _ _ _ _ s t' s' (h.put _ _) hr
      | none =>
        rw [hp] at hr
        simp only at hr ⊢
        split at hr
        · rename_i v ad n cs hst
          rw [hst]
          simp only [fVal_eq] at hr ⊢
          exact runDrawn_W hc rest _ _ _ _ _ _ _ _ _ _ s t' s' (h.put _ _) hr
        rename_i hst
        rw [hst]
        simp only
        obtain ⟨hb, hr⟩ := bif_not hr
        rw [hb, cond_false]
        split at hr
        · rename_i v s1 hd
          rw [doOp_W hc hd]
          simp only [fVal_eq] at hr ⊢
          rcases bif_or hr with ⟨hg, hr⟩ | ⟨hg, hr⟩
          · rw [hg, cond_true]
            exact runDrawn_W hc rest _ _ _ _ _ _ _ _ _ _ _ t' s' (h.put _ _) hr
          · rw [hg, cond_false]
            obtain ⟨ha, hr⟩ := bif_inv hr
            rw [ha, cond_true]
            have := runDrawn_W hc rest _ _ _ _ _ _ _ _ _ _ _ t' s' (h.put _ _) hr
            exact this
        · cases hr

theorem iter_W {f : TM → St → AResW} {g : List Value → St → ARes} (hf : ∀ t l s x t' s', Rp t l → f t s = some (x, t', s') → ∃ l', g l s = some (x, l', s') ∧ Rp t' l') :
    ∀ (n : Nat) (t : TM) (l : List Value) (s : St) (x : AExit) (t' : TM) (s' : St), Rp t l → iterW f n t s = some (x, t', s') → ∃ l', iter g n l s = some (x, l', s') ∧ Rp t' l'
  | 0, t, l, s, x, t', s', h, hr => by cases hr
  | n + 1, t, l, s, x, t', s', h, hr => by
    unfold iterW at hr
    unfold iter
    cases hfs : f t s with
    | none => rw [hfs] at hr; cases hr
    | some r =>
      obtain ⟨y, t1, s1⟩ := r
      obtain ⟨l1, e1, h1⟩ := hf t l s y t1 s1 h hfs
      rw [hfs] at hr
      rw [e1]
      cases y with
      | normal => exact iter_W hf n t1 l1 s1 x t' s' h1 hr
      | exit k =>
        simp only [Option.some.injEq, Prod.mk.injEq] at hr
        obtain ⟨rfl, rfl, rfl⟩ := hr
        exact ⟨l1, rfl, h1⟩
      | ret =>
        simp only [Option.some.injEq, Prod.mk.injEq] at hr
        obtain ⟨rfl, rfl, rfl⟩ := hr
        exact ⟨l1, rfl, h1⟩

theorem exec_W (hc : Calls2 callW call) : ∀ (code : Code) (t : TM) (l : List Value) (s : St) (x : AExit) (t' : TM) (s' : St), Rp t l → execW E callW code t s = some (x, t', s') →
    ∃ l', exec E call code l s = some (x, l', s') ∧ Rp t' l' := by
  intro code
  induction code with
  | skip =>
    intro t l s x t' s' h hr
    simp only [execW, Option.some.injEq, Prod.mk.injEq] at hr
    obtain ⟨rfl, rfl, rfl⟩ := hr
    exact ⟨l, rfl, h⟩
  | region id ops draw =>
    intro t l s x t' s' h hr
    unfold execW at hr
    unfold exec
    obtain ⟨h1, hr⟩ := bif_inv hr
    rw [h1, cond_true]
    cases draw with
    | true =>
      rw [cond_true] at hr ⊢
      obtain ⟨h2, hr⟩ := bif_inv hr
      obtain ⟨hm, h2⟩ := quickOK_spec h2
      rw [hm] at hr
      rw [h2, cond_true]
      split at hr
      · rename_i tm s1 hd
        simp only [Option.some.injEq, Prod.mk.injEq] at hr
        obtain ⟨rfl, rfl, rfl⟩ := hr
        obtain ⟨l', e1, e2⟩ := runDrawn_W hc _ _ _ _ _ _ _ _ _ _ _ _ _ _ h hd
        rw [e1]; exact ⟨l', rfl, e2⟩
      · cases hr
    | false =>
      rw [cond_false] at hr ⊢
      split at hr
      · rename_i tm s1 hd
        simp only [Option.some.injEq, Prod.mk.injEq] at hr
        obtain ⟨rfl, rfl, rfl⟩ := hr
        obtain ⟨l', e1, e2⟩ := runOps_W hc _ _ _ _ _ _ h hd
        rw [e1]; exact ⟨l', rfl, e2⟩
      · cases hr
  | seq a b iha ihb =>
    intro t l s x t' s' h hr
    unfold execW at hr
    unfold exec
    cases hfs : execW E callW a t s with
    | none => rw [hfs] at hr; cases hr
    | some r =>
      obtain ⟨y, t1, s1⟩ := r
      obtain ⟨l1, e1, h1⟩ := iha t l s y t1 s1 h hfs
      rw [hfs] at hr
      rw [e1]
      cases y with
      | normal => exact ihb t1 l1 s1 x t' s' h1 hr
      | exit k =>
        simp only [Option.some.injEq, Prod.mk.injEq] at hr
        obtain ⟨rfl, rfl, rfl⟩ := hr
        exact ⟨l1, rfl, h1⟩
      | ret =>
        simp only [Option.some.injEq, Prod.mk.injEq] at hr
        obtain ⟨rfl, rfl, rfl⟩ := hr
        exact ⟨l1, rfl, h1⟩
  | cond c a b iha ihb =>
    intro t l s x t' s' h hr
    unfold execW at hr
    unfold exec
    rw [h.aeval] at hr
    split at hr
    · rename_i hv; rw [hv]; exact iha t l s x t' s' h hr
    · rename_i hv; rw [hv]; exact ihb t l s x t' s' h hr
    · cases hr
  | block id b ih =>
    intro t l s x t' s' h hr
    unfold execW at hr
    unfold exec
    cases hfs : execW E callW b t s with
    | none => rw [hfs] at hr; cases hr
    | some r =>
      obtain ⟨y, t1, s1⟩ := r
      obtain ⟨l1, e1, h1⟩ := ih t l s y t1 s1 h hfs
      rw [hfs] at hr
      rw [e1]
      cases y with
      | exit k =>
        simp only at hr ⊢
        rcases bif_or hr with ⟨hk, hr⟩ | ⟨hk, hr⟩ <;>
        · simp only [Option.some.injEq, Prod.mk.injEq] at hr
          obtain ⟨rfl, rfl, rfl⟩ := hr
          rw [hk]
          exact ⟨l1, rfl, h1⟩
      | normal =>
        simp only [Option.some.injEq, Prod.mk.injEq] at hr
        obtain ⟨rfl, rfl, rfl⟩ := hr
        exact ⟨l1, rfl, h1⟩
      | ret =>
        simp only [Option.some.injEq, Prod.mk.injEq] at hr
        obtain ⟨rfl, rfl, rfl⟩ := hr
        exact ⟨l1, rfl, h1⟩
  | loop b ih =>
    intro t l s x t' s' h hr
    unfold execW at hr
    unfold exec
    exact iter_W (fun t l s x t' s' h hr => ih t l s x t' s' h hr) _ _ _ _ _ _ _ h hr
  | exit id =>
    intro t l s x t' s' h hr
    simp only [execW, Option.some.injEq, Prod.mk.injEq] at hr
    obtain ⟨rfl, rfl, rfl⟩ := hr
    exact ⟨l, rfl, h⟩
  | ret =>
    intro t l s x t' s' h hr
    simp only [execW, Option.some.injEq, Prod.mk.injEq] at hr
    obtain ⟨rfl, rfl, rfl⟩ := hr
    exact ⟨l, rfl, h⟩
  | _ => intros; rename_i hr; cases hr

theorem Rp.val {m : TM} {l : List Value} (h : Rp m l) (i : Nat) : (match m.t.get i with | some v => v | none => undef) = (match nth l i with | some v => v | none => undef) := by
  rw [nth_eq]
  cases hi : m.t.get i with
  | none => rcases h.hasnt i hi with e | e <;> rw [e]
  | some v => rw [h.has i v hi]

theorem results_W {P : Program} {m : TM} {l : List Value} {s : St} (h : Rp m l) : ∀ (rs : List ResultVar) (r : List Value), resultsOfW P m s rs = some r → resultsOf P l s rs = some r
  | [], r, hr => hr
  | .tmp t :: rs, r, hr => by
    unfold resultsOfW at hr
    unfold resultsOf
    split at hr
    · rename_i l1 h1
      rw [results_W h rs l1 h1]
      rw [h.val t] at hr
      exact hr
    · cases hr
  | .cell a t :: rs, r, hr => by
    unfold resultsOfW at hr
    unfold resultsOf
    have hn : ∀ v, m.t.get a = some v → nth l a = some v := fun v hv => by rw [nth_eq]; exact h.has a v hv
    split at hr
    · rename_i ad sz l1 ha hag hsz h1
      rw [hn _ ha, hag, hsz, results_W h rs l1 h1]
      exact hr
    · rename_i ad sz l1 ha hag hsz h1
      rw [hn _ ha, hag, hsz, results_W h rs l1 h1]
      exact hr
    · cases hr

theorem fill_get : ∀ (l : List Value) (i : Nat) (t : T Value), i + l.length ≤ 4000000 → ∀ j, (fillW l i t).get j = if i ≤ j ∧ j < i + l.length then l[j - i]? else t.get j
  | [], i, t, h, j => by
    unfold fillW
    rw [if_neg (by simp)]
  | v :: l, i, t, h, j => by
    simp only [List.length_cons] at h ⊢
    unfold fillW
    rw [fill_get l (i + 1) _ (by omega) j, get_set _ _ _ _ _ (by unfold deep; omega)]
    by_cases h1 : i + 1 ≤ j ∧ j < i + 1 + l.length
    · rw [if_pos h1, if_pos (by omega), show j - i = (j - (i + 1)) + 1 by omega]; rfl
    · rw [if_neg h1]
      by_cases h2 : j = i
      · subst h2; rw [if_pos rfl, if_pos (by omega), Nat.sub_self]; rfl
      · rw [if_neg h2, if_neg (by omega)]

theorem Rp.start {args : List Value} {k : Nat} (h : args.length + k ≤ 4000000) : Rp ⟨fillW args 0 .leaf, args.length + k⟩ (app args (undefs k)) := by
  have hg := fill_get args 0 (.leaf : T Value) (by omega)
  have hl : (app args (undefs k)).length = args.length + k := by rw [app_eq, undefs_eq]; simp
  refine ⟨by rw [hl], by rw [hl]; exact h, fun i v hi => ?_, fun i hi => ?_⟩
  · dsimp only at hi
    rw [hg, Nat.zero_add, Nat.sub_zero] at hi
    split at hi
    · rename_i hlt
      rw [app_eq, List.getElem?_append_left hlt.2]; exact hi
    · rw [get_leaf] at hi; cases hi
  · dsimp only at hi
    rw [hg, Nat.zero_add, Nat.sub_zero] at hi
    split at hi
    · rename_i hlt
      rw [List.getElem?_eq_none_iff] at hi; omega
    · rename_i hlt
      rw [app_eq, undefs_eq, List.getElem?_append_right (by omega), List.getElem?_replicate]
      split
      · exact .inr rfl
      · exact .inl rfl

/-- What it answers, the runner answers. -/
theorem callW_callN : ∀ d, Calls2 (Canon.callW E d) (callN E d)
  | 0 => fun f args s r h => by cases h
  | d + 1 => by
    intro f args s r h
    unfold Canon.callW at h
    unfold callN
    split at h
    · cases h
    · rename_i fn hfn
      rw [hfn]
      simp only
      cases hb : fn.body with
      | none => rw [hb] at h; exact h
      | some c =>
        rw [hb] at h
        simp only at h ⊢
        cases hk : (bif E.known f then noArg args else false) with
        | true => rw [hk, cond_true] at h; rw [cond_true]; exact h
        | false =>
        rw [hk, cond_false] at h
        rw [cond_false]
        cases hor : E.orc f args with
        | some v => rw [hor] at h; exact h
        | none =>
        rw [hor] at h
        simp only at h ⊢
        obtain ⟨hg, h⟩ := bif_inv h
        simp only [Bool.and_eq_true, Nat.ble_eq, lenN_eq, Nat.add_zero] at hg
        simp only [fNat_eq, lenN_eq, Nat.add_zero] at h ⊢
        split at h
        · rename_i x tm s1 hex
          obtain ⟨l', e1, e2⟩ := exec_W (callW_callN d) c _ _ _ _ _ _ (Rp.start (args := args) (k := fn.ntmps - args.length) (by omega)) hex
          rw [e1]
          simp only
          cases x with
          | exit id => cases h
          | normal =>
            simp only at h ⊢
            split at h
            · rename_i l hl; rw [results_W e2 _ l hl]; exact h
            · cases h
          | ret =>
            simp only at h ⊢
            split at h
            · rename_i l hl; rw [results_W e2 _ l hl]; exact h
            · cases h
        · cases h

theorem W_true {d : Nat} {f : FuncId} {args : List Value} {s : St} (h : isTrue (Canon.callW E d f args s) = true) : isTrue (callN E d f args s) = true := by
  obtain ⟨s', e⟩ := isTrue_some h
  rw [callW_callN d _ _ _ _ e]
  rfl

/-- So many runs, from the n-th on, of what mk names. -/
noncomputable def rowsBy (E : Env) (d : Nat) (f : FuncId) (mk : Nat → List Value) : Nat → Nat → Bool
  | _, 0 => true
  | n, m + 1 => fNat n fun n => bif isTrue (Canon.callW E d f (mk n) (start E.P)) then rowsBy E d f mk (n + 1) m else false

theorem rowsBy_at {d : Nat} {f : FuncId} {mk : Nat → List Value} : ∀ (m n : Nat), rowsBy E d f mk n m = true → ∀ k, n ≤ k → k < n + m → isTrue (callN E d f (mk k) (start E.P)) = true
  | 0, n, _, k, h1, h2 => by omega
  | m + 1, n, h, k, h1, h2 => by
    unfold rowsBy at h
    rw [fNat_eq] at h
    have h3 : isTrue (Canon.callW E d f (mk n) (start E.P)) = true := by
      cases hb : isTrue (Canon.callW E d f (mk n) (start E.P)) with
      | true => rfl
      | false => rw [hb] at h; cases h
    have h4 : rowsBy E d f mk (n + 1) m = true := by rw [h3] at h; exact h
    rcases Nat.lt_or_ge n k with h5 | h5
    · exact rowsBy_at m (n + 1) h4 k (by omega) (by omega)
    · rw [show k = n by omega]; exact W_true h3

theorem rows_next {d : Nat} {f : FuncId} {mk : Nat → List Value} {n m : Nat} (h : ∀ k, k < n → isTrue (callN E d f (mk k) (start E.P)) = true) (hr : rowsBy E d f mk n m = true) :
    ∀ k, k < n + m → isTrue (callN E d f (mk k) (start E.P)) = true := fun k hk => by
  rcases Nat.lt_or_ge k n with h1 | h1
  · exact h k h1
  · exact rowsBy_at m n hr k h1 hk

/-- The row k of l. -/
noncomputable def rowOf (l k : Nat) : List Value := [.complex .f64 l k]

/-- A call with one number, of which nothing is asked but which row of l its last eight bits name; function a is known. -/
theorem Fit.formK {P : Program} (h : Fit P) {a : FuncId} (hk : Plain P a) {d : Nat} {f : FuncId} (hb : hasBody P f = true) (l : Nat) (hl : 0 < l)
    (ht : ∀ k, k < l → isTrue (callN (Canon.envK P a) d f (rowOf l k) (start P)) = true) (n : Int) (w : World) :
    Calls P f #[.int .i64 n] w fun e w' => e = .returned (.bool true) ∧ Below w.heap.size w w' := by
  obtain ⟨k, h1, h2⟩ := sym_int n l hl
  exact h.argsK hk hb (fun c => LR.cons (h2 _ _ _) LR.nil) (ht k h1) w

/-- A call without an argument. -/
theorem Fit.plainW {P : Program} (h : Fit P) {d : Nat} {f : FuncId} (hb : hasBody P f = true) (ht : isTrue (Canon.callW (envOf P) d f [] (start P)) = true) : Plain P f :=
  fun w => h.plain hb (W_true ht) w
end
end Go.Proofs.Ytnjeoolbnanmiaa.Canon
