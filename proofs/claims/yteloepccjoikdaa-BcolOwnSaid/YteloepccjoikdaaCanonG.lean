/-
  Operations that touch no memory: what the runner says of them the model says.
  Operations that touch no memory, all of them.
-/
import Derived.Test.YteloepccjoikdaaCanonE
namespace Go.Proofs.Yteloepccjoikdaa.Canon
set_option linter.unusedVariables false
set_option linter.unusedSimpArgs false
open Go.RowKit

/-- The model gives this, in any world. -/
def Gives (P : Program) (ev : Operand → Value) (o : Oper) (v : Value) : Prop := ∀ w, (execOp ev o).run P w = .ok (.value v) w

theorem bytesEq_eq : ∀ (a b : List UInt8), bytesEq a b = decide (a = b)
  | [], [] => rfl
  | [], _ :: _ => rfl
  | _ :: _, [] => rfl
  | a :: x, b :: y => by
    unfold bytesEq
    rw [nbeq, bytesEq_eq x y]
    by_cases h : a = b
    · simp [h]
    · have : ¬ a.toNat = b.toNat := fun e => h (UInt8.toNat_inj.1 e)
      simp [h, this]
theorem bytesLt_eq : ∀ (a b : List UInt8), bytesLt a b = Op.bytesLess a b
  | [], [] => rfl
  | [], _ :: _ => rfl
  | _ :: _, [] => rfl
  | a :: x, b :: y => by
    unfold bytesLt Op.bytesLess
    rw [nblt, nbeq, bytesLt_eq x y]
    by_cases h : a = b
    · subst h
      simp
    · have h2 : ¬ a.toNat = b.toNat := fun e => h (UInt8.toNat_inj.1 e)
      by_cases h3 : a < b
      · have : a.toNat < b.toNat := by simpa [UInt8.lt_iff_toNat_lt] using h3
        simp [this, h3]
      · have : ¬ a.toNat < b.toNat := by simpa [UInt8.lt_iff_toNat_lt] using h3
        have hb : (a == b) = false := by simpa using h
        simp [this, h3, h2, hb]
theorem bytesLess_flip (x y : List UInt8) : (!Op.bytesLess y x) = (Op.bytesLess x y || decide (x = y)) := by
  induction x generalizing y with
  | nil => cases y <;> simp [Op.bytesLess]
  | cons a x ih =>
    cases y with
    | nil => simp [Op.bytesLess]
    | cons b y =>
      simp only [Op.bytesLess]
      by_cases h : a = b
      · subst h
        have := ih y
        simp only [UInt8.lt_irrefl, decide_false, beq_self_eq_true, Bool.true_and, Bool.false_or]
        rw [this]; simp
      · have hb : (b == a) = false := by simpa using fun e => h e.symm
        have ha : (a == b) = false := by simpa using h
        have hc : decide (a :: x = b :: y) = false := by simp [h]
        rw [hb, ha, hc]
        simp only [Bool.false_and, Bool.or_false]
        rcases UInt8.lt_or_lt_of_ne h with h1 | h1
        · have : ¬ b < a := fun h2 => UInt8.lt_irrefl _ (UInt8.lt_trans h1 h2)
          simp [h1, this]
        · have : ¬ a < b := fun h2 => UInt8.lt_irrefl _ (UInt8.lt_trans h1 h2)
          simp [h1, this]


theorem str_mk (l : List UInt8) : (⟨l.toArray⟩ : ByteArray).toList = l := by rw [ByteArray.toList_eq]

section
variable {Φ : Fx} {Z : Nat} {c : Ctx} {D : Nat → Prop} {P : Program}

theorem kept_int {v' : Value} {k : IntKind} {n : Int} (h : VR Z c D (.int k n) v') : v' = .int k n := h.ground0 rfl
theorem kept_str {v' : Value} {s : ByteArray} (h : VR Z c D (.string s) v') : v' = .string s := h.ground0 rfl
theorem kept_bool {v' : Value} {b : Bool} (h : VR Z c D (.bool b) v') : v' = .bool b := h.ground0 rfl

theorem prunG_run {P : Program} {x : Sem Value} {v : Value} (h : prunG P x = some v) : Canon.ground0 v = true ∧ ∀ w, x.run P w = .ok v w := by
  unfold prunG at h
  split at h
  · rename_i u hu
    have : v = u ∧ Canon.ground0 u = true := by
      cases u <;> simp_all [Canon.ground0]
    obtain ⟨rfl, h2⟩ := this
    exact ⟨h2, prun_run P x _ hu⟩
  · cases h

theorem fits_lt {k : IntKind} {a : Nat} (h : fits k (.ofNat a) = true) : a < 2 ^ k.bits := by
  cases k <;> simp only [fits] at h <;> first | (cases h; done) | (rw [Nat.ble_eq] at h; simp only [IntKind.bits]; omega)

theorem fits_le {k : IntKind} {a b : Nat} (h : fits k (.ofNat a) = true) (hb : b ≤ a) : fits k (.ofNat b) = true := by
  cases k <;> simp only [fits] at h ⊢ <;> first | (cases h; done) | (rw [Nat.ble_eq] at h ⊢; omega)

theorem fits_or {k : IntKind} {a b : Nat} (h : fits k (.ofNat a) = true) (h2 : fits k (.ofNat b) = true) : fits k (.ofNat (a ||| b)) = true := by
  cases k <;> simp only [fits] at h h2 ⊢ <;> first | (cases h; done) | skip
  · rw [Nat.ble_eq] at *; have := Nat.or_lt_two_pow (n := 63) (x := a) (y := b) (by omega) (by omega); omega
  · rw [Nat.ble_eq] at *; have := Nat.or_lt_two_pow (n := 8) (x := a) (y := b) (by omega) (by omega); omega
  · rw [Nat.ble_eq] at *; have := Nat.or_lt_two_pow (n := 64) (x := a) (y := b) (by omega) (by omega); omega

theorem toNat_ofInt_nat (n a : Nat) (h : a < 2 ^ n) : (BitVec.ofInt n (Int.ofNat a)).toNat = a := by
  have : BitVec.ofInt n (Int.ofNat a) = BitVec.ofNat n a := by
    show BitVec.ofInt n ((a : Nat) : Int) = _
    rw [BitVec.ofInt_natCast]
  rw [this, BitVec.toNat_ofNat, Nat.mod_eq_of_lt h]

theorem nonneg_of {k : IntKind} {a b : Int} (h : nonneg k a b = true) : ∃ x y : Nat, a = .ofNat x ∧ b = .ofNat y ∧ fits k (.ofNat x) = true ∧ fits k (.ofNat y) = true := by
  cases a <;> cases b <;> simp only [nonneg] at h <;> first | (cases h; done) | skip
  rename_i x y
  cases hx : fits k (.ofNat x) with
  | false => rw [hx] at h; cases h
  | true => rw [hx] at h; exact ⟨x, y, rfl, rfl, hx, h⟩

theorem binInt_run {op : BinOp} {k : IntKind} {a b : Int} {v : Value} (t : TypeId) (hs : op ≠ .shl) (hs2 : op ≠ .shr) (h : binInt P op k a b = some v) :
    Canon.ground0 v = true ∧ ∀ w, (binOp op t (.int k a) (.int k b)).run P w = .ok v w := by
  cases op <;> simp only [binInt, Option.some.injEq] at h
  case add => subst h; exact ⟨rfl, fun w => by simp [binOp, Op.intArith, wrapF_eq]⟩
  case sub => subst h; exact ⟨rfl, fun w => by simp [binOp, Op.intArith, wrapF_eq]⟩
  case mul => subst h; exact ⟨rfl, fun w => by simp [binOp, Op.intArith, wrapF_eq]⟩
  case eql => subst h; exact ⟨rfl, fun w => by simp only [binOp, Op.intCmp, ibeq_eq, ne_eq, not_true_eq_false, if_false]; rfl⟩
  case neq => subst h; exact ⟨rfl, fun w => by simp only [binOp, Op.intCmp, ibeq_eq, ne_eq, not_true_eq_false, if_false]; rfl⟩
  case lss => subst h; exact ⟨rfl, fun w => by simp only [binOp, Op.intCmp, ile_eq, ne_eq, not_true_eq_false, if_false, Sem.run_pure]; congr 2; rw [Bool.eq_iff_iff]; simp⟩
  case leq => subst h; exact ⟨rfl, fun w => by simp [binOp, Op.intCmp, ile_eq]⟩
  case gtr => subst h; exact ⟨rfl, fun w => by simp only [binOp, Op.intCmp, ile_eq, ne_eq, not_true_eq_false, if_false, Sem.run_pure]; congr 2; rw [Bool.eq_iff_iff]; simp⟩
  case geq => subst h; exact ⟨rfl, fun w => by simp [binOp, Op.intCmp, ile_eq]⟩
  case shl => exact absurd rfl hs
  case shr => exact absurd rfl hs2
  case and =>
    cases hn : nonneg k a b with
    | false => rw [hn, cond_false] at h; exact ⟨(prunG_run h).1, fun w => by simp only [binOp, ne_eq, not_true_eq_false, if_false]; exact (prunG_run h).2 w⟩
    | true =>
      obtain ⟨x, y, rfl, rfl, h1, h2⟩ := nonneg_of hn
      rw [hn, cond_true] at h
      simp only [Option.some.injEq, show ∀ n : Nat, (Int.ofNat n).toNat = n from fun _ => rfl] at h
      subst h
      refine ⟨rfl, fun w => ?_⟩
      simp only [binOp, ne_eq, not_true_eq_false, if_false, Op.intBits, Sem.run_pure, BitVec.toNat_and, toNat_ofInt_nat _ _ (fits_lt h1), toNat_ofInt_nat _ _ (fits_lt h2)]
      rw [show ((x &&& y : Nat) : Int) = Int.ofNat (x &&& y) from rfl, fits_wrap k _ (fits_le h1 Nat.and_le_left)]
      rfl
  case or =>
    cases hn : nonneg k a b with
    | false => rw [hn, cond_false] at h; exact ⟨(prunG_run h).1, fun w => by simp only [binOp, ne_eq, not_true_eq_false, if_false]; exact (prunG_run h).2 w⟩
    | true =>
      obtain ⟨x, y, rfl, rfl, h1, h2⟩ := nonneg_of hn
      rw [hn, cond_true] at h
      simp only [Option.some.injEq, show ∀ n : Nat, (Int.ofNat n).toNat = n from fun _ => rfl] at h
      subst h
      refine ⟨rfl, fun w => ?_⟩
      simp only [binOp, ne_eq, not_true_eq_false, if_false, Op.intBits, Sem.run_pure, BitVec.toNat_or, toNat_ofInt_nat _ _ (fits_lt h1), toNat_ofInt_nat _ _ (fits_lt h2)]
      rw [show ((x ||| y : Nat) : Int) = Int.ofNat (x ||| y) from rfl, fits_wrap k _ (fits_or h1 h2)]
      rfl
  all_goals exact ⟨(prunG_run h).1, fun w => by simp only [binOp, ne_eq, not_true_eq_false, if_false]; exact (prunG_run h).2 w⟩

theorem binStr_run {op : BinOp} {a b : ByteArray} {v : Value} (t : TypeId) (h : binStr op a.data.toList b.data.toList = some v) :
    Canon.ground0 v = true ∧ ∀ w, (binOp op t (.string a) (.string b)).run P w = .ok v w := by
  have e (op : BinOp) : binOp op t (.string a) (.string b) = Op.stringOp op a b := by cases op <;> rfl
  rw [e]
  have eb : (a.toList == b.toList) = decide (a.data.toList = b.data.toList) := by rw [ByteArray.toList_eq, ByteArray.toList_eq, Bool.eq_iff_iff]; simp
  have el : Op.bytesLess a.toList b.toList = Op.bytesLess a.data.toList b.data.toList := by rw [ByteArray.toList_eq, ByteArray.toList_eq]
  cases op <;> simp only [binStr, Option.some.injEq] at h <;> first | (cases h; done) | skip
  case add =>
    obtain ⟨h1, h2⟩ := bif_inv h
    simp only [Option.some.injEq] at h2
    subst h2
    refine ⟨rfl, fun w => ?_⟩
    rw [Nat.ble_eq, lenN_eq, lenN_eq] at h1
    have hs : ¬ ((a.size + b.size : Nat) : Int) > IntKind.i64.max := by
      have e1 : a.size = a.data.toList.length := by rw [Array.length_toList]; rfl
      have e2 : b.size = b.data.toList.length := by rw [Array.length_toList]; rfl
      have : IntKind.i64.max = 9223372036854775807 := by decide
      omega
    have e3 : (a ++ b : ByteArray) = ⟨(app a.data.toList b.data.toList).toArray⟩ := by
      rw [app_eq]
      have : (a ++ b).data = a.data ++ b.data := ByteArray.data_append
      cases hab : a ++ b with
      | mk d => rw [hab] at this; simp at this; rw [this]; simp
    simp only [Op.stringOp]
    rw [if_neg hs, e3]; rfl
  case eql => subst h; exact ⟨rfl, fun w => by simp only [Op.stringOp, eb, bytesEq_eq]; rfl⟩
  case neq => subst h; exact ⟨rfl, fun w => by simp only [Op.stringOp, eb, bytesEq_eq]; rfl⟩
  case lss => subst h; exact ⟨rfl, fun w => by simp only [Op.stringOp, ByteArray.toList_eq, bytesLt_eq]; rfl⟩
  case leq =>
    subst h
    refine ⟨rfl, fun w => ?_⟩
    show (Pure.pure (Value.bool (Op.bytesLess a.toList b.toList || (a.toList == b.toList))) : Sem Value).run P w = _
    rw [eb, el, bytesLt_eq, bytesLess_flip]; rfl
  case gtr =>
    subst h
    refine ⟨rfl, fun w => ?_⟩
    show (Pure.pure (Value.bool (!(Op.bytesLess a.toList b.toList || (a.toList == b.toList)))) : Sem Value).run P w = _
    rw [eb, el, bytesLt_eq, ← bytesLess_flip, Bool.not_not]; rfl
  case geq => subst h; exact ⟨rfl, fun w => by simp only [Op.stringOp, ByteArray.toList_eq, bytesLt_eq]; rfl⟩

theorem nilEq_rel {x y x' y' : Value} {b : Bool} (hx : VR Z c D x x') (hy : VR Z c D y y') (h : nilEq x y = some b) : nilEq x' y' = some b := by
  cases hx <;> cases hy <;> simp_all [nilEq]

theorem isSliceOrPtr_rel {t : TypeId} {x x' : Value} (hx : VR Z c D x x') (h : isSliceOrPtr P t x = true) : isSliceOrPtr P t x' = true := by
  cases hx <;> simp_all [isSliceOrPtr]

theorem equal_nil {t : TypeId} {x y : Value} {b : Bool} (h1 : isSliceOrPtr P t x = true) (h2 : nilEq x y = some b) (w : World) : (Op.equal t x y).run P w = .ok b w := by
  unfold Op.equal Op.maxDepth
  unfold Op.equalIn
  unfold nilEq at h2
  split at h2 <;> simp only [Option.some.injEq, reduceCtorEq] at h2 <;> simp only [isSliceOrPtr] at h1 <;> split at h1 <;> first | (cases h1; done) | skip
  all_goals
    rename_i hu
    subst h2
    simp only [Sem.run_bind, run_underlying' hu, Result.andThen_ok]
    rfl

theorem equal_bool {t : TypeId} (a b : Bool) (h1 : P.underlying t = some .bool) (w : World) : (Op.equal t (.bool a) (.bool b)).run P w = .ok (a == b) w := by
  unfold Op.equal Op.maxDepth
  unfold Op.equalIn
  simp only [Sem.run_bind, run_underlying' h1, Result.andThen_ok]
  rfl

theorem nilEq_shape {x y : Value} {b : Bool} (h : nilEq x y = some b) (op : BinOp) (t : TypeId) (hop : op = .eql ∨ op = .neq) :
    (∀ (a b' : Operand), eqGuard op t a b' x y = Pure.pure ()) ∧ binOp op t x y = (do Pure.pure (.bool ((if op = .eql then id else not) (← Op.equal t x y)))) := by
  unfold nilEq at h
  rcases hop with rfl | rfl <;> split at h <;> first | (cases h; done) | exact ⟨fun _ _ => rfl, rfl⟩

theorem bin_run {op : BinOp} {t : TypeId} {x y x' y' v : Value} (hx : VR Z c D x x') (hy : VR Z c D y y') (h : bin P op t x y = some v) :
    Canon.ground0 v = true ∧ ∀ (a b : Operand) w, (do eqGuard op t a b x' y'; binOp op t x' y' : Sem Value).run P w = .ok v w := by
  unfold bin at h
  split at h
  · rename_i k0 a0 k1 b0
    obtain ⟨h1, h2⟩ := bif_inv h
    simp only [Option.some.injEq] at h2
    subst h2
    rw [kept_int hx, kept_int hy]
    rw [ile_eq, decide_eq_true_eq] at h1
    refine ⟨rfl, fun a b w => ?_⟩
    simp only [eqGuard, binOp, Op.shift, wrapF_eq, Sem.run_bind, Sem.run_pure, Result.andThen_ok]
    have hb : ¬ b0 < 0 := by omega
    rw [if_neg hb]; rfl
  · rename_i k0 a0 k1 b0
    obtain ⟨h1, h2⟩ := bif_inv h
    simp only [Option.some.injEq] at h2
    subst h2
    rw [kept_int hx, kept_int hy]
    rw [ile_eq, decide_eq_true_eq] at h1
    refine ⟨rfl, fun a b w => ?_⟩
    simp only [eqGuard, binOp, Op.shift, Sem.run_bind, Sem.run_pure, Result.andThen_ok]
    have hb : ¬ b0 < 0 := by omega
    rw [if_neg hb]; rfl
  · rename_i k a k' b hn1 hn2
    obtain ⟨h1, h2⟩ := bif_inv h
    rw [kept_int hx, kept_int hy]
    obtain rfl := (kbeq_eq _ _).1 h1
    obtain ⟨h3, h4⟩ := binInt_run t (fun e => hn1 e) (fun e => hn2 e) h2
    refine ⟨h3, fun a' b' w => ?_⟩
    rw [Sem.run_bind]
    have : (eqGuard op t a' b' (.int k a) (.int k b)).run P w = .ok () w := by cases op <;> rfl
    rw [this]
    exact h4 w
  · rename_i a b
    rw [kept_str hx, kept_str hy]
    obtain ⟨h3, h4⟩ := binStr_run t h
    refine ⟨h3, fun a' b' w => ?_⟩
    rw [Sem.run_bind]
    have : (eqGuard op t a' b' (.string a) (.string b)).run P w = .ok () w := by cases op <;> rfl
    rw [this]
    exact h4 w
  · rename_i a b
    split at h
    · rename_i hu
      simp only [Option.some.injEq] at h
      subst h
      rw [kept_bool hx, kept_bool hy]
      refine ⟨rfl, fun a' b' w => ?_⟩
      have e1 : eqGuard .eql t a' b' (.bool a) (.bool b) = Pure.pure () := rfl
      have e2 : binOp .eql t (.bool a) (.bool b) = (do Pure.pure (.bool ((← Op.equal t (.bool a) (.bool b))))) := rfl
      rw [e1, e2]
      simp only [Sem.run_bind, Sem.run_pure, Result.andThen_ok, equal_bool a b hu]
      cases a <;> cases b <;> rfl
    · cases h
  · rename_i a b
    split at h
    · rename_i hu
      simp only [Option.some.injEq] at h
      subst h
      rw [kept_bool hx, kept_bool hy]
      refine ⟨rfl, fun a' b' w => ?_⟩
      have e1 : eqGuard .neq t a' b' (.bool a) (.bool b) = Pure.pure () := rfl
      have e2 : binOp .neq t (.bool a) (.bool b) = (do Pure.pure (.bool (!(← Op.equal t (.bool a) (.bool b))))) := rfl
      rw [e1, e2]
      simp only [Sem.run_bind, Sem.run_pure, Result.andThen_ok, equal_bool a b hu]
      cases a <;> cases b <;> rfl
    · cases h
  · obtain ⟨h1, h2⟩ := bif_inv h
    obtain ⟨h3, h4⟩ := bif_inv h2
    rw [hx.ground h1, hy.ground h3]
    exact ⟨(prunG_run h4).1, fun a b w => (prunG_run h4).2 w⟩
  · obtain ⟨h1, h2⟩ := bif_inv h
    obtain ⟨h3, h4⟩ := bif_inv h2
    rw [hx.ground h1, hy.ground h3]
    exact ⟨(prunG_run h4).1, fun a b w => (prunG_run h4).2 w⟩
  · obtain ⟨h1, h2⟩ := bif_inv h
    split at h2
    · rename_i bb hb
      simp only [Option.some.injEq] at h2
      subst h2
      obtain ⟨e1, e2⟩ := nilEq_shape (nilEq_rel hx hy hb) .eql t (.inl rfl)
      refine ⟨rfl, fun a b w => ?_⟩
      rw [e1, e2]
      simp only [Sem.run_bind, equal_nil (isSliceOrPtr_rel hx h1) (nilEq_rel hx hy hb), Sem.run_pure, Result.andThen_ok, if_true, id]
    · cases h2
  · obtain ⟨h1, h2⟩ := bif_inv h
    split at h2
    · rename_i bb hb
      simp only [Option.some.injEq] at h2
      subst h2
      obtain ⟨e1, e2⟩ := nilEq_shape (nilEq_rel hx hy hb) .neq t (.inr rfl)
      refine ⟨rfl, fun a b w => ?_⟩
      rw [e1, e2]
      simp only [Sem.run_bind, equal_nil (isSliceOrPtr_rel hx h1) (nilEq_rel hx hy hb), Sem.run_pure, Result.andThen_ok]
      rfl
    · cases h2
  · cases h

theorem map_toList {α β : Type} (f : α → β) (a : Array α) : (a.map f).toList = a.toList.map f := Array.toList_map ..

theorem LR.map_ev {ev ev' : Operand → Value} (h : ∀ x, VR Z c D (ev x) (ev' x)) : ∀ (l : List Operand), LR Z c D (l.map ev) (l.map ev')
  | [] => .nil
  | x :: l => .cons (h x) (LR.map_ev h l)

theorem minGo_run : ∀ (l : List Value) (x v : Value), minGo x l = some v → ∀ (l' : List Value) (x' : Value), VR Z c D x x' → LR Z c D l l' →
    Canon.ground0 x = true → Canon.ground0 v = true ∧ ∀ w, (l'.foldlM Builtin.min2 x').run P w = .ok v w
  | [], x, v, h, l', x', hx, hl, g => by
    rw [hl.inv_nil]
    simp only [minGo, Option.some.injEq] at h
    subst h
    rw [hx.ground0 g]
    exact ⟨g, fun w => rfl⟩
  | y :: l, x, v, h, l', x', hx, hl, g => by
    unfold minGo at h
    split at h
    · rename_i e; cases e
    · rename_i k a k' b r e
      cases e
      obtain ⟨v', r', rfl, hv, hr⟩ := hl.inv_cons
      rw [kept_int hx, kept_int hv]
      obtain ⟨h1, h2⟩ := minGo_run _ _ v h r' _ (.int k (bif ile a b then a else b)) hr rfl
      refine ⟨h1, fun w => ?_⟩
      rw [List.foldlM_cons, Sem.run_bind]
      have : (Builtin.min2 (.int k a) (.int k' b)).run P w = .ok (.int k (bif ile a b then a else b)) w := by
        simp only [Builtin.min2, Sem.run_pure, ile_eq]
        by_cases hab : a ≤ b
        · rw [if_neg (by omega)]; simp [hab]
        · rw [if_pos (by omega)]; simp [hab]
      rw [this]
      exact h2 w
    · cases h
theorem maxGo_run : ∀ (l : List Value) (x v : Value), maxGo x l = some v → ∀ (l' : List Value) (x' : Value), VR Z c D x x' → LR Z c D l l' →
    Canon.ground0 x = true → Canon.ground0 v = true ∧ ∀ w, (l'.foldlM Builtin.max2 x').run P w = .ok v w
  | [], x, v, h, l', x', hx, hl, g => by
    rw [hl.inv_nil]
    simp only [maxGo, Option.some.injEq] at h
    subst h
    rw [hx.ground0 g]
    exact ⟨g, fun w => rfl⟩
  | y :: l, x, v, h, l', x', hx, hl, g => by
    unfold maxGo at h
    split at h
    · rename_i e; cases e
    · rename_i k a k' b r e
      cases e
      obtain ⟨v', r', rfl, hv, hr⟩ := hl.inv_cons
      rw [kept_int hx, kept_int hv]
      obtain ⟨h1, h2⟩ := maxGo_run _ _ v h r' _ (.int k (bif ile b a then a else b)) hr rfl
      refine ⟨h1, fun w => ?_⟩
      rw [List.foldlM_cons, Sem.run_bind]
      have : (Builtin.max2 (.int k a) (.int k' b)).run P w = .ok (.int k (bif ile b a then a else b)) w := by
        simp only [Builtin.max2, Sem.run_pure, ile_eq]
        by_cases hab : b ≤ a
        · rw [if_neg (by omega)]; simp [hab]
        · rw [if_pos (by omega)]; simp [hab]
      rw [this]
      exact h2 w
    · cases h

theorem size_nonzero {t : TypeId} {n : Nat} (h : size? P t = some (n + 1)) (w : World) : (sizeOf t).run P w = .ok (n + 1) w := run_sizeOf' h w

theorem bound_rel {x x' : Option Value} {d n : Nat} (hx : ∀ v, x = some v → ∃ v', x' = some v' ∧ VR Z c D v v') (hn : x = none → x' = none) (h : bound x d = some n) :
    (x = none ∧ x' = none ∧ n = d) ∨ (∃ k, x' = some (.int k (n : Int)) ∧ x ≠ none) := by
  cases x with
  | none => simp only [bound, Option.some.injEq] at h; exact .inl ⟨rfl, hn rfl, h.symm⟩
  | some v =>
    obtain ⟨v', h1, h2⟩ := hx v rfl
    unfold bound at h
    split at h
    · rename_i e; cases e
    · rename_i k m e
      simp only [Option.some.injEq] at h e
      subst h e
      exact .inr ⟨k, by rw [h1, kept_int h2]; rfl, by simp⟩
    · cases h

theorem run_sliceBound {k : IntKind} {n y : Nat} (code : BoundsCode) (h : n ≤ y) (w : World) : (Instr.sliceBound (.int k (n : Int)) y code).run P w = .ok n w := by
  simp only [Instr.sliceBound, asIntOf, Sem.run_bind, Sem.run_pure, Result.andThen_ok]
  rw [if_pos (by omega)]
  simp

theorem map_some {ev ev' : Operand → Value} (h : ∀ x, VR Z c D (ev x) (ev' x)) (lo : Option Operand) : (∀ v, lo.map ev = some v → ∃ v', lo.map ev' = some v' ∧ VR Z c D v v') ∧ (lo.map ev = none → lo.map ev' = none) := by
  cases lo with
  | none => exact ⟨fun v hv => (by cases hv), fun _ => rfl⟩
  | some x => exact ⟨fun v hv => (by simp only [Option.map_some, Option.some.injEq] at hv; subst hv; exact ⟨_, rfl, h x⟩), fun hv => (by cases hv)⟩

/-- The bounds, where there is no third one. -/
theorem run_bounds2 {isSlice : Bool} {len cap cap' l h : Nat} {lo lo' hi hi' : Option Value} (hlo : (lo = none ∧ lo' = none ∧ l = 0) ∨ (∃ k, lo' = some (.int k (l : Int)) ∧ lo ≠ none))
    (hhi : (hi = none ∧ hi' = none ∧ h = len) ∨ (∃ k, hi' = some (.int k (h : Int)) ∧ hi ≠ none)) (h1 : l ≤ h) (h2 : h ≤ cap) (h3 : cap ≤ cap') (w : World) :
    (Instr.sliceBounds isSlice len cap' lo' hi' none).run P w = .ok (l, h, cap') w := by
  unfold Instr.sliceBounds
  rcases hlo with ⟨rfl, rfl, rfl⟩ | ⟨k, rfl, _⟩ <;> rcases hhi with ⟨rfl, rfl, rfl⟩ | ⟨k2, rfl, _⟩ <;>
    simp only [Sem.run_bind, Sem.run_pure, Result.andThen_ok, run_sliceBound _ h1, run_sliceBound _ (Nat.le_trans h2 h3)]


theorem and255 (n : Int) : IntKind.i64.wrap (((BitVec.ofInt 64 n &&& BitVec.ofInt 64 255).toNat : Nat) : Int) = n % 256 := by
  have h1 : (BitVec.ofInt 64 n &&& BitVec.ofInt 64 255).toNat = (n % 256).toNat := by
    rw [BitVec.toNat_and, BitVec.toNat_ofInt, show (BitVec.ofInt 64 255).toNat = 2 ^ 8 - 1 from rfl, Nat.and_two_pow_sub_one_eq_mod]
    omega
  rw [h1]
  have h2 : (n % 256).toNat < 256 := by omega
  have h3 : fits .i64 (Int.ofNat (n % 256).toNat) = true := by
    simp only [fits, Nat.ble_eq]
    omega
  rw [show (((n % 256).toNat : Nat) : Int) = Int.ofNat (n % 256).toNat from rfl, fits_wrap _ _ h3]
  show (((n % 256).toNat : Nat) : Int) = _
  omega

theorem and_mask (n : Int) (m : Nat) (hm : m ≤ 8) : IntKind.i64.wrap (((BitVec.ofInt 64 n &&& BitVec.ofInt 64 ((2 ^ m - 1 : Nat) : Int)).toNat : Nat) : Int) = n % ((2 ^ m : Nat) : Int) := by
  have hp : 2 ^ m ≤ 2 ^ 8 := Nat.pow_le_pow_right (by omega) hm
  have hp0 : 0 < 2 ^ m := Nat.pos_of_ne_zero (by simp)
  have hdvd : ((2 ^ m : Nat) : Int) ∣ ((2 ^ 64 : Nat) : Int) := Int.natCast_dvd_natCast.2 (Nat.pow_dvd_pow 2 (show m ≤ 64 by omega))
  have hb : (BitVec.ofInt 64 ((2 ^ m - 1 : Nat) : Int)).toNat = 2 ^ m - 1 := by
    rw [BitVec.toNat_ofInt]
    have : ((2 ^ m - 1 : Nat) : Int) % ((2 ^ 64 : Nat) : Int) = ((2 ^ m - 1 : Nat) : Int) := Int.emod_eq_of_lt (by omega) (by omega)
    rw [this]; rfl
  have h1 : (BitVec.ofInt 64 n &&& BitVec.ofInt 64 ((2 ^ m - 1 : Nat) : Int)).toNat = (n % ((2 ^ m : Nat) : Int)).toNat := by
    rw [BitVec.toNat_and, hb, BitVec.toNat_ofInt, Nat.and_two_pow_sub_one_eq_mod]
    have e1 : 0 ≤ n % ((2 ^ 64 : Nat) : Int) := Int.emod_nonneg _ (by omega)
    have e2 : ((n % ((2 ^ 64 : Nat) : Int)).toNat % 2 ^ m : Nat) = ((n % ((2 ^ 64 : Nat) : Int)) % ((2 ^ m : Nat) : Int)).toNat := by
      rw [Int.toNat_emod e1 (by omega)]; rfl
    rw [e2, Int.emod_emod_of_dvd _ hdvd]
  rw [h1]
  have h0 : 0 ≤ n % ((2 ^ m : Nat) : Int) := Int.emod_nonneg _ (by omega)
  have hl : n % ((2 ^ m : Nat) : Int) < ((2 ^ m : Nat) : Int) := Int.emod_lt_of_pos _ (by omega)
  have h3 : fits .i64 (Int.ofNat (n % ((2 ^ m : Nat) : Int)).toNat) = true := by
    simp only [fits, Nat.ble_eq]
    omega
  rw [show (((n % ((2 ^ m : Nat) : Int)).toNat : Nat) : Int) = Int.ofNat (n % ((2 ^ m : Nat) : Int)).toNat from rfl, fits_wrap _ _ h3]
  show (((n % ((2 ^ m : Nat) : Int)).toNat : Nat) : Int) = _
  omega

theorem bif_or2 {α : Type} {b : Bool} {x y v : α} (h : (bif b then x else y) = v) : (b = true ∧ x = v) ∨ (b = false ∧ y = v) := by
  cases b
  · exact .inr ⟨rfl, h⟩
  · exact .inl ⟨rfl, h⟩

theorem ivl_spec {v v' : Value} {l h : Int} (hv : VR Z c D v v') (e : ivl v = some (l, h)) : ∃ n, v' = .int .i64 n ∧ l ≤ n ∧ n ≤ h := by
  unfold ivl at e
  split at e
  · rename_i n
    simp only [Option.some.injEq, Prod.mk.injEq] at e
    obtain ⟨rfl, rfl⟩ := e
    exact ⟨n, kept_int hv, Int.le_refl _, Int.le_refl _⟩
  · rename_i k
    simp only [Option.some.injEq, Prod.mk.injEq] at e
    obtain ⟨rfl, rfl⟩ := e
    cases hv with
    | symM _ n h => exact ⟨n, rfl, h.1, h.2⟩
  · rename_i k
    rcases bif_or2 e with ⟨h1, e⟩ | ⟨_, e⟩
    · simp only [Option.some.injEq, Prod.mk.injEq] at e
      obtain ⟨rfl, rfl⟩ := e
      rw [ile_eq, decide_eq_true_eq] at h1
      cases hv with
      | symC _ s n _ _ h hn =>
        have a1 := Int.mul_le_mul_of_nonneg_left h.1 h1
        have a2 := Int.mul_le_mul_of_nonneg_left h.2 h1
        exact ⟨n, rfl, by omega, by omega⟩
    · cases e
  · cases e

theorem cmpI_spec {op : BinOp} {l1 h1 l2 h2 n m : Int} {b : Bool} (e : cmpI op l1 h1 l2 h2 = some b) (hn : l1 ≤ n ∧ n ≤ h1) (hm : l2 ≤ m ∧ m ≤ h2) :
    binInt P op .i64 n m = some (.bool b) ∧ op ≠ .shl ∧ op ≠ .shr := by
  unfold cmpI at e
  split at e
  all_goals first | (cases e; done) | refine ⟨?_, by decide, by decide⟩
  all_goals
    simp only [binInt, ile_eq, ibeq_eq] at e ⊢
    rcases bif_or2 e with ⟨q, e⟩ | ⟨q, e⟩
  all_goals first
    | (simp only [Option.some.injEq] at e; subst e; simp at q ⊢; omega)
    | (rcases bif_or2 e with ⟨q2, e⟩ | ⟨q2, e⟩)
  all_goals first
    | (cases e; done)
    | (simp only [Option.some.injEq] at e; subst e; simp at q q2 ⊢; omega)
    | (rcases bif_or2 e with ⟨q3, e⟩ | ⟨q3, e⟩)
  all_goals first
    | (cases e; done)
    | (simp only [Option.some.injEq] at e; subst e
       rcases bif_or2 q3 with ⟨q4, q5⟩ | ⟨_, q5⟩
       · simp at q4 q5 ⊢; omega
       · cases q5)

theorem sub_cancel {op : BinOp} {x y z : Int} {b : Bool} (h : binInt P op .i64 y z = some (.bool b)) (ho : op = .lss ∨ op = .leq ∨ op = .gtr ∨ op = .geq ∨ op = .eql ∨ op = .neq) :
    binInt P op .i64 (x + y) (x + z) = some (.bool b) := by
  rcases ho with rfl | rfl | rfl | rfl | rfl | rfl <;> simp only [binInt, ile_eq, ibeq_eq, Option.some.injEq, Value.bool.injEq] at h ⊢ <;> subst h <;> congr 1 <;> simp

theorem cmpI_op {op : BinOp} {l1 h1 l2 h2 : Int} {b : Bool} (e : cmpI op l1 h1 l2 h2 = some b) : op = .lss ∨ op = .leq ∨ op = .gtr ∨ op = .geq ∨ op = .eql ∨ op = .neq := by
  unfold cmpI at e
  split at e <;> first | simp | cases e

theorem cmpV_spec {op : BinOp} {x y x' y' : Value} {b : Bool} (hx : VR Z c D x x') (hy : VR Z c D y y') (e : cmpV op x y = some b) :
    ∃ n m, x' = .int .i64 n ∧ y' = .int .i64 m ∧ binInt P op .i64 n m = some (.bool b) ∧ op ≠ .shl ∧ op ≠ .shr := by
  unfold cmpV at e
  split at e
  · rename_i l1 h1 l2 h2 e1 e2
    obtain ⟨n, rfl, hn⟩ := ivl_spec hx e1
    obtain ⟨m, rfl, hm⟩ := ivl_spec hy e2
    exact ⟨n, m, rfl, rfl, cmpI_spec e hn hm⟩
  · cases e

theorem symCmp_spec {op : BinOp} {x y x' y' : Value} {b : Bool} (hx : VR Z c D x x') (hy : VR Z c D y y') (e : symCmp op x y = some b) :
    ∃ n m, x' = .int .i64 n ∧ y' = .int .i64 m ∧ binInt P op .i64 n m = some (.bool b) ∧ op ≠ .shl ∧ op ≠ .shr := by
  unfold symCmp at e
  split at e
  · rename_i c1 c2
    rcases bif_or2 e with ⟨q, e⟩ | ⟨_, e⟩
    · rcases bif_or2 q with ⟨q1, q2⟩ | ⟨_, q2⟩
      · have i1 : kId c1 = kId c2 := Nat.eq_of_beq_eq_true q1
        rw [ibeq_eq, decide_eq_true_eq] at q2
        cases hx with
        | symC _ s n _ hs _ hn =>
          cases hy with
          | symC _ s2 m _ hs2 _ hm =>
            have : s2 = s := by rw [i1] at hs; omega
            subst this
            obtain ⟨r1, r2, r3⟩ := cmpI_spec (P := P) (n := kB c1) (m := kB c2) e ⟨Int.le_refl _, Int.le_refl _⟩ ⟨Int.le_refl _, Int.le_refl _⟩
            refine ⟨n, m, rfl, rfl, ?_, r2, r3⟩
            rw [hn, hm, q2]
            exact sub_cancel r1 (cmpI_op e)
      · cases q2
    · exact cmpV_spec hx hy e
  · exact cmpV_spec hx hy e

theorem mkC_spec {id : Nat} {lo hi a b : Int} {v : Value} (h : mkC id lo hi a b = some v) : ∃ k, v = .chan (some k) ∧ kId k = id ∧ kLo k = lo ∧ kHi k = hi ∧ kA k = a ∧ kB k = b := by
  unfold mkC at h
  rw [fNat_eq] at h
  rcases bif_or2 h with ⟨h1, h⟩ | ⟨_, h⟩
  · rcases bif_or2 h with ⟨h2, h⟩ | ⟨_, h⟩
    · rcases bif_or2 h with ⟨h3, h⟩ | ⟨_, h⟩
      · rcases bif_or2 h with ⟨h4, h⟩ | ⟨_, h⟩
        · rcases bif_or2 h with ⟨h5, h⟩ | ⟨_, h⟩
          · simp only [Option.some.injEq] at h
            rw [ibeq_eq, decide_eq_true_eq] at h2 h3 h4 h5
            exact ⟨_, h.symm, Nat.eq_of_beq_eq_true h1, h2, h3, h4, h5⟩
          · cases h
        · cases h
      · cases h
    · cases h
  · cases h

theorem mkM_spec {lo hi : Int} {v : Value} (h : mkM lo hi = some v) : ∃ k, v = .map (some k) ∧ cLo k = lo ∧ cHi k = hi := by
  unfold mkM at h
  rw [fNat_eq] at h
  rcases bif_or2 h with ⟨h1, h⟩ | ⟨_, h⟩
  · rcases bif_or2 h with ⟨h2, h⟩ | ⟨_, h⟩
    · simp only [Option.some.injEq] at h
      rw [ibeq_eq, decide_eq_true_eq] at h1 h2
      exact ⟨_, h.symm, h1, h2⟩
    · cases h
  · cases h

theorem fits_i64 {n : Int} : fits .i64 n = true ↔ -9223372036854775808 ≤ n ∧ n ≤ 9223372036854775807 := by
  cases n with
  | ofNat m => rw [fits, Nat.ble_eq]; simp only [Int.ofNat_eq_natCast]; omega
  | negSucc m => rw [fits, Nat.ble_eq]; rw [Int.negSucc_eq]; omega

theorem linC_spec {k : Nat} {a b : Int} {v v' : Value} (hx : VR Z c D (.chan (some k)) v') (h : linC k a b = some v) :
    ∃ s n, v' = .int .i64 n ∧ n = kA k * s + kB k ∧ VR Z c D v (.int .i64 (a * s + b)) ∧ wrapF .i64 (a * s + b) = a * s + b := by
  unfold linC at h
  rcases bif_or2 h with ⟨h1, h⟩ | ⟨_, h⟩
  · rcases bif_or2 h with ⟨h2, h⟩ | ⟨_, h⟩
    · rcases bif_or2 h with ⟨h3, h⟩ | ⟨_, h⟩
      · obtain ⟨k2, rfl, e1, e2, e3, e4, e5⟩ := mkC_spec h
        rw [ile_eq, decide_eq_true_eq] at h1
        cases hx with
        | symC _ s n hD hs hr hn =>
          refine ⟨s, n, rfl, hn, .symC k2 s _ (by rw [e1]; exact hD) (by rw [e1]; exact hs) (by rw [e2, e3]; exact hr) (by rw [e4, e5]), ?_⟩
          have a1 := Int.mul_le_mul_of_nonneg_left hr.1 h1
          have a2 := Int.mul_le_mul_of_nonneg_left hr.2 h1
          have g1 := fits_i64.1 h2
          have g2 := fits_i64.1 h3
          unfold wrapF
          rw [fits_i64.2 ⟨by omega, by omega⟩]
          rfl
      · cases h
    · cases h
  · cases h

theorem symArith_spec {op : BinOp} {x y x' y' v : Value} (hx : VR Z c D x x') (hy : VR Z c D y y') (e : symArith op x y = some v) :
    ∃ n m r, x' = .int .i64 n ∧ y' = .int .i64 m ∧ VR Z c D v (.int .i64 r) ∧ binInt P op .i64 n m = some (.int .i64 r) ∧ op ≠ .shl ∧ op ≠ .shr := by
  unfold symArith at e
  split at e
  · rename_i k m
    obtain ⟨s, n, rfl, hn, hv, hw⟩ := linC_spec hx e
    rw [kept_int hy]
    exact ⟨n, m, _, rfl, rfl, hv, by simp only [binInt]; rw [hn, Int.add_assoc, hw], by decide, by decide⟩
  · rename_i m k
    obtain ⟨s, n, rfl, hn, hv, hw⟩ := linC_spec hy e
    rw [kept_int hx]
    refine ⟨m, n, _, rfl, rfl, hv, ?_, by decide, by decide⟩
    simp only [binInt]
    rw [hn, show m + (kA k * s + kB k) = kA k * s + (m + kB k) by omega, hw]
  · rename_i k m
    obtain ⟨s, n, rfl, hn, hv, hw⟩ := linC_spec hx e
    rw [kept_int hy]
    refine ⟨n, m, _, rfl, rfl, hv, ?_, by decide, by decide⟩
    simp only [binInt]
    rw [hn, show kA k * s + kB k - m = kA k * s + (kB k - m) by omega, hw]
  · rename_i k m
    obtain ⟨s, n, rfl, hn, hv, hw⟩ := linC_spec hx e
    rw [kept_int hy]
    refine ⟨n, m, _, rfl, rfl, hv, ?_, by decide, by decide⟩
    simp only [binInt]
    rw [hn, show (kA k * s + kB k) * m = kA k * m * s + kB k * m by rw [Int.add_mul, Int.mul_assoc, Int.mul_assoc, Int.mul_comm s m], hw]
  · rename_i m k
    obtain ⟨s, n, rfl, hn, hv, hw⟩ := linC_spec hy e
    rw [kept_int hx]
    refine ⟨m, n, _, rfl, rfl, hv, ?_, by decide, by decide⟩
    simp only [binInt]
    rw [hn, show m * (kA k * s + kB k) = m * kA k * s + m * kB k by rw [Int.mul_add, Int.mul_assoc], hw]
  · cases e

theorem symOp_run {op : BinOp} {t : TypeId} {x y x' y' v : Value} (hx : VR Z c D x x') (hy : VR Z c D y y') (h : symOp op x y = some v) :
    ∃ v', VR Z c D v v' ∧ ∀ (a b : Operand) w, (do eqGuard op t a b x' y'; binOp op t x' y' : Sem Value).run P w = .ok v' w := by
  have key : ∀ n m u, x' = .int .i64 n → y' = .int .i64 m → binInt P op .i64 n m = some u → op ≠ .shl → op ≠ .shr → ∀ (a b : Operand) w, (do eqGuard op t a b x' y'; binOp op t x' y' : Sem Value).run P w = .ok u w := by
    rintro n m u rfl rfl hb h1 h2
    have : bin P op t (.int .i64 n) (.int .i64 m) = some u := by
      unfold bin
      split
      · exact absurd rfl h1
      · exact absurd rfl h2
      · rename_i e1 e2
        cases e1; cases e2
        exact hb
      all_goals first | (rename_i e1 _; cases e1; done) | (rename_i e1; cases e1; done) | skip
      all_goals
        exfalso
        simp_all
        rename_i hh
        exact hh _ _ _ _ rfl rfl rfl rfl
    exact (bin_run (Z := Z) (c := c) (D := D) (.int _ _) (.int _ _) this).2
  unfold symOp at h
  split at h
  · rename_i b e
    simp only [Option.some.injEq] at h
    subst h
    obtain ⟨n, m, e1, e2, e3, e4, e5⟩ := symCmp_spec (P := P) hx hy e
    exact ⟨_, .bool b, key n m _ e1 e2 e3 e4 e5⟩
  · obtain ⟨n, m, r, e1, e2, e3, e4, e5, e6⟩ := symArith_spec (P := P) hx hy h
    exact ⟨_, e3, key n m _ e1 e2 e4 e5 e6⟩

theorem symBin_run {op : BinOp} {t : TypeId} {x y x' y' v : Value} (hx : VR Z c D x x') (hy : VR Z c D y y') (h : symBin op x y = some v) :
    ∃ v', VR Z c D v v' ∧ ∀ (a b : Operand) w, (do eqGuard op t a b x' y'; binOp op t x' y' : Sem Value).run P w = .ok v' w := by
  unfold symBin at h
  split at h
  · rename_i l k n
    rw [kept_int hy]
    cases hn : Nat.beq n 255 with
    | true =>
      rw [hn, cond_true] at h
      simp only [Option.some.injEq] at h
      subst h
      have hn : n = 255 := by simpa using hn
      subst hn
      cases hx with
      | symA _ _ m hm =>
        refine ⟨.int .i64 (m % 256), .symB l k _ (by omega) hm, fun a b w => ?_⟩
        simp only [eqGuard, binOp, Op.intBits, Sem.run_bind, Sem.run_pure, Result.andThen_ok, ne_eq, not_true_eq_false, if_false]
        exact congrArg (fun i => Result.ok (Value.int .i64 i) w) (and255 m)
    | false =>
      rw [hn, cond_false] at h
      obtain ⟨h1, h2⟩ := bif_inv h
      simp only [Option.some.injEq] at h2
      subst h2
      simp only [Bool.and_eq_true, Nat.beq_eq, Bool.or_eq_true] at h1
      obtain ⟨h3, h4⟩ := h1
      obtain ⟨j, hj, hl⟩ : ∃ j, j ≤ 8 ∧ l = 2 ^ j := by
        rcases h4 with ((((((h | h) | h) | h) | h) | h) | h)
        · exact ⟨1, by omega, h⟩
        · exact ⟨2, by omega, h⟩
        · exact ⟨3, by omega, h⟩
        · exact ⟨4, by omega, h⟩
        · exact ⟨5, by omega, h⟩
        · exact ⟨6, by omega, h⟩
        · exact ⟨7, by omega, h⟩
      cases hx with
      | symA _ _ m hm =>
        refine ⟨.int .i64 (.ofNat k), .int _ _, fun a b w => ?_⟩
        have hn2 : n = 2 ^ j - 1 := by omega
        have hdvd : ((2 ^ j : Nat) : Int) ∣ ((2 ^ 8 : Nat) : Int) := Int.natCast_dvd_natCast.2 (Nat.pow_dvd_pow 2 hj)
        have e8 : ((2 ^ 8 : Nat) : Int) = 256 := rfl
        rw [e8] at hdvd
        rw [hl, Int.emod_emod_of_dvd _ hdvd] at hm
        show (Op.intBits .and .i64 m (n : Int)).run P w = _
        subst hn2
        exact congrArg (fun i => Result.ok (Value.int .i64 i) w) ((and_mask m j hj).trans hm)
  · rename_i l k n
    obtain ⟨h1, h2⟩ := bif_inv h
    obtain ⟨h3, h4⟩ := bif_inv h2
    simp only [Option.some.injEq] at h4
    subst h4
    have hn : n = l := by simpa using h1
    subst hn
    rw [kept_int hy]
    have hl : 0 < n := by rw [nblt] at h3; simpa using h3
    cases hx with
    | junk a l cp => omega
    | symB _ _ m h0 hm =>
      refine ⟨.int .i64 (.ofNat k), .int _ _, fun a b w => ?_⟩
      have e : m.tmod (n : Int) = (k : Int) := by rw [Int.tmod_eq_emod_of_nonneg h0, hm]
      show (Op.intDiv .rem .i64 m (n : Int)).run P w = _
      unfold Op.intDiv
      rw [if_neg (by omega)]
      exact congrArg (fun i => Result.ok (Value.int .i64 i) w) e
  · rcases bif_or2 h with ⟨_, h⟩ | ⟨_, h⟩
    · exact symOp_run hx hy h
    · cases h

/-- The least and the greatest of two. -/
theorem symMin_run {x y x' y' v : Value} (hx : VR Z c D x x') (hy : VR Z c D y y') (h : symMin x y = some v) : ∃ v', VR Z c D v v' ∧ ∀ w, ([y'].foldlM Builtin.min2 x').run P w = .ok v' w := by
  unfold symMin at h
  split at h
  · rename_i l1 h1 l2 h2 e1 e2
    obtain ⟨n, rfl, hn⟩ := ivl_spec hx e1
    obtain ⟨m, rfl, hm⟩ := ivl_spec hy e2
    have run : ∀ r, (r = if n ≤ m then n else m) → ∀ w, ([Value.int .i64 m].foldlM Builtin.min2 (.int .i64 n)).run P w = .ok (.int .i64 r) w := by
      rintro r rfl w
      rw [List.foldlM_cons, Sem.run_bind]
      have : (Builtin.min2 (.int .i64 n) (.int .i64 m)).run P w = .ok (.int .i64 (if n ≤ m then n else m)) w := by
        simp only [Builtin.min2, Sem.run_pure]
        by_cases hab : n ≤ m
        · rw [if_neg (by omega), if_pos hab]
        · rw [if_pos (by omega), if_neg hab]
      rw [this]
      rfl
    rcases bif_or2 h with ⟨q, h⟩ | ⟨_, h⟩
    · simp only [Option.some.injEq] at h
      subst h
      rw [ile_eq, decide_eq_true_eq] at q
      exact ⟨_, hx, run n (by rw [if_pos (by omega)])⟩
    · rcases bif_or2 h with ⟨q, h⟩ | ⟨_, h⟩
      · simp only [Option.some.injEq] at h
        subst h
        rw [ile_eq, decide_eq_true_eq] at q
        refine ⟨_, hy, run m ?_⟩
        split <;> omega
      · obtain ⟨k, rfl, g1, g2⟩ := mkM_spec h
        refine ⟨_, .symM k (if n ≤ m then n else m) ?_, run _ rfl⟩
        rw [g1, g2]
        unfold imin
        rw [ile_eq, ile_eq]
        constructor
        · cases hc : decide (l1 ≤ l2) <;> simp at hc ⊢ <;> split <;> omega
        · cases hc : decide (h1 ≤ h2) <;> simp at hc ⊢ <;> split <;> omega
  · cases h

theorem symMax_run {x y x' y' v : Value} (hx : VR Z c D x x') (hy : VR Z c D y y') (h : symMax x y = some v) : ∃ v', VR Z c D v v' ∧ ∀ w, ([y'].foldlM Builtin.max2 x').run P w = .ok v' w := by
  unfold symMax at h
  split at h
  · rename_i l1 h1 l2 h2 e1 e2
    obtain ⟨n, rfl, hn⟩ := ivl_spec hx e1
    obtain ⟨m, rfl, hm⟩ := ivl_spec hy e2
    have run : ∀ r, (r = if m ≤ n then n else m) → ∀ w, ([Value.int .i64 m].foldlM Builtin.max2 (.int .i64 n)).run P w = .ok (.int .i64 r) w := by
      rintro r rfl w
      rw [List.foldlM_cons, Sem.run_bind]
      have : (Builtin.max2 (.int .i64 n) (.int .i64 m)).run P w = .ok (.int .i64 (if m ≤ n then n else m)) w := by
        simp only [Builtin.max2, Sem.run_pure]
        by_cases hab : m ≤ n
        · rw [if_neg (by omega), if_pos hab]
        · rw [if_pos (by omega), if_neg hab]
      rw [this]
      rfl
    rcases bif_or2 h with ⟨q, h⟩ | ⟨_, h⟩
    · simp only [Option.some.injEq] at h
      subst h
      rw [ile_eq, decide_eq_true_eq] at q
      exact ⟨_, hx, run n (by rw [if_pos (by omega)])⟩
    · rcases bif_or2 h with ⟨q, h⟩ | ⟨_, h⟩
      · simp only [Option.some.injEq] at h
        subst h
        rw [ile_eq, decide_eq_true_eq] at q
        refine ⟨_, hy, run m ?_⟩
        split <;> omega
      · obtain ⟨k, rfl, g1, g2⟩ := mkM_spec h
        refine ⟨_, .symM k (if m ≤ n then n else m) ?_, run _ rfl⟩
        rw [g1, g2]
        unfold imax
        rw [ile_eq, ile_eq]
        constructor
        · cases hc : decide (l1 ≤ l2) <;> simp at hc ⊢ <;> split <;> omega
        · cases hc : decide (h1 ≤ h2) <;> simp at hc ⊢ <;> split <;> omega
  · cases h

theorem minAny_or {l : List Value} {v : Value} (h : minAny l = some v) : minOf l = some v ∨ ∃ x y, l = [x, y] ∧ symMin x y = some v := by
  unfold minAny at h
  split at h
  · rcases bif_or2 h with ⟨_, h⟩ | ⟨_, h⟩
    · exact .inr ⟨_, _, rfl, h⟩
    · exact .inl h
  · exact .inl h
theorem maxAny_or {l : List Value} {v : Value} (h : maxAny l = some v) : maxOf l = some v ∨ ∃ x y, l = [x, y] ∧ symMax x y = some v := by
  unfold maxAny at h
  split at h
  · rcases bif_or2 h with ⟨_, h⟩ | ⟨_, h⟩
    · exact .inr ⟨_, _, rfl, h⟩
    · exact .inl h
  · exact .inl h

end
end Go.Proofs.Yteloepccjoikdaa.Canon

namespace Go.Proofs.Yteloepccjoikdaa.Canon
set_option linter.unusedVariables false
set_option linter.unusedSimpArgs false
open Go.RowKit
section
variable {Φ : Fx} {Z : Nat} {c : Ctx} {D : Nat → Prop} {P : Program}

theorem ptr_inv {a : Addr} {v' : Value} (h : VR Z c D (.pointer (some a)) v') : ∃ o off, a = ⟨o, off, none⟩ ∧ v' = .pointer (some ⟨c.ρ o, off, none⟩) ∧ D o := by
  cases h with
  | ptr o off hd => exact ⟨o, off, rfl, rfl, hd⟩

theorem slice_inv {a : Option Addr} {l cp : Nat} {v' : Value} (h : VR Z c D (.slice a l cp) v') : ∃ a' cp', v' = .slice a' l cp' ∧ cp ≤ cp' ∧ a'.isNone = a.isNone := by
  cases h with
  | snil => exact ⟨_, _, rfl, Nat.le_refl _, rfl⟩
  | sl o off l cp h hz => exact ⟨_, _, rfl, by omega, rfl⟩
  | z0 a => exact ⟨_, _, rfl, Nat.le_refl _, rfl⟩
  | z1 a cp => exact ⟨_, _, rfl, by omega, rfl⟩

theorem prun_boundsPanic {α : Type} (k : IntKind) (x y : Int) (code : BoundsCode) : prun P (boundsPanic k x y code : Sem α) = none := by
  unfold boundsPanic
  dsimp only
  split <;> rfl

theorem func_inv {fn : Fn} {f g : Array Value} {v' : Value} (h : VR Z c D (.func fn f g) v') : ∃ f' g', v' = .func fn f' g' ∧ LR Z c D f.toList f'.toList ∧ LR Z c D g.toList g'.toList := by
  cases h with
  | func fn f f' g g' hf hg h1 h2 => exact ⟨f', g', rfl, ⟨hf, h1⟩, ⟨hg, h2⟩⟩

theorem tuple_inv {f : Array Value} {v' : Value} (h : VR Z c D (.tuple f) v') : ∃ f', v' = .tuple f' ∧ LR Z c D f.toList f'.toList := by
  cases h with
  | tuple f f' hf h1 => exact ⟨f', rfl, ⟨hf, h1⟩⟩

theorem agg_inv {f : Array Value} {v' : Value} (h : VR Z c D (.agg f) v') : ∃ f', v' = .agg f' ∧ LR Z c D f.toList f'.toList := by
  cases h with
  | agg f f' hf h1 => exact ⟨f', rfl, ⟨hf, h1⟩⟩

theorem sliceStr_run {s : ByteArray} {lo lo' hi hi' : Option Value} {v : Value} {t : TypeId} (hu : P.underlying t = some .string)
    (hlo : (∀ v, lo = some v → ∃ v', lo' = some v' ∧ VR Z c D v v') ∧ (lo = none → lo' = none)) (hhi : (∀ v, hi = some v → ∃ v', hi' = some v' ∧ VR Z c D v v') ∧ (hi = none → hi' = none))
    (h : sliceStr s.data.toList lo hi = some v) : Canon.ground0 v = true ∧ ∀ w, (Instr.sliceAt t (.string s) lo' hi' none).run P w = .ok v w := by
  unfold sliceStr at h
  simp only at h
  split at h
  · rename_i l hh e1 e2
    obtain ⟨h1, h2⟩ := bif_inv h
    rw [Bool.and_eq_true, Nat.ble_eq, Nat.ble_eq, lenN_eq] at h1
    split at h2
    · rename_i r hr
      simp only [Option.some.injEq] at h2
      subst h2
      refine ⟨rfl, fun w => ?_⟩
      obtain ⟨r1, r2⟩ := takeN_eq _ _ _ hr
      rw [dropN_eq] at r1
      have b1 := bound_rel hlo.1 hlo.2 e1
      have b2 := bound_rel hhi.1 hhi.2 e2
      rw [lenN_eq, Nat.add_zero] at b2
      have hsz : s.size = s.data.toList.length := by rw [Array.length_toList]; rfl
      have hb := run_bounds2 (P := P) (isSlice := false) (cap := s.size) (cap' := s.size) b1 (hsz ▸ b2) h1.1 (by omega) (Nat.le_refl _) w
      have e3 : s.extract l hh = ⟨r.toArray⟩ := by
        have : (s.extract l hh).data = s.data.extract l hh := ByteArray.data_extract
        cases hx : s.extract l hh with
        | mk d =>
          rw [hx] at this
          simp only at this
          rw [this, r1]
          congr 1
          apply Array.toList_inj.1
          rw [Array.toList_extract, List.extract_eq_take_drop]
      unfold Instr.sliceAt
      simp only [Sem.run_bind, run_underlying' hu, Result.andThen_ok]
      unfold Instr.slice
      simp only [Sem.run_bind, run_underlying' hu, Result.andThen_ok, Option.isSome_none, Bool.false_eq_true, if_false, hb, Sem.run_pure, e3]
    · cases h2
  · cases h

theorem pop_sound {ev ev' : Operand → Value} (h : ∀ x, VR Z c D (ev x) (ev' x)) (o : Oper) (v : Value) (hp : pop P ev o = some v) :
    ∃ v', VR Z c D v v' ∧ Gives P ev' o v' := by
  obtain ⟨dst, op, type, pos, after, guard⟩ := o
  cases op <;> simp only [pop] at hp <;> first | (cases hp; done) | skip
  case move x => simp only [Option.some.injEq] at hp; subst hp; exact ⟨_, h x, fun w => rfl⟩
  case assign x => simp only [Option.some.injEq] at hp; subst hp; exact ⟨_, h x, fun w => rfl⟩
  case pick a b e =>
    split at hp
    · rename_i t ht
      simp only [Option.some.injEq] at hp
      subst hp
      have hc := kept_bool (ht ▸ h a)
      cases t
      · exact ⟨_, h e, fun w => by simp [execOp, hc, asBool]⟩
      · exact ⟨_, h b, fun w => by simp [execOp, hc, asBool]⟩
    · cases hp
  case build t ps =>
    split at hp
    · rename_i z hz
      obtain ⟨h1, h2⟩ := bif_inv hp
      have hz' : ∀ z, (P.info? t).bind (·.zero) = some z → allL Canon.ground0 z.cells.toList = true := by
        intro u hu
        unfold zero? at hz
        split at hz
        · rename_i i hi
          rw [hi] at hu
          simp only [Option.bind] at hu
          rw [hu] at hz
          simp only [Option.some.injEq] at hz
          rw [hz]; exact h1
        · cases hz
      obtain ⟨v', e1, e2⟩ := build_rel (Z := Z) (c := c) (D := D) (PR.map h ps.toList) hz' h2
      refine ⟨v', e2, fun w => ?_⟩
      have e3 : (ps.map fun (i, x) => (i, ev' x)) = (ps.toList.map fun (i, x) => (i, ev' x)).toArray := by
        apply Array.toList_inj.1; simp
      simp only [execOp, Sem.run_bind, e3, run_of_prun e1 w, Result.andThen_ok, Sem.run_pure]
    · cases hp
  case nilCheck x =>
    split at hp
    · rename_i a ha
      simp only [Option.some.injEq] at hp
      subst hp
      have hx := ha ▸ h x
      obtain ⟨o, off, rfl, e, hd⟩ := ptr_inv hx
      exact ⟨_, hx, fun w => by simp [execOp, e]⟩
    · rename_i f first cap ha
      simp only [Option.some.injEq] at hp
      subst hp
      have hx := ha ▸ h x
      obtain ⟨f', g', e, _, _⟩ := func_inv hx
      exact ⟨_, hx, fun w => by simp [execOp, e]⟩
    · cases hp
  case binOp op t x y yt =>
    split at hp
    · rename_i v0 hs
      simp only [Option.some.injEq] at hp
      subst hp
      obtain ⟨v', h1, h2⟩ := symBin_run (P := P) (t := t) (h x) (h y) hs
      refine ⟨v', h1, fun w => ?_⟩
      have := h2 x y w
      simp only [execOp, Sem.run_bind, Result.andThen] at this ⊢
      split at this
      · rename_i a w1 e1
        simp only [this, Sem.run_pure]
      · cases this
    · obtain ⟨h1, h2⟩ := bin_run (h x) (h y) hp
      refine ⟨v, .of_ground0 h1, fun w => ?_⟩
      have := h2 x y w
      simp only [execOp, Sem.run_bind, Result.andThen] at this ⊢
      split at this
      · rename_i a w1 e1
        simp only [this, Sem.run_pure]
      · cases this
  case unOp op t x =>
    split at hp
    · rename_i b hb
      simp only [Option.some.injEq] at hp
      subst hp
      exact ⟨_, .bool _, fun w => by simp [execOp, kept_bool (hb ▸ h x), Op.unary]⟩
    · rename_i k n hb
      simp only [Option.some.injEq] at hp
      subst hp
      exact ⟨_, .int _ _, fun w => by simp [execOp, kept_int (hb ▸ h x), Op.unary, Op.intArith, wrapF_eq]⟩
    · rename_i k n hb
      obtain ⟨h1, h2⟩ := prunG_run hp
      exact ⟨_, .of_ground0 h1, fun w => by simp [execOp, kept_int (hb ▸ h x), h2 w]⟩
    · cases hp
  case convert src dst x =>
    split at hp
    · rename_i k n hb
      split at hp
      · rename_i d hd
        split at hp
        · rename_i k2 hk
          simp only [Option.some.injEq] at hp
          subst hp
          refine ⟨_, .int _ _, fun w => ?_⟩
          simp only [execOp, kept_int (hb ▸ h x), convert, Sem.run_bind, run_underlying' hd, run_underlying' hk, Result.andThen_ok, convInt, wrapF_eq]
          cases d <;> rfl
        · cases hp
      · cases hp
    · rename_i s hb
      split at hp
      · rename_i d hd
        split at hp
        · rename_i hk
          simp only [Option.some.injEq] at hp
          subst hp
          refine ⟨_, .string _, fun w => ?_⟩
          simp only [execOp, kept_str (hb ▸ h x), convert, Sem.run_bind, run_underlying' hd, run_underlying' hk, Result.andThen_ok]
          cases d <;> rfl
        · cases hp
      · cases hp
    · cases hp
  case makeFunc fn first captured =>
    simp only [Option.some.injEq] at hp
    subst hp
    refine ⟨.func fn (first.map ev') (captured.map ev'), ?_, fun w => rfl⟩
    have l1 := LR.map_ev h first.toList
    have l2 := LR.map_ev h captured.toList
    rw [← map_toList, ← map_toList] at l1 l2
    exact .func _ _ _ _ _ l1.1 l2.1 l1.2 l2.2
  case makeInterface t x =>
    split at hp
    · cases hp
    · rename_i d hn hd
      simp only [Option.some.injEq] at hp
      subst hp
      refine ⟨.iface t (ev' x), .iface _ _ _ (h x), fun w => ?_⟩
      simp only [execOp, Instr.makeInterface, Sem.run_bind, run_underlying' hd, Result.andThen_ok]
      cases d <;> first | rfl | exact absurd rfl (hn _)
    · cases hp
  case fieldAddr s x f =>
    split at hp
    · rename_i a fields ha hu
      have hx := ha ▸ h x
      obtain ⟨o, off, rfl, e, hd⟩ := ptr_inv hx
      split at hp
      · rename_i fd hfd
        split at hp
        · cases hp
        · rename_i sz hn hsz
          simp only [Option.some.injEq] at hp
          subst hp
          refine ⟨.pointer (some ⟨c.ρ o, off + fd.offset, none⟩), by rw [addr_add]; exact .ptr _ _ hd, fun w => ?_⟩
          have hz : sz ≠ 0 := fun e => hn e
          simp only [execOp, Instr.fieldAt, Sem.run_bind, run_underlying' hu, Result.andThen_ok, hfd, e, Instr.sureAddr, Sem.run_pure, fieldPlace, run_sizeOf' hsz, if_neg hz, addr_add]
        · cases hp
      · cases hp
    · cases hp
  case field t x f =>
    obtain ⟨cs, e, d, fd, h1, h2, h3, h4⟩ : ∃ cs, ∃ (e : ev x = .agg cs), ∃ d fd, P.underlying t = some (.struct d) ∧ d[f]? = some fd ∧ True ∧ prun P (part fd.type cs fd.offset) = some v := by
      unfold Instr.field at hp
      rw [prun_bind, prun_underlying] at hp
      cases hu : P.underlying t with
      | none => rw [hu] at hp; cases hp
      | some d =>
        rw [hu] at hp
        simp only [Option.bind] at hp
        split at hp
        · rename_i fields
          split at hp
          · rename_i fd hfd
            rw [prun_bind] at hp
            cases hx : ev x <;> rw [hx] at hp <;> simp only [asAgg, prun_stuck, prun_pure, Option.bind, reduceCtorEq] at hp
            exact ⟨_, rfl, _, _, rfl, hfd, trivial, hp⟩
          · simp [prun_stuck] at hp
        · simp [prun_stuck] at hp
    obtain ⟨f', e', hl⟩ := agg_inv (e ▸ h x)
    obtain ⟨v', p1, p2⟩ := part_rel hl h4
    refine ⟨v', p2, fun w => ?_⟩
    simp only [execOp, Instr.field, Sem.run_bind, run_underlying' h1, Result.andThen_ok, h2, e', asAgg, Sem.run_pure, run_of_prun p1]
  case indexAddr t x i =>
    split at hp
    · rename_i a len cap k n e ha hi hu
      split at hp
      · rename_i sz hsz
        obtain ⟨h1, h2⟩ := bif_inv hp
        simp only [Option.some.injEq] at h2
        subst h2
        rw [Nat.blt_eq] at h1
        have hx := ha ▸ h x
        have hi' := kept_int (hi ▸ h i)
        generalize hv : ev' x = u at hx
        cases hx with
        | sl o off l cp hd hz =>
          refine ⟨.pointer (some ⟨c.ρ o, off + n * sz, none⟩), by rw [addr_add]; exact .ptr _ _ hd, fun w => ?_⟩
          simp only [execOp, Instr.indexAt, hi', hv, asIntOf, Sem.run_bind, Sem.run_pure, Result.andThen_ok, run_underlying' hu, run_sizeOf' hsz, addr_add]
          rw [if_pos (by constructor <;> simp only [Int.ofNat_eq_natCast] <;> omega)]
          simp [run_sizeOf' hsz, addr_add]
        | z0 a => omega
        | z1 a cp => omega
      · cases hp
    · rename_i a k n len e ha hi hu
      split at hp
      · rename_i sz hsz
        obtain ⟨h1, h2⟩ := bif_inv hp
        simp only [Option.some.injEq] at h2
        subst h2
        rw [Nat.blt_eq] at h1
        obtain ⟨o, off, rfl, e', hd⟩ := ptr_inv (ha ▸ h x)
        have hi' := kept_int (hi ▸ h i)
        refine ⟨.pointer (some ⟨c.ρ o, off + n * sz, none⟩), by rw [addr_add]; exact .ptr _ _ hd, fun w => ?_⟩
        simp only [execOp, Instr.indexAt, hi', e', asIntOf, Sem.run_bind, Sem.run_pure, Result.andThen_ok, run_underlying' hu, run_sizeOf' hsz, addr_add, Instr.sureAddr]
        rw [if_pos (by constructor <;> simp only [Int.ofNat_eq_natCast] <;> omega)]
        simp [run_sizeOf' hsz, addr_add]
      · cases hp
    · cases hp
  case index t x i =>
    split at hp
    · rename_i s k n ha hi hu
      split at hp
      · rename_i b hb
        simp only [Option.some.injEq] at hp
        subst hp
        rw [nth_eq] at hb
        refine ⟨_, .int _ _, fun w => ?_⟩
        have hs : s[n]? = some b := by
          have hlt : n < s.data.toList.length := (List.getElem?_eq_some_iff.1 hb).1
          have hlt' : n < s.size := by rw [Array.length_toList] at hlt; exact hlt
          have e1 : s[n] = s.data[n]'hlt' := rfl
          rw [getElem?_pos s n hlt', e1]
          rw [Array.getElem?_toList, Array.getElem?_eq_getElem hlt'] at hb
          exact hb
        simp only [execOp, Instr.index, kept_int (hi ▸ h i), kept_str (ha ▸ h x), asIntOf, Sem.run_bind, Sem.run_pure, Result.andThen_ok, run_underlying' hu]
        simp [hs]
      · cases hp
    · rename_i cs k n len e ha hi hu
      obtain ⟨f', e', hl⟩ := agg_inv (ha ▸ h x)
      unfold Instr.index at hp
      simp only [asIntOf, prun_bind, prun_pure, prun_underlying, hu, Option.bind] at hp
      split at hp
      · rename_i hcond
        rw [prun_bind, prun_sizeOf] at hp
        cases hsz : size? P e with
        | none => rw [hsz] at hp; cases hp
        | some sz =>
          rw [hsz] at hp
          obtain ⟨v', p1, p2⟩ := part_rel hl hp
          refine ⟨v', p2, fun w => ?_⟩
          simp only [execOp, Instr.index, kept_int (hi ▸ h i), e', asIntOf, Sem.run_bind, Sem.run_pure, Result.andThen_ok, run_underlying' hu, if_pos hcond, run_sizeOf' hsz, run_of_prun p1]
      · exfalso
        rw [prun_boundsPanic] at hp
        cases hp
    · cases hp
  case extract x i =>
    split at hp
    · rename_i vs hb
      obtain ⟨f', e', hl⟩ := tuple_inv (hb ▸ h x)
      rw [nth_eq] at hp
      obtain ⟨v', h1, h2⟩ := hl.at hp
      refine ⟨v', h2, fun w => ?_⟩
      have h1' : f'[i]? = some v' := by simpa using h1
      simp only [execOp, Instr.extract, e', h1', Sem.run_bind, Sem.run_pure, Result.andThen_ok]
    · cases hp
  case slice t x lo hi mx =>
    split at hp
    · rename_i s ha hu
      cases mx with
      | none =>
        simp only at hp
        obtain ⟨h1, h2⟩ := sliceStr_run hu (map_some h lo) (map_some h hi) hp
        refine ⟨v, .of_ground0 h1, fun w => ?_⟩
        simp only [execOp, kept_str (ha ▸ h x), Option.map_none, Sem.run_bind, h2 w, Result.andThen_ok, Sem.run_pure]
      | some m => cases hp
    · cases hp
  case call cl =>
    obtain ⟨callee, args, argTypes⟩ := cl
    unfold popCall at hp
    simp only at hp
    split at hp
    · skip
      split at hp
      · rename_i x t ha hat
        have ha' : args = #[x] := Array.toList_inj.1 (by simpa using ha)
        have hat' : argTypes = #[t] := Array.toList_inj.1 (by simpa using hat)
        subst ha' hat'
        split at hp
        · rename_i a n cap e hx hu
          simp only [Option.some.injEq] at hp
          subst hp
          obtain ⟨a', cp', e1, _⟩ := slice_inv (hx ▸ h x)
          refine ⟨_, .int _ _, fun w => ?_⟩
          simp [execOp, resolve, invoke, builtin, Builtin.len_, e1, run_underlying' hu, goInt]
        · rename_i s hx hu
          simp only [Option.some.injEq] at hp
          subst hp
          refine ⟨_, .int _ _, fun w => ?_⟩
          have hsz : s.size = s.data.toList.length := by rw [Array.length_toList]; rfl
          rw [lenN_eq, Nat.add_zero, ← hsz]
          simp [execOp, resolve, invoke, builtin, Builtin.len_, kept_str (hx ▸ h x), run_underlying' hu, goInt]
        · rename_i n e _ _ hu
          simp only [Option.some.injEq] at hp
          subst hp
          refine ⟨_, .int _ _, fun w => ?_⟩
          simp [execOp, resolve, invoke, builtin, Builtin.len_, run_underlying' hu, goInt]
        · cases hp
      · cases hp
    · skip
      have hl := LR.map_ev h args.toList
      rcases minAny_or hp with hp | ⟨x, y, he, hp⟩
      rotate_left
      · rw [he] at hl
        obtain ⟨x', r', e1, hx, hr⟩ := hl.inv_cons
        obtain ⟨y', r2, e3, hy, hr2⟩ := hr.inv_cons
        rw [hr2.inv_nil] at e3
        subst e3
        obtain ⟨v', k1, k2⟩ := symMin_run (P := P) hx hy hp
        refine ⟨v', k1, fun w => ?_⟩
        have e2 : (args.map ev').toList = x' :: [y'] := by rw [map_toList]; exact e1
        simp only [execOp, resolve, invoke, builtin, Builtin.min_, e2, Sem.run_bind, Sem.run_pure, Result.andThen_ok, k2 w]
      unfold minOf at hp
      split at hp
      · rename_i k a r he
        rw [he] at hl
        obtain ⟨v', r', e1, hv, hr⟩ := hl.inv_cons
        obtain ⟨h1, h2⟩ := minGo_run (P := P) r _ v hp r' v' hv hr rfl
        refine ⟨v, .of_ground0 h1, fun w => ?_⟩
        have e2 : (args.map ev').toList = v' :: r' := by rw [map_toList]; exact e1
        simp only [execOp, resolve, invoke, builtin, Builtin.min_, e2, Sem.run_bind, Sem.run_pure, Result.andThen_ok, h2 w]
      · cases hp
    · skip
      have hl := LR.map_ev h args.toList
      rcases maxAny_or hp with hp | ⟨x, y, he, hp⟩
      rotate_left
      · rw [he] at hl
        obtain ⟨x', r', e1, hx, hr⟩ := hl.inv_cons
        obtain ⟨y', r2, e3, hy, hr2⟩ := hr.inv_cons
        rw [hr2.inv_nil] at e3
        subst e3
        obtain ⟨v', k1, k2⟩ := symMax_run (P := P) hx hy hp
        refine ⟨v', k1, fun w => ?_⟩
        have e2 : (args.map ev').toList = x' :: [y'] := by rw [map_toList]; exact e1
        simp only [execOp, resolve, invoke, builtin, Builtin.max_, e2, Sem.run_bind, Sem.run_pure, Result.andThen_ok, k2 w]
      unfold maxOf at hp
      split at hp
      · rename_i k a r he
        rw [he] at hl
        obtain ⟨v', r', e1, hv, hr⟩ := hl.inv_cons
        obtain ⟨h1, h2⟩ := maxGo_run (P := P) r _ v hp r' v' hv hr rfl
        refine ⟨v, .of_ground0 h1, fun w => ?_⟩
        have e2 : (args.map ev').toList = v' :: r' := by rw [map_toList]; exact e1
        simp only [execOp, resolve, invoke, builtin, Builtin.max_, e2, Sem.run_bind, Sem.run_pure, Result.andThen_ok, h2 w]
      · cases hp
    · cases hp
end
end Go.Proofs.Yteloepccjoikdaa.Canon
