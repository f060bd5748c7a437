/-
  Calls that hand back a bool and a row of numbers of their own.
-/
import Derived.Test.YtnjeoolbnanmiaaCanonZ
namespace Go.Proofs.Ytnjeoolbnanmiaa.Canon
set_option linter.unusedVariables false
set_option linter.unusedSimpArgs false
open Go.RowKit

/-- v is a slice that reads as these numbers; where there are any they stand in a block from B on. -/
def RdI (B : Nat) (w : World) (v : Value) (xs : List Int) : Prop :=
  ∃ ao cap, v = .slice ao xs.length cap ∧ (ao = none → cap = 0) ∧ xs.length ≤ cap ∧
    (0 < xs.length → ∃ b off, ao = some ⟨b, off, none⟩ ∧ B ≤ b ∧ ∀ i x, xs[i]? = some x → w.cell? ⟨b, off + i, none⟩ = some (.int .i64 x))

theorem RdI.kept {B : Nat} {w w' : World} {v : Value} {xs : List Int} (h : RdI B w v xs) (hb : Below w.heap.size w w') : RdI B w' v xs := by
  obtain ⟨ao, cap, hv, h1, h2, hc⟩ := h
  refine ⟨ao, cap, hv, h1, h2, fun hp => ?_⟩
  obtain ⟨b, off, ha, hB, hcell⟩ := hc hp
  refine ⟨b, off, ha, hB, fun i x hx => ?_⟩
  have h3 := hcell i x hx
  exact (hb.cell (p := ⟨b, off + i, none⟩) (World.block_lt_of_cell? _ _ h3)).trans h3

def isInts : List Value → List Int → Bool
  | [], [] => true
  | .int .i64 a :: l, x :: r => bif ibeq a x then isInts l r else false
  | _, _ => false
theorem isInts_spec : ∀ {l : List Value} {r : List Int}, isInts l r = true → l = r.map fun x => .int .i64 x
  | [], [], _ => rfl
  | .int .i64 a :: l, x :: r, h => by
    unfold isInts at h
    obtain ⟨h1, h⟩ := bif_tt h
    rw [ibeq_eq, decide_eq_true_eq] at h1
    rw [h1, isInts_spec h]; rfl
/-- Is that slice these numbers? -/
noncomputable def readsAs (h : T AObj) (v : Value) (xs : List Int) : Bool := match v with
  | .slice none n c => bif Nat.beq n 0 then bif Nat.beq c 0 then (match xs with | [] => true | _ :: _ => false) else false else false
  | .slice (some a) n c => bif Nat.beq n (lenN xs 0) then bif Nat.ble n c then bif Nat.beq n 0 then true else (match cellsAt h a n with | some l => isInts l xs | none => false) else false else false
  | _ => false

section
variable {Φ : Fx} {P : Program} {E : Env}

/-- A bool and such a slice, as the model has them. -/
theorem pair_of {Φ : Fx} {c c' : Ctx} {D D' : Nat → Prop} {n : Nat} {s' : St} {w w' : World} {b : Bool} {sv v' : Value} {xs : List Int} (st : Step Φ P c c' D (T.leaf : T AObj) s'.heap n s'.next s'.mw w w')
    (hvv : VR (zId P) c' D' (.tuple #[.bool b, sv]) v') (hr : readsAs s'.heap sv xs = true) : ∃ v2, v' = .tuple #[.bool b, v2] ∧ RdI w.heap.size w' v2 xs ∧ Below w.heap.size w w' := by
  have hbel : Below w.heap.size w w' := ⟨st.os, st.tape, st.output, st.size, fun b hb => st.far b hb fun ⟨o, _, h2, _⟩ => absurd (get_leaf o) h2⟩
  cases hvv with
  | tuple cs cs' hs hv =>
    have hl : LR (zId P) c' _ [.bool b, sv] cs'.toList := ⟨hs, hv⟩
    obtain ⟨v1, r1, e1, a1, a2⟩ := hl.inv_cons
    obtain ⟨v2, r2, e2, a3, a4⟩ := a2.inv_cons
    have e3 := a4.inv_nil
    subst e3
    subst e2
    have e4 : v1 = .bool b := by cases a1; rfl
    subst e4
    have e5 : cs' = #[.bool b, v2] := Array.toList_inj.1 e1
    subst e5
    refine ⟨v2, rfl, ?_, hbel⟩
    unfold readsAs at hr
    split at hr
    · rename_i n cp
      obtain ⟨h1, hr⟩ := bif_tt hr
      obtain ⟨h2, hr⟩ := bif_tt hr
      have h1 := Nat.eq_of_beq_eq_true h1
      have h2 := Nat.eq_of_beq_eq_true h2
      subst h1
      subst h2
      split at hr
      · cases a3
        exact ⟨none, 0, rfl, fun _ => rfl, Nat.le_refl _, fun h => absurd h (by simp)⟩
      · cases hr
    · rename_i a n cp
      obtain ⟨h1, hr⟩ := bif_tt hr
      obtain ⟨h2, hr⟩ := bif_tt hr
      have h1 := Nat.eq_of_beq_eq_true h1
      rw [lenN_eq, Nat.add_zero] at h1
      rw [Nat.ble_eq] at h2
      cases a3 with
      | z0 a' => exact ⟨some a', 0, by rw [← h1], (fun h => by cases h), by omega, fun h => by omega⟩
      | z1 a' cp' => exact ⟨some a', cp', by rw [← h1], (fun h => by cases h), by omega, fun h => by omega⟩
      | sl o off l cp' hd hz2 =>
        refine ⟨some ⟨c'.ρ o, off, none⟩, cp + c'.x o, by rw [h1], (fun h => by cases h), by omega, fun hp => ⟨c'.ρ o, off, rfl, ?_, ?_⟩⟩
        · have hn : Nat.beq n 0 = false := by cases hb : Nat.beq n 0 with | false => rfl | true => have := Nat.eq_of_beq_eq_true hb; omega
          rw [hn, cond_false] at hr
          split at hr
          · rename_i cl hcl
            have hlive : s'.heap.get o ≠ none := by
              unfold cellsAt at hcl
              split at hcl
              · rename_i obj ho; dsimp only at ho; rw [ho]; simp
              · cases hcl
            rcases st.live o hlive with h3 | ⟨_, _, h4 | ⟨p, _, h5, _⟩⟩
            · exact absurd (get_leaf o) h3
            · exact h4
            · exact absurd (get_leaf p) h5
          · cases hr
        · intro i x hx
          have hn : Nat.beq n 0 = false := by cases hb : Nat.beq n 0 with | false => rfl | true => have := Nat.eq_of_beq_eq_true hb; omega
          rw [hn, cond_false] at hr
          split at hr
          · rename_i cl hcl
            obtain ⟨l', q1, q2, q3, q4⟩ := read_cells st.hr hcl
            have k := isInts_spec hr
            have hg : l' = cl := q1.ground0 (by rw [k, allL_eq]; intro y hy; obtain ⟨z, _, rfl⟩ := List.mem_map.1 hy; rfl)
            refine q3 i _ ?_
            rw [hg, k, List.getElem?_map, hx]; rfl
          · cases hr
    · cases hr

/-- What the runner answers, a bool and such a slice, called with such values, the model answers. -/
theorem closed_pair (hE : E.P = P) (hEo : ∀ Φ, EnvOK Φ E) (hz : base P < 4000000) {d : Nat} {f : FuncId} (hbody : hasBody P f = true) {args args' : List Value} {b : Bool} {sv : Value} {s' : St} {xs : List Int}
    (h : callN E d f args ⟨base P, base P, .leaf⟩ = some (.tuple #[.bool b, sv], s')) (ha : ∀ c, LR (zId P) c (fun o => o < zId P) args args') (hr : readsAs s'.heap sv xs = true) (w : World) :
    Calls P f args'.toArray w fun e w' => ∃ v', e = .returned (.tuple #[.bool b, v']) ∧ RdI w.heap.size w' v' xs ∧ Below w.heap.size w w' := by
  have hZ : zId P < base P := by unfold zId base; omega
  obtain ⟨m1, ⟨_, k1⟩ | ⟨_, fn, row, h6, h7, _⟩⟩ := callN_sound (Φ := ⟨w, fun _ => 0⟩) hE (hEo _) d f args _ _ s' h hZ
  rotate_left
  · exfalso
    unfold hasBody at hbody
    rw [h6] at hbody
    simp only at hbody
    cases hf : fn.body with
    | none => rw [hf] at hbody; cases hbody
    | some _ => rw [hf] at h7; cases h7
  let c : Ctx := ⟨fun o => o, fun _ => 0⟩
  let D : Nat → Prop := fun o => o < zId P
  have hH : HR ⟨w, fun _ => 0⟩ P c D (T.leaf : T AObj) w := ⟨fun o ho => absurd (get_leaf o) ho, fun o obj ho => (by rw [get_leaf] at ho; cases ho), fun o o' ho => absurd (get_leaf o) ho, Below.refl _ _, fun o ho => absurd (get_leaf o) ho, fun _ _ => rfl⟩
  have hB : Bd ⟨base P, base P, .leaf⟩ := ⟨by dsimp only; omega, fun o ho => absurd (get_leaf o) ho⟩
  refine (k1 c D w args' hB hH (fun g hg => ⟨hg, rfl⟩) (fun o h1 _ h2 => by dsimp only at h1; have h2' : o < zId P := h2; omega) (ha c)).mono fun e w' hp => ?_
  obtain ⟨c', v', rfl, st, hvv⟩ := hp
  obtain ⟨v2, e2, h1, h2⟩ := pair_of st hvv hr
  exact ⟨v2, by rw [e2], h1, h2⟩

/-- Such an answer, told by running. -/
noncomputable def isPair (r : Option (Value × St)) (b : Bool) (xs : List Int) : Bool := match r with
  | some (.tuple cs, s) => (match cs.toList with
    | [.bool b', sv] => bif (bif b then b' else !b') then readsAs s.heap sv xs else false
    | _ => false)
  | _ => false
theorem isPair_spec {r : Option (Value × St)} {b : Bool} {xs : List Int} (h : isPair r b xs = true) : ∃ sv s, r = some (.tuple #[.bool b, sv], s) ∧ readsAs s.heap sv xs = true := by
  unfold isPair at h
  split at h
  · rename_i cs s
    split at h
    · rename_i b' sv hcs
      obtain ⟨h1, h2⟩ := bif_tt h
      have : cs = #[.bool b', sv] := Array.toList_inj.1 hcs
      subst this
      refine ⟨sv, s, ?_, h2⟩
      cases b <;> cases b' <;> first | rfl | cases h1
    · cases h
  · cases h
/-- So many runs, from the n-th on. -/
noncomputable def pairsY (E : Env) (d : Nat) (f : FuncId) (mk : Nat → List Value) (wb : Nat → Bool) (wl : Nat → List Int) : Nat → Nat → Bool
  | _, 0 => true
  | n, m + 1 => kNat n fun n => bif isPair (callY E d f (mk n) (start E.P)) (wb n) (wl n) then pairsY E d f mk wb wl (n + 1) m else false
def PairAt (E : Env) (d : Nat) (f : FuncId) (mk : Nat → List Value) (wb : Nat → Bool) (wl : Nat → List Int) (k : Nat) : Prop :=
  ∃ sv s, callN E d f (mk k) (start E.P) = some (.tuple #[.bool (wb k), sv], s) ∧ readsAs s.heap sv (wl k) = true
theorem nextP {d : Nat} {f : FuncId} {mk : Nat → List Value} {wb : Nat → Bool} {wl : Nat → List Int} : ∀ (m : Nat) {n : Nat}, (∀ k, k < n → PairAt E d f mk wb wl k) → pairsY E d f mk wb wl n m = true → ∀ k, k < n + m → PairAt E d f mk wb wl k
  | 0, n, h, _, k, hk => h k hk
  | m + 1, n, h, hr, k, hk => by
    unfold pairsY at hr
    rw [kNat_eq] at hr
    obtain ⟨h1, h2⟩ := bif_tt hr
    refine nextP m (n := n + 1) (fun k hk => ?_) h2 k (by omega)
    rcases Nat.lt_or_ge k n with h3 | h3
    · exact h k h3
    · have : k = n := by omega
      subst this
      obtain ⟨sv, s, e1, e2⟩ := isPair_spec h1
      rw [callY_eq] at e1
      exact ⟨sv, s, callW_callN d _ _ _ _ e1, e2⟩
theorem Fit.pair {P : Program} (h : Fit P) {d : Nat} {f : FuncId} (hb : hasBody P f = true) {mk : Nat → List Value} {wb : Nat → Bool} {wl : Nat → List Int} {k : Nat} (hp : PairAt (envOf P) d f mk wb wl k)
    {args' : List Value} (ha : ∀ c, LR (zId P) c (fun o => o < zId P) (mk k) args') (w : World) :
    Calls P f args'.toArray w fun e w' => ∃ v', e = .returned (.tuple #[.bool (wb k), v']) ∧ RdI w.heap.size w' v' (wl k) ∧ Below w.heap.size w w' := by
  obtain ⟨sv, s, e1, e2⟩ := hp
  exact closed_pair (P := P) (E := envOf P) rfl h.env h.small' hb e1 ha e2 w

/-! Numbers and slices that bear names; calls that are known. -/
def nmCtx (nm : Nat → Nat) : Ctx := ⟨fun o => o, fun o => if 5000000 ≤ o then nm o else 0⟩
def nmFx (w : World) (nm : Nat → Nat) : Fx := ⟨w, (nmCtx nm).x⟩
/-- The number i that bears a name: any of its kind. -/
def symI (i : Nat) : Nat := codeC i (-9223372036854775808) 9223372036854775807 1 0
theorem symI_is : ∀ i, i < 32 → kId (symI i) = i ∧ kLo (symI i) = -9223372036854775808 ∧ kHi (symI i) = 9223372036854775807 ∧ kA (symI i) = 1 ∧ kB (symI i) = 0 := by decide +kernel
/-- The numbers, and the slices, in their order. -/
def nmOf (ns : List Int) (ss : List (Nat × Nat × Nat × Nat)) (o : Nat) : Nat :=
  if o < 6000000 then (ns.getD (o - 5000000) 0 + 9223372036854775808).toNat
  else if (o - 6000000) % 4 = 0 then (ss.getD ((o - 6000000) / 4) (0, 0, 0, 0)).1
  else if (o - 6000000) % 4 = 1 then (ss.getD ((o - 6000000) / 4) (0, 0, 0, 0)).2.1
  else if (o - 6000000) % 4 = 2 then (ss.getD ((o - 6000000) / 4) (0, 0, 0, 0)).2.2.1
  else (ss.getD ((o - 6000000) / 4) (0, 0, 0, 0)).2.2.2
theorem nmOf_int (ns : List Int) (ss : List (Nat × Nat × Nat × Nat)) {i : Nat} {n : Int} (hi : ns[i]? = some n) (h32 : i < 32) (hn : -9223372036854775808 ≤ n) : ((nmCtx (nmOf ns ss)).x (5000000 + i) : Int) = n + 9223372036854775808 := by
  show ((if 5000000 ≤ 5000000 + i then nmOf ns ss (5000000 + i) else 0 : Nat) : Int) = _
  rw [if_pos (by omega)]
  unfold nmOf
  rw [if_pos (by omega), Nat.add_sub_cancel_left, List.getD_eq_getElem?_getD, hi]
  show ((n + 9223372036854775808).toNat : Int) = _
  omega
theorem nmOf_slice (ns : List Int) (ss : List (Nat × Nat × Nat × Nat)) {k : Nat} {b off l cp : Nat} (hk : ss[k]? = some (b, off, l, cp)) :
    (nmCtx (nmOf ns ss)).x (6000000 + 4 * k) = b ∧ (nmCtx (nmOf ns ss)).x (6000000 + 4 * k + 1) = off ∧ (nmCtx (nmOf ns ss)).x (6000000 + 4 * k + 2) = l ∧ (nmCtx (nmOf ns ss)).x (6000000 + 4 * k + 3) = cp := by
  have e : ∀ j, j < 4 → (nmCtx (nmOf ns ss)).x (6000000 + 4 * k + j) = if j = 0 then b else if j = 1 then off else if j = 2 then l else cp := fun j hj => by
    show (if 5000000 ≤ 6000000 + 4 * k + j then nmOf ns ss (6000000 + 4 * k + j) else 0) = _
    rw [if_pos (by omega)]
    unfold nmOf
    rw [if_neg (by omega), show (6000000 + 4 * k + j - 6000000) % 4 = j by omega, show (6000000 + 4 * k + j - 6000000) / 4 = k by omega, List.getD_eq_getElem?_getD, hk]
    rfl
  exact ⟨e 0 (by omega), e 1 (by omega), e 2 (by omega), e 3 (by omega)⟩
theorem vr_int {Z : Nat} {D : Nat → Prop} (ns : List Int) (ss : List (Nat × Nat × Nat × Nat)) {i : Nat} {n : Int} (hi : ns[i]? = some n) (h32 : i < 32) (hn : -9223372036854775808 ≤ n ∧ n ≤ 9223372036854775807) (hD : D (5000000 + i)) :
    VR Z (nmCtx (nmOf ns ss)) D (.chan (some (symI i))) (.int .i64 n) := by
  obtain ⟨h1, h2, h3, h4, h5⟩ := symI_is i h32
  refine .symC _ n n (by rw [h1]; exact hD) (by rw [h1]; exact nmOf_int ns ss hi h32 hn.1) (by rw [h2, h3]; exact hn) (by rw [h4, h5]; omega)
theorem vr_slice {Z : Nat} {D : Nat → Prop} (ns : List Int) (ss : List (Nat × Nat × Nat × Nat)) {k : Nat} {b off l cp : Nat} (hk : ss[k]? = some (b, off, l, cp)) (hD : ∀ j, j < 4 → D (6000000 + 4 * k + j)) :
    VR Z (nmCtx (nmOf ns ss)) D (.iface k (.map none)) (nslV b off l cp) := by
  obtain ⟨h1, h2, h3, h4⟩ := nmOf_slice ns ss hk
  have := VR.nsl (Z := Z) (c := nmCtx (nmOf ns ss)) k hD
  rwa [h1, h2, h3, h4] at this
/-- Such a value stands for that one alone. -/
theorem int_vr {Z : Nat} {c : Ctx} {D : Nat → Prop} {ns : List Int} {ss : List (Nat × Nat × Nat × Nat)} (hx : ∀ o, 5000000 ≤ o → c.x o = (nmCtx (nmOf ns ss)).x o) {i : Nat} {n : Int} {v : Value} (hi : ns[i]? = some n) (h32 : i < 32)
    (hn : -9223372036854775808 ≤ n) (h : VR Z c D (.chan (some (symI i))) v) : v = .int .i64 n := by
  obtain ⟨h1, h2, h3, h4, h5⟩ := symI_is i h32
  cases h with
  | symC k s m hD hs hr hm =>
    rw [h1, hx _ (by omega), nmOf_int ns ss hi h32 hn] at hs
    rw [h4, h5] at hm
    have : m = n := by omega
    rw [this]
theorem slice_vr {Z : Nat} {c : Ctx} {D : Nat → Prop} {ns : List Int} {ss : List (Nat × Nat × Nat × Nat)} (hx : ∀ o, 5000000 ≤ o → c.x o = (nmCtx (nmOf ns ss)).x o) {k : Nat} {b off l cp : Nat} {v : Value} (hk : ss[k]? = some (b, off, l, cp))
    (h : VR Z c D (.iface k (.map none)) v) : v = nslV b off l cp := by
  obtain ⟨h1, h2, h3, h4⟩ := nmOf_slice ns ss hk
  cases h with
  | iface t u u' hu => cases hu
  | nsl k hD => rw [hx _ (by omega), hx _ (by omega), hx _ (by omega), hx _ (by omega), h1, h2, h3, h4]

/-- A call whose answer is known: f called with args answers v. -/
def OrcAt (Φ : Fx) (P : Program) (f : FuncId) (args : List Value) (v : Value) : Prop :=
  ∀ (c : Ctx) (D : Nat → Prop) (w : World) (args' : List Value), Below Φ.w0.heap.size Φ.w0 w → (∀ o, 5000000 ≤ o → c.x o = Φ.nm o) → LR (zId P) c D args args' →
    Calls P f args'.toArray w fun e w' => ∃ v', e = .returned v' ∧ VR (zId P) c D v v' ∧ Below w.heap.size w w'
/-- One more is known. -/
def orcC (f : FuncId) (args : List Value) (v : Value) (o : FuncId → List Value → Option Value) (g : FuncId) (as : List Value) : Option Value := bif Nat.beq g f then (bif lEq as args then some v else o g as) else o g as
def orcN (_ : FuncId) (_ : List Value) : Option Value := none
def OrcOK (Φ : Fx) (P : Program) (o : FuncId → List Value → Option Value) : Prop := ∀ f args v, o f args = some v → OrcAt Φ P f args v
theorem orcN_ok (Φ : Fx) (P : Program) : OrcOK Φ P orcN := fun f args v h => by cases h
theorem orcC_ok {Φ : Fx} {P : Program} {f : FuncId} {args : List Value} {v : Value} {o : FuncId → List Value → Option Value} (h : OrcAt Φ P f args v) (ho : OrcOK Φ P o) : OrcOK Φ P (orcC f args v o) := fun g as u hu => by
  unfold orcC at hu
  rcases bif_or hu with ⟨h1, hu⟩ | ⟨_, hu⟩
  · rcases bif_or hu with ⟨h2, hu⟩ | ⟨_, hu⟩
    · simp only [Option.some.injEq] at hu
      rw [Nat.eq_of_beq_eq_true h1, lEq_spec h2, ← hu]
      exact h
    · exact ho g as u hu
  · exact ho g as u hu
def envO (P : Program) (o : FuncId → List Value → Option Value) : Env := ⟨P, fun f => P.funcs[f]?, fun _ => false, o⟩
theorem Fit.envO {P : Program} (h : Fit P) {Φ : Fx} {o : FuncId → List Value → Option Value} (ho : OrcOK Φ P o) : EnvOK Φ (envO P o) :=
  ⟨fun f fn hf => hf, fun f fn hf => namesOK_spec h.names fn (List.mem_of_getElem? (by rw [Array.getElem?_toList]; exact hf)), h.mixed, fun f hf => (by cases hf), ho⟩

/-- What the runner answers, called with what bears names, and some calls known. -/
theorem closed_nm {P : Program} (h : Fit P) {o : FuncId → List Value → Option Value} {nm : Nat → Nat} {d : Nat} {f : FuncId} (hbody : hasBody P f = true) {args args' : List Value} {v : Value} {s' : St} (w : World) (ho : OrcOK (nmFx w nm) P o)
    (hr : callN (Canon.envO P o) d f args (start P) = some (v, s')) (ha : LR (zId P) (nmCtx nm) (symDom P) args args') :
    Calls P f args'.toArray w fun e w' => ∃ c' v' D', e = .returned v' ∧ Step (nmFx w nm) P (nmCtx nm) c' (symDom P) (T.leaf : T AObj) s'.heap (base P) s'.next s'.mw w w' ∧ VR (zId P) c' D' v v' := by
  have hz := h.small'
  have hZ : zId P < base P := by unfold zId base; omega
  obtain ⟨m1, ⟨_, k1⟩ | ⟨_, fn, row, h6, h7, _⟩⟩ := callN_sound (Φ := nmFx w nm) (P := P) rfl (h.envO ho) d f args _ _ s' hr hZ
  rotate_left
  · exfalso
    unfold hasBody at hbody
    rw [h6] at hbody
    simp only at hbody
    cases hf : fn.body with
    | none => rw [hf] at hbody; cases hbody
    | some _ => rw [hf] at h7; cases h7
  have hH : HR (nmFx w nm) P (nmCtx nm) (symDom P) (T.leaf : T AObj) w := ⟨fun o ho => absurd (get_leaf o) ho, fun o obj ho => (by rw [get_leaf] at ho; cases ho), fun o o' ho => absurd (get_leaf o) ho, Below.refl _ _, fun o ho => absurd (get_leaf o) ho, fun _ _ => rfl⟩
  have hB : Bd (start P) := ⟨by show base P ≤ 4000000; omega, fun o ho => absurd (get_leaf o) ho⟩
  have hB' := ((m1.2.2 hB).1).1
  refine (k1 (nmCtx nm) (symDom P) w args' hB hH (fun g hg => ⟨.inl hg, rfl⟩) (fun o h1 h3 h2 => ?_) ha).mono fun e w' hp => ?_
  · have h1' : base P ≤ o := h1
    rcases h2 with h2 | h2 <;> omega
  · obtain ⟨c', v', e1, st, hvv⟩ := hp
    exact ⟨c', v', _, e1, st, hvv⟩

/-- So many runs, each with what is known of its own. -/
noncomputable def pairsO (P : Program) (orc : Nat → FuncId → List Value → Option Value) (d : Nat) (f : FuncId) (args : List Value) (wb : Nat → Bool) (wl : Nat → List Int) : Nat → Nat → Bool
  | _, 0 => true
  | n, m + 1 => kNat n fun n => bif isPair (callY (Canon.envO P (orc n)) d f args (start P)) (wb n) (wl n) then pairsO P orc d f args wb wl (n + 1) m else false
def PairO (P : Program) (orc : Nat → FuncId → List Value → Option Value) (d : Nat) (f : FuncId) (args : List Value) (wb : Nat → Bool) (wl : Nat → List Int) (k : Nat) : Prop :=
  ∃ sv s, callN (Canon.envO P (orc k)) d f args (start P) = some (.tuple #[.bool (wb k), sv], s) ∧ readsAs s.heap sv (wl k) = true
theorem nextO {P : Program} {orc : Nat → FuncId → List Value → Option Value} {d : Nat} {f : FuncId} {args : List Value} {wb : Nat → Bool} {wl : Nat → List Int} :
    ∀ (m : Nat) {n : Nat}, (∀ k, k < n → PairO P orc d f args wb wl k) → pairsO P orc d f args wb wl n m = true → ∀ k, k < n + m → PairO P orc d f args wb wl k
  | 0, n, h, _, k, hk => h k hk
  | m + 1, n, h, hr, k, hk => by
    unfold pairsO at hr
    rw [kNat_eq] at hr
    obtain ⟨h1, h2⟩ := bif_tt hr
    refine nextO m (n := n + 1) (fun k hk => ?_) h2 k (by omega)
    rcases Nat.lt_or_ge k n with h3 | h3
    · exact h k h3
    · have : k = n := by omega
      subst this
      obtain ⟨sv, s, e1, e2⟩ := isPair_spec h1
      rw [callY_eq] at e1
      exact ⟨sv, s, callW_callN d _ _ _ _ e1, e2⟩
theorem Fit.pairO {P : Program} (h : Fit P) {orc : Nat → FuncId → List Value → Option Value} {nm : Nat → Nat} {d : Nat} {f : FuncId} (hb : hasBody P f = true) {args args' : List Value} {wb : Nat → Bool} {wl : Nat → List Int} {k : Nat}
    (hp : PairO P orc d f args wb wl k) (w : World) (ho : OrcOK (nmFx w nm) P (orc k)) (ha : LR (zId P) (nmCtx nm) (symDom P) args args') :
    Calls P f args'.toArray w fun e w' => ∃ v', e = .returned (.tuple #[.bool (wb k), v']) ∧ RdI w.heap.size w' v' (wl k) ∧ Below w.heap.size w w' := by
  obtain ⟨sv, s, e1, e2⟩ := hp
  refine (closed_nm h hb w ho e1 ha).mono fun e w' ⟨c', v', D', e3, st, hvv⟩ => ?_
  obtain ⟨v2, e4, h1, h2⟩ := pair_of st hvv e2
  exact ⟨v2, by rw [e3, e4], h1, h2⟩
end
end Go.Proofs.Ytnjeoolbnanmiaa.Canon
