/-
  Calls that hand back a bool and a row of numbers of their own.
  Calls that are known by contract and hand back things of their own: what they hand back bears a name, its memory is written no more.
-/
import Derived.Test.YtlkjdclhgmkndaaCanonZ
namespace Go.Proofs.Ytlkjdclhgmkndaa.Canon
set_option linter.unusedVariables false
set_option linter.unusedSimpArgs false
open Go.RowKit

/-- v is a slice that reads as these numbers; where there are any they stand in a block from B on. -/
def RdI (B : Nat) (w : World) (v : Value) (xs : List Int) : Prop :=
  ∃ ao cap, v = .slice ao xs.length cap ∧ (ao = none → cap = 0) ∧ xs.length ≤ cap ∧
    (0 < xs.length → ∃ b off, ao = some ⟨b, off, none⟩ ∧ B ≤ b ∧ ∀ i x, xs[i]? = some x → w.cell? ⟨b, off + i, none⟩ = some (.int .i64 x))

theorem RdI.kept {B : Nat} {w w' : World} {v : Value} {xs : List Int} (h : RdI B w v xs) (hb : Below w.heap.size w w') : RdI B w' v xs := by
  obtain ⟨ao, cap, hv, h1, h2, hc⟩ := h
  refine ⟨ao, cap, hv, h1, h2, fun hp => ?_⟩
  obtain ⟨b, off, ha, hB, hcell⟩ := hc hp
  refine ⟨b, off, ha, hB, fun i x hx => ?_⟩
  have h3 := hcell i x hx
  exact (hb.cell (p := ⟨b, off + i, none⟩) (World.block_lt_of_cell? _ _ h3)).trans h3

def isInts : List Value → List Int → Bool
  | [], [] => true
  | .int .i64 a :: l, x :: r => bif ibeq a x then isInts l r else false
  | _, _ => false
theorem isInts_spec : ∀ {l : List Value} {r : List Int}, isInts l r = true → l = r.map fun x => .int .i64 x
  | [], [], _ => rfl
  | .int .i64 a :: l, x :: r, h => by
    unfold isInts at h
    obtain ⟨h1, h⟩ := bif_tt h
    rw [ibeq_eq, decide_eq_true_eq] at h1
    rw [h1, isInts_spec h]; rfl
/-- Is that slice these numbers? -/
noncomputable def readsAs (h : T AObj) (v : Value) (xs : List Int) : Bool := match v with
  | .slice none n c => bif Nat.beq n 0 then bif Nat.beq c 0 then (match xs with | [] => true | _ :: _ => false) else false else false
  | .slice (some a) n c => bif Nat.beq n (lenN xs 0) then bif Nat.ble n c then bif Nat.beq n 0 then true else (match cellsAt h a n with | some l => isInts l xs | none => false) else false else false
  | _ => false

section
variable {Φ : Fx} {P : Program} {E : Env}

/-- A bool and such a slice, as the model has them. -/
theorem pair_of {Φ : Fx} {c c' : Ctx} {D D' : Nat → Prop} {n : Nat} {s' : St} {w w' : World} {b : Bool} {sv v' : Value} {xs : List Int} (st : Step Φ P c c' D (T.leaf : T AObj) s'.heap n s'.next s'.mw w w')
    (hvv : VR (zId P) c' D' (.tuple #[.bool b, sv]) v') (hr : readsAs s'.heap sv xs = true) : ∃ v2, v' = .tuple #[.bool b, v2] ∧ RdI w.heap.size w' v2 xs ∧ Below w.heap.size w w' := by
  have hbel : Below w.heap.size w w' := ⟨st.os, st.tape, st.output, st.size, fun b hb => st.far b hb fun ⟨o, _, h2, _⟩ => absurd (get_leaf o) h2⟩
  cases hvv with
  | tuple cs cs' hs hv =>
    have hl : LR (zId P) c' _ [.bool b, sv] cs'.toList := ⟨hs, hv⟩
    obtain ⟨v1, r1, e1, a1, a2⟩ := hl.inv_cons
    obtain ⟨v2, r2, e2, a3, a4⟩ := a2.inv_cons
    have e3 := a4.inv_nil
    subst e3
    subst e2
    have e4 : v1 = .bool b := by cases a1; rfl
    subst e4
    have e5 : cs' = #[.bool b, v2] := Array.toList_inj.1 e1
    subst e5
    refine ⟨v2, rfl, ?_, hbel⟩
    unfold readsAs at hr
    split at hr
    · rename_i n cp
      obtain ⟨h1, hr⟩ := bif_tt hr
      obtain ⟨h2, hr⟩ := bif_tt hr
      have h1 := Nat.eq_of_beq_eq_true h1
      have h2 := Nat.eq_of_beq_eq_true h2
      subst h1
      subst h2
      split at hr
      · cases a3
        exact ⟨none, 0, rfl, fun _ => rfl, Nat.le_refl _, fun h => absurd h (by simp)⟩
      · cases hr
    · rename_i a n cp
      obtain ⟨h1, hr⟩ := bif_tt hr
      obtain ⟨h2, hr⟩ := bif_tt hr
      have h1 := Nat.eq_of_beq_eq_true h1
      rw [lenN_eq, Nat.add_zero] at h1
      rw [Nat.ble_eq] at h2
      cases a3 with
      | z0 a' => exact ⟨some a', 0, by rw [← h1], (fun h => by cases h), by omega, fun h => by omega⟩
      | z1 a' cp' => exact ⟨some a', cp', by rw [← h1], (fun h => by cases h), by omega, fun h => by omega⟩
      | sl o off l cp' hd hz2 =>
        refine ⟨some ⟨c'.ρ o, off, none⟩, cp + c'.x o, by rw [h1], (fun h => by cases h), by omega, fun hp => ⟨c'.ρ o, off, rfl, ?_, ?_⟩⟩
        · have hn : Nat.beq n 0 = false := by cases hb : Nat.beq n 0 with | false => rfl | true => have := Nat.eq_of_beq_eq_true hb; omega
          rw [hn, cond_false] at hr
          split at hr
          · rename_i cl hcl
            have hlive : s'.heap.get o ≠ none := by
              unfold cellsAt at hcl
              split at hcl
              · rename_i obj ho; dsimp only at ho; rw [ho]; simp
              · cases hcl
            rcases st.live o hlive with h3 | ⟨_, _, h4 | ⟨p, _, h5, _⟩⟩
            · exact absurd (get_leaf o) h3
            · exact h4
            · exact absurd (get_leaf p) h5
          · cases hr
        · intro i x hx
          have hn : Nat.beq n 0 = false := by cases hb : Nat.beq n 0 with | false => rfl | true => have := Nat.eq_of_beq_eq_true hb; omega
          rw [hn, cond_false] at hr
          split at hr
          · rename_i cl hcl
            obtain ⟨l', q1, q2, q3, q4⟩ := read_cells st.hr hcl
            have k := isInts_spec hr
            have hg : l' = cl := q1.ground0 (by rw [k, allL_eq]; intro y hy; obtain ⟨z, _, rfl⟩ := List.mem_map.1 hy; rfl)
            refine q3 i _ ?_
            rw [hg, k, List.getElem?_map, hx]; rfl
          · cases hr
    · cases hr

/-- What the runner answers, a bool and such a slice, called with such values, the model answers. -/
theorem closed_pair (hE : E.P = P) (hEo : ∀ Φ, EnvOK Φ E) (hz : base P < 4000000) {d : Nat} {f : FuncId} (hbody : hasBody P f = true) {args args' : List Value} {b : Bool} {sv : Value} {s' : St} {xs : List Int}
    (h : callN E d f args ⟨base P, base P, .leaf⟩ = some (.tuple #[.bool b, sv], s')) (ha : ∀ c, LR (zId P) c (fun o => o < zId P) args args') (hr : readsAs s'.heap sv xs = true) (w : World) :
    Calls P f args'.toArray w fun e w' => ∃ v', e = .returned (.tuple #[.bool b, v']) ∧ RdI w.heap.size w' v' xs ∧ Below w.heap.size w w' := by
  have hZ : zId P < base P := by unfold zId base; omega
  obtain ⟨m1, ⟨_, k1⟩ | ⟨_, fn, row, h6, h7, _⟩⟩ := callN_sound (Φ := ⟨w, fun _ => 0, fun _ _ _ => True, fun _ _ _ _ _ _ => trivial⟩) hE (hEo _) d f args _ _ s' h hZ
  rotate_left
  · exfalso
    unfold hasBody at hbody
    rw [h6] at hbody
    simp only at hbody
    cases hf : fn.body with
    | none => rw [hf] at hbody; cases hbody
    | some _ => rw [hf] at h7; cases h7
  let c : Ctx := ⟨fun o => o, fun _ => 0, fun _ => [], fun _ => none⟩
  let D : Nat → Prop := fun o => o < zId P
  have hH : HR ⟨w, fun _ => 0, fun _ _ _ => True, fun _ _ _ _ _ _ => trivial⟩ P c D (T.leaf : T AObj) w := ⟨fun o ho => absurd (get_leaf o) ho, fun o obj ho => (by rw [get_leaf] at ho; cases ho), fun o o' ho => absurd (get_leaf o) ho, Below.refl _ _, fun o ho => absurd (get_leaf o) ho, fun _ _ => rfl, fun b x hx => (by cases hx), fun o ho => absurd (get_leaf o) ho, fun o ho => trivial⟩
  have hB : Bd ⟨base P, base P, .leaf⟩ := ⟨by dsimp only; omega, fun o ho => absurd (get_leaf o) ho⟩
  refine (k1 c D w args' hB hH (fun g hg => ⟨hg, rfl⟩) (fun o h1 _ h2 => by dsimp only at h1; have h2' : o < zId P := h2; omega) (ha c)).mono fun e w' hp => ?_
  obtain ⟨c', v', rfl, st, hvv⟩ := hp
  obtain ⟨v2, e2, h1, h2⟩ := pair_of st hvv hr
  exact ⟨v2, by rw [e2], h1, h2⟩

/-- Such an answer, told by running. -/
noncomputable def isPair (r : Option (Value × St)) (b : Bool) (xs : List Int) : Bool := match r with
  | some (.tuple cs, s) => (match cs.toList with
    | [.bool b', sv] => bif (bif b then b' else !b') then readsAs s.heap sv xs else false
    | _ => false)
  | _ => false
theorem isPair_spec {r : Option (Value × St)} {b : Bool} {xs : List Int} (h : isPair r b xs = true) : ∃ sv s, r = some (.tuple #[.bool b, sv], s) ∧ readsAs s.heap sv xs = true := by
  unfold isPair at h
  split at h
  · rename_i cs s
    split at h
    · rename_i b' sv hcs
      obtain ⟨h1, h2⟩ := bif_tt h
      have : cs = #[.bool b', sv] := Array.toList_inj.1 hcs
      subst this
      refine ⟨sv, s, ?_, h2⟩
      cases b <;> cases b' <;> first | rfl | cases h1
    · cases h
  · cases h
/-- So many runs, from the n-th on. -/
noncomputable def pairsY (E : Env) (d : Nat) (f : FuncId) (mk : Nat → List Value) (wb : Nat → Bool) (wl : Nat → List Int) : Nat → Nat → Bool
  | _, 0 => true
  | n, m + 1 => kNat n fun n => bif isPair (callY E d f (mk n) (start E.P)) (wb n) (wl n) then pairsY E d f mk wb wl (n + 1) m else false
def PairAt (E : Env) (d : Nat) (f : FuncId) (mk : Nat → List Value) (wb : Nat → Bool) (wl : Nat → List Int) (k : Nat) : Prop :=
  ∃ sv s, callN E d f (mk k) (start E.P) = some (.tuple #[.bool (wb k), sv], s) ∧ readsAs s.heap sv (wl k) = true
theorem nextP {d : Nat} {f : FuncId} {mk : Nat → List Value} {wb : Nat → Bool} {wl : Nat → List Int} : ∀ (m : Nat) {n : Nat}, (∀ k, k < n → PairAt E d f mk wb wl k) → pairsY E d f mk wb wl n m = true → ∀ k, k < n + m → PairAt E d f mk wb wl k
  | 0, n, h, _, k, hk => h k hk
  | m + 1, n, h, hr, k, hk => by
    unfold pairsY at hr
    rw [kNat_eq] at hr
    obtain ⟨h1, h2⟩ := bif_tt hr
    refine nextP m (n := n + 1) (fun k hk => ?_) h2 k (by omega)
    rcases Nat.lt_or_ge k n with h3 | h3
    · exact h k h3
    · have : k = n := by omega
      subst this
      obtain ⟨sv, s, e1, e2⟩ := isPair_spec h1
      rw [callY_eq] at e1
      exact ⟨sv, s, callW_callN d _ _ _ _ e1, e2⟩
theorem Fit.pair {P : Program} (h : Fit P) {d : Nat} {f : FuncId} (hb : hasBody P f = true) {mk : Nat → List Value} {wb : Nat → Bool} {wl : Nat → List Int} {k : Nat} (hp : PairAt (envOf P) d f mk wb wl k)
    {args' : List Value} (ha : ∀ c, LR (zId P) c (fun o => o < zId P) (mk k) args') (w : World) :
    Calls P f args'.toArray w fun e w' => ∃ v', e = .returned (.tuple #[.bool (wb k), v']) ∧ RdI w.heap.size w' v' (wl k) ∧ Below w.heap.size w w' := by
  obtain ⟨sv, s, e1, e2⟩ := hp
  exact closed_pair (P := P) (E := envOf P) rfl h.env h.small' hb e1 ha e2 w

/-! Numbers and slices that bear names; calls that are known. -/
def nmCtx (nm : Nat → Nat) : Ctx := ⟨fun o => o, fun o => if 5000000 ≤ o then nm o else 0, fun _ => [], fun _ => none⟩
def nmFx (w : World) (nm : Nat → Nat) : Fx := ⟨w, (nmCtx nm).x, fun _ _ _ => True, fun _ _ _ _ _ _ => trivial⟩
/-- The number i that bears a name: any of its kind. -/
def symI (i : Nat) : Nat := codeC i (-9223372036854775808) 9223372036854775807 1 0
theorem symI_is : ∀ i, i < 32 → kId (symI i) = i ∧ kLo (symI i) = -9223372036854775808 ∧ kHi (symI i) = 9223372036854775807 ∧ kA (symI i) = 1 ∧ kB (symI i) = 0 := by decide +kernel
/-- The numbers, and the slices, in their order. -/
def nmOf (ns : List Int) (ss : List (Nat × Nat × Nat × Nat)) (o : Nat) : Nat :=
  if o < 6000000 then (ns.getD (o - 5000000) 0 + 9223372036854775808).toNat
  else if (o - 6000000) % 4 = 0 then (ss.getD ((o - 6000000) / 4) (0, 0, 0, 0)).1
  else if (o - 6000000) % 4 = 1 then (ss.getD ((o - 6000000) / 4) (0, 0, 0, 0)).2.1
  else if (o - 6000000) % 4 = 2 then (ss.getD ((o - 6000000) / 4) (0, 0, 0, 0)).2.2.1
  else (ss.getD ((o - 6000000) / 4) (0, 0, 0, 0)).2.2.2
theorem nmOf_int (ns : List Int) (ss : List (Nat × Nat × Nat × Nat)) {i : Nat} {n : Int} (hi : ns[i]? = some n) (h32 : i < 32) (hn : -9223372036854775808 ≤ n) : ((nmCtx (nmOf ns ss)).x (5000000 + i) : Int) = n + 9223372036854775808 := by
  show ((if 5000000 ≤ 5000000 + i then nmOf ns ss (5000000 + i) else 0 : Nat) : Int) = _
  rw [if_pos (by omega)]
  unfold nmOf
  rw [if_pos (by omega), Nat.add_sub_cancel_left, List.getD_eq_getElem?_getD, hi]
  show ((n + 9223372036854775808).toNat : Int) = _
  omega
theorem nmOf_slice (ns : List Int) (ss : List (Nat × Nat × Nat × Nat)) {k : Nat} {b off l cp : Nat} (hk : ss[k]? = some (b, off, l, cp)) :
    (nmCtx (nmOf ns ss)).x (6000000 + 4 * k) = b ∧ (nmCtx (nmOf ns ss)).x (6000000 + 4 * k + 1) = off ∧ (nmCtx (nmOf ns ss)).x (6000000 + 4 * k + 2) = l ∧ (nmCtx (nmOf ns ss)).x (6000000 + 4 * k + 3) = cp := by
  have e : ∀ j, j < 4 → (nmCtx (nmOf ns ss)).x (6000000 + 4 * k + j) = if j = 0 then b else if j = 1 then off else if j = 2 then l else cp := fun j hj => by
    show (if 5000000 ≤ 6000000 + 4 * k + j then nmOf ns ss (6000000 + 4 * k + j) else 0) = _
    rw [if_pos (by omega)]
    unfold nmOf
    rw [if_neg (by omega), show (6000000 + 4 * k + j - 6000000) % 4 = j by omega, show (6000000 + 4 * k + j - 6000000) / 4 = k by omega, List.getD_eq_getElem?_getD, hk]
    rfl
  exact ⟨e 0 (by omega), e 1 (by omega), e 2 (by omega), e 3 (by omega)⟩
theorem vr_int {Z : Nat} {D : Nat → Prop} (ns : List Int) (ss : List (Nat × Nat × Nat × Nat)) {i : Nat} {n : Int} (hi : ns[i]? = some n) (h32 : i < 32) (hn : -9223372036854775808 ≤ n ∧ n ≤ 9223372036854775807) (hD : D (5000000 + i)) :
    VR Z (nmCtx (nmOf ns ss)) D (.chan (some (symI i))) (.int .i64 n) := by
  obtain ⟨h1, h2, h3, h4, h5⟩ := symI_is i h32
  refine .symC _ n n (by rw [h1]; exact hD) (by rw [h1]; exact nmOf_int ns ss hi h32 hn.1) (by rw [h2, h3]; exact hn) (by rw [h4, h5]; omega)
theorem vr_slice {Z : Nat} {D : Nat → Prop} (ns : List Int) (ss : List (Nat × Nat × Nat × Nat)) {k : Nat} {b off l cp : Nat} (hk : ss[k]? = some (b, off, l, cp)) (hD : ∀ j, j < 4 → D (6000000 + 4 * k + j)) :
    VR Z (nmCtx (nmOf ns ss)) D (.iface k (.map none)) (nslV b off l cp) := by
  obtain ⟨h1, h2, h3, h4⟩ := nmOf_slice ns ss hk
  have := VR.nsl (Z := Z) (c := nmCtx (nmOf ns ss)) k hD
  rwa [h1, h2, h3, h4] at this
/-- Such a value stands for that one alone. -/
theorem int_vr {Z : Nat} {c : Ctx} {D : Nat → Prop} {ns : List Int} {ss : List (Nat × Nat × Nat × Nat)} (hx : ∀ o, 5000000 ≤ o → c.x o = (nmCtx (nmOf ns ss)).x o) {i : Nat} {n : Int} {v : Value} (hi : ns[i]? = some n) (h32 : i < 32)
    (hn : -9223372036854775808 ≤ n) (h : VR Z c D (.chan (some (symI i))) v) : v = .int .i64 n := by
  obtain ⟨h1, h2, h3, h4, h5⟩ := symI_is i h32
  cases h with
  | symC k s m hD hs hr hm =>
    rw [h1, hx _ (by omega), nmOf_int ns ss hi h32 hn] at hs
    rw [h4, h5] at hm
    have : m = n := by omega
    rw [this]
theorem slice_vr {Z : Nat} {c : Ctx} {D : Nat → Prop} {ns : List Int} {ss : List (Nat × Nat × Nat × Nat)} (hx : ∀ o, 5000000 ≤ o → c.x o = (nmCtx (nmOf ns ss)).x o) {k : Nat} {b off l cp : Nat} {v : Value} (hk : ss[k]? = some (b, off, l, cp))
    (h : VR Z c D (.iface k (.map none)) v) : v = nslV b off l cp := by
  obtain ⟨h1, h2, h3, h4⟩ := nmOf_slice ns ss hk
  cases h with
  | iface t u u' hu => cases hu
  | nsl k hD => rw [hx _ (by omega), hx _ (by omega), hx _ (by omega), hx _ (by omega), h1, h2, h3, h4]

/-- A call whose answer is known: f called with args answers v. -/
def OrcAt (Φ : Fx) (P : Program) (f : FuncId) (args : List Value) (v : Value) : Prop :=
  ∀ (c : Ctx) (D : Nat → Prop) (w : World) (args' : List Value), Below Φ.w0.heap.size Φ.w0 w → (∀ o, 5000000 ≤ o → c.x o = Φ.nm o) → LR (zId P) c D args args' →
    Calls P f args'.toArray w fun e w' => ∃ v', e = .returned v' ∧ VR (zId P) c D v v' ∧ Below w.heap.size w w'
/-- One more is known. -/
def orcC (f : FuncId) (args : List Value) (v : Value) (o : FuncId → List Value → St → Option (Value × St)) (g : FuncId) (as : List Value) (s : St) : Option (Value × St) := bif Nat.beq g f then (bif lEq as args then some (v, s) else o g as s) else o g as s
def orcN (_ : FuncId) (_ : List Value) (_ : St) : Option (Value × St) := none
def OrcOK (Φ : Fx) (P : Program) (o : FuncId → List Value → St → Option (Value × St)) : Prop := ∀ f args s v s', o f args s = some (v, s') → s' = s ∧ OrcAt Φ P f args v
theorem orcN_ok (Φ : Fx) (P : Program) : OrcOK Φ P orcN := fun f args s v s' h => by cases h
theorem orcC_ok {Φ : Fx} {P : Program} {f : FuncId} {args : List Value} {v : Value} {o : FuncId → List Value → St → Option (Value × St)} (h : OrcAt Φ P f args v) (ho : OrcOK Φ P o) : OrcOK Φ P (orcC f args v o) := fun g as s u s' hu => by
  unfold orcC at hu
  rcases bif_or hu with ⟨h1, hu⟩ | ⟨_, hu⟩
  · rcases bif_or hu with ⟨h2, hu⟩ | ⟨_, hu⟩
    · simp only [Option.some.injEq, Prod.mk.injEq] at hu
      obtain ⟨rfl, rfl⟩ := hu
      rw [Nat.eq_of_beq_eq_true h1, lEq_spec h2]
      exact ⟨rfl, h⟩
    · exact ho g as s u s' hu
  · exact ho g as s u s' hu
def envO (P : Program) (o : FuncId → List Value → St → Option (Value × St)) : Env := ⟨P, fun f => P.funcs[f]?, fun _ => false, o⟩
theorem Fit.envO {P : Program} (h : Fit P) {Φ : Fx} {o : FuncId → List Value → St → Option (Value × St)} (ho : OrcOK Φ P o) : EnvOK Φ (envO P o) :=
  ⟨fun f fn hf => hf, fun f fn hf => namesOK_spec h.names fn (List.mem_of_getElem? (by rw [Array.getElem?_toList]; exact hf)), h.mixed, fun f hf => (by cases hf), fun f args s v s' hv => by
    obtain ⟨rfl, h2⟩ := ho f args s v s' hv
    refine ⟨rfl, rfl, Nat.le_refl _, id, fun c D w args' hH hf hA => (h2 c D w args' hH.bel hH.nm hA).mono fun e w' ⟨v', h3, h4, h5⟩ => ⟨c.nv, c.fz, v', h3, h5, ⟨fun _ _ => rfl, fun _ _ hx => hx, fun b x hx => (h5.block b (Array.getElem?_eq_some_iff.1 (hH.fz b x hx)).1).trans (hH.fz b x hx), fun _ _ => rfl, fun o h1 h2 => by omega⟩, h4.mono (fun _ _ => ⟨rfl, rfl, rfl⟩) fun o ho => .inl ho⟩⟩⟩

/-- What the runner answers, called with what bears names, and some calls known. -/
theorem closed_nm {P : Program} (h : Fit P) {o : FuncId → List Value → St → Option (Value × St)} {nm : Nat → Nat} {d : Nat} {f : FuncId} (hbody : hasBody P f = true) {args args' : List Value} {v : Value} {s' : St} (w : World) (ho : OrcOK (nmFx w nm) P o)
    (hr : callN (Canon.envO P o) d f args (start P) = some (v, s')) (ha : LR (zId P) (nmCtx nm) (symDom P) args args') :
    Calls P f args'.toArray w fun e w' => ∃ c' v' D', e = .returned v' ∧ Step (nmFx w nm) P (nmCtx nm) c' (symDom P) (T.leaf : T AObj) s'.heap (base P) s'.next s'.mw w w' ∧ VR (zId P) c' D' v v' := by
  have hz := h.small'
  have hZ : zId P < base P := by unfold zId base; omega
  obtain ⟨m1, ⟨_, k1⟩ | ⟨_, fn, row, h6, h7, _⟩⟩ := callN_sound (Φ := nmFx w nm) (P := P) rfl (h.envO ho) d f args _ _ s' hr hZ
  rotate_left
  · exfalso
    unfold hasBody at hbody
    rw [h6] at hbody
    simp only at hbody
    cases hf : fn.body with
    | none => rw [hf] at hbody; cases hbody
    | some _ => rw [hf] at h7; cases h7
  have hH : HR (nmFx w nm) P (nmCtx nm) (symDom P) (T.leaf : T AObj) w := ⟨fun o ho => absurd (get_leaf o) ho, fun o obj ho => (by rw [get_leaf] at ho; cases ho), fun o o' ho => absurd (get_leaf o) ho, Below.refl _ _, fun o ho => absurd (get_leaf o) ho, fun _ _ => rfl, fun b x hx => (by cases hx), fun o ho => absurd (get_leaf o) ho, fun o ho => trivial⟩
  have hB : Bd (start P) := ⟨by show base P ≤ 4000000; omega, fun o ho => absurd (get_leaf o) ho⟩
  have hB' := ((m1.2.2 hB).1).1
  refine (k1 (nmCtx nm) (symDom P) w args' hB hH (fun g hg => ⟨.inl hg, rfl⟩) (fun o h1 h3 h2 => ?_) ha).mono fun e w' hp => ?_
  · have h1' : base P ≤ o := h1
    rcases h2 with h2 | h2 <;> omega
  · obtain ⟨c', v', e1, st, hvv⟩ := hp
    exact ⟨c', v', _, e1, st, hvv⟩

/-- So many runs, each with what is known of its own. -/
noncomputable def pairsO (P : Program) (orc : Nat → FuncId → List Value → St → Option (Value × St)) (d : Nat) (f : FuncId) (args : List Value) (wb : Nat → Bool) (wl : Nat → List Int) : Nat → Nat → Bool
  | _, 0 => true
  | n, m + 1 => kNat n fun n => bif isPair (callY (Canon.envO P (orc n)) d f args (start P)) (wb n) (wl n) then pairsO P orc d f args wb wl (n + 1) m else false
def PairO (P : Program) (orc : Nat → FuncId → List Value → St → Option (Value × St)) (d : Nat) (f : FuncId) (args : List Value) (wb : Nat → Bool) (wl : Nat → List Int) (k : Nat) : Prop :=
  ∃ sv s, callN (Canon.envO P (orc k)) d f args (start P) = some (.tuple #[.bool (wb k), sv], s) ∧ readsAs s.heap sv (wl k) = true
theorem nextO {P : Program} {orc : Nat → FuncId → List Value → St → Option (Value × St)} {d : Nat} {f : FuncId} {args : List Value} {wb : Nat → Bool} {wl : Nat → List Int} :
    ∀ (m : Nat) {n : Nat}, (∀ k, k < n → PairO P orc d f args wb wl k) → pairsO P orc d f args wb wl n m = true → ∀ k, k < n + m → PairO P orc d f args wb wl k
  | 0, n, h, _, k, hk => h k hk
  | m + 1, n, h, hr, k, hk => by
    unfold pairsO at hr
    rw [kNat_eq] at hr
    obtain ⟨h1, h2⟩ := bif_tt hr
    refine nextO m (n := n + 1) (fun k hk => ?_) h2 k (by omega)
    rcases Nat.lt_or_ge k n with h3 | h3
    · exact h k h3
    · have : k = n := by omega
      subst this
      obtain ⟨sv, s, e1, e2⟩ := isPair_spec h1
      rw [callY_eq] at e1
      exact ⟨sv, s, callW_callN d _ _ _ _ e1, e2⟩
theorem Fit.pairO {P : Program} (h : Fit P) {orc : Nat → FuncId → List Value → St → Option (Value × St)} {nm : Nat → Nat} {d : Nat} {f : FuncId} (hb : hasBody P f = true) {args args' : List Value} {wb : Nat → Bool} {wl : Nat → List Int} {k : Nat}
    (hp : PairO P orc d f args wb wl k) (w : World) (ho : OrcOK (nmFx w nm) P (orc k)) (ha : LR (zId P) (nmCtx nm) (symDom P) args args') :
    Calls P f args'.toArray w fun e w' => ∃ v', e = .returned (.tuple #[.bool (wb k), v']) ∧ RdI w.heap.size w' v' (wl k) ∧ Below w.heap.size w w' := by
  obtain ⟨sv, s, e1, e2⟩ := hp
  refine (closed_nm h hb w ho e1 ha).mono fun e w' ⟨c', v', D', e3, st, hvv⟩ => ?_
  obtain ⟨v2, e4, h1, h2⟩ := pair_of st hvv e2
  exact ⟨v2, by rw [e3, e4], h1, h2⟩
end
end Go.Proofs.Ytlkjdclhgmkndaa.Canon

namespace Go.Proofs.Ytlkjdclhgmkndaa.Canon
set_option linter.unusedVariables false
set_option linter.unusedSimpArgs false
open Go.RowKit

/-! Sound equality where cells bear names. -/
def c0Eq : Value → Value → Bool
  | .iface t (.chan none), .iface u (.chan none) => Nat.beq t u
  | a, b => vEq a b
theorem c0Eq_spec {a b : Value} (h : c0Eq a b = true) : a = b := by
  unfold c0Eq at h
  split at h
  · rw [Nat.eq_of_beq_eq_true h]
  · exact vEq_spec h
def c0L : List Value → List Value → Bool
  | [], [] => true
  | a :: l, b :: r => bif c0Eq a b then c0L l r else false
  | _, _ => false
theorem c0L_spec : ∀ {l r : List Value}, c0L l r = true → l = r
  | [], [], _ => rfl
  | a :: l, b :: r, h => by
    unfold c0L at h
    obtain ⟨h1, h⟩ := bif_tt h
    rw [c0Eq_spec h1, c0L_spec h]
  | [], _ :: _, h => by cases h
  | _ :: _, [], h => by cases h
def cEq : Value → Value → Bool
  | .agg a, .agg b => c0L a.toList b.toList
  | a, b => c0Eq a b
theorem cEq_spec {a b : Value} (h : cEq a b = true) : a = b := by
  unfold cEq at h
  split at h
  · rw [Array.toList_inj.1 (c0L_spec h)]
  · exact c0Eq_spec h
def cL : List Value → List Value → Bool
  | [], [] => true
  | a :: l, b :: r => bif cEq a b then cL l r else false
  | _, _ => false
theorem cL_spec : ∀ {l r : List Value}, cL l r = true → l = r
  | [], [], _ => rfl
  | a :: l, b :: r, h => by
    unfold cL at h
    obtain ⟨h1, h⟩ := bif_tt h
    rw [cEq_spec h1, cL_spec h]
  | [], _ :: _, h => by cases h
  | _ :: _, [], h => by cases h

/-! Cells that bear a name, but for those that are told. -/
def nmCells (n : Nat) : Nat → List (Option Value) → List Value
  | _, [] => []
  | j, some v :: r => v :: nmCells n (j + 1) r
  | j, none :: r => .iface (16 * n + j) (.chan none) :: nmCells n (j + 1) r
theorem nmCells_len (n : Nat) : ∀ (j : Nat) (m : List (Option Value)), (nmCells n j m).length = m.length
  | _, [] => rfl
  | j, some v :: r => by rw [nmCells, List.length_cons, nmCells_len, List.length_cons]
  | j, none :: r => by rw [nmCells, List.length_cons, nmCells_len, List.length_cons]
/-- Such cells as are told, or may bear a name. -/
inductive FitsM : List (Option Value) → List Value → Prop
  | nil : FitsM [] []
  | told {v : Value} {m : List (Option Value)} {cs : List Value} (g : ground0 v = true) (h : FitsM m cs) : FitsM (some v :: m) (v :: cs)
  | free {v : Value} {m : List (Option Value)} {cs : List Value} (h1 : v.oneCell' = true) (hb : ∀ b, v ≠ .bool b) (h : FitsM m cs) : FitsM (none :: m) (v :: cs)
theorem FitsM.len {m : List (Option Value)} {cs : List Value} (h : FitsM m cs) : m.length = cs.length := by
  induction h with
  | nil => rfl
  | told g h ih => rw [List.length_cons, List.length_cons, ih]
  | free h1 hb h ih => rw [List.length_cons, List.length_cons, ih]

section
variable {Z : Nat} {c : Ctx} {D : Nat → Prop}

theorem nm_lr {n : Nat} (hD : D n) {m : List (Option Value)} {cs : List Value} (h : FitsM m cs) : ∀ (j : Nat), (∀ i v, cs[i]? = some v → (c.nv n)[j + i]? = some v) → j + m.length ≤ 16 → LR Z c D (nmCells n j m) cs := by
  induction h with
  | nil => intro j _ _; exact .nil
  | @told v m cs g h ih =>
    intro j hc h16
    rw [List.length_cons] at h16
    exact .cons (.of_ground0 g) (ih (j + 1) (fun i v hv => by have := hc (i + 1) v (by simpa using hv); rwa [show j + 1 + i = j + (i + 1) by omega]) (by omega))
  | @free v m cs h1 hb h ih =>
    intro j hc h16
    rw [List.length_cons] at h16
    have e1 : (16 * n + j) / 16 = n := by omega
    have e2 : (16 * n + j) % 16 = j := by omega
    refine .cons (.cell (16 * n + j) v (by rw [e1]; exact hD) (by rw [e1, e2]; exact hc 0 v rfl) h1 hb) (ih (j + 1) (fun i v hv => by have := hc (i + 1) v (by simpa using hv); rwa [show j + 1 + i = j + (i + 1) by omega]) (by omega))

theorem cell_inv {k : Nat} {v : Value} (h : VR Z c D (.iface k (.chan none)) v) : D (k / 16) ∧ (c.nv (k / 16))[k % 16]? = some v := by
  cases h with
  | iface t v v' h => cases h
  | cell k v h hv h1 hb => exact ⟨h, hv⟩

theorem lr_nm {n : Nat} {m : List (Option Value)} {cs : List Value} (h : FitsM m cs) : ∀ (j : Nat) {cs' : List Value}, (∀ i v, cs[i]? = some v → (c.nv n)[j + i]? = some v) → j + m.length ≤ 16 → LR Z c D (nmCells n j m) cs' → cs' = cs := by
  induction h with
  | nil => intro j cs' _ _ h; exact h.inv_nil
  | @told v m cs g h ih =>
    intro j cs' hc h16 hl
    rw [List.length_cons] at h16
    obtain ⟨v', r', rfl, h1, h2⟩ := hl.inv_cons
    rw [h1.ground0 g, ih (j + 1) (fun i v hv => by have := hc (i + 1) v (by simpa using hv); rwa [show j + 1 + i = j + (i + 1) by omega]) (by omega) h2]
  | @free v m cs h1 hb h ih =>
    intro j cs' hc h16 hl
    rw [List.length_cons] at h16
    obtain ⟨v', r', rfl, h3, h4⟩ := hl.inv_cons
    obtain ⟨_, h5⟩ := cell_inv h3
    have e1 : (16 * n + j) / 16 = n := by omega
    have e2 : (16 * n + j) % 16 = j := by omega
    rw [e1, e2] at h5
    have h6 := hc 0 v rfl
    rw [Nat.add_zero, h5] at h6
    rw [Option.some.inj h6, ih (j + 1) (fun i v hv => by have := hc (i + 1) v (by simpa using hv); rwa [show j + 1 + i = j + (i + 1) by omega]) (by omega) h4]

def hasFree : List (Option Value) → Bool
  | [] => false
  | none :: _ => true
  | some _ :: r => hasFree r
theorem lr_ne {n : Nat} : ∀ (m : List (Option Value)) (j : Nat) {cs' : List Value}, hasFree m = true → j + m.length ≤ 16 → LR Z c D (nmCells n j m) cs' → c.nv n ≠ [] ∧ D n
  | [], _, _, h, _, _ => by cases h
  | some v :: r, j, cs', h, h16, hl => by
    rw [List.length_cons] at h16
    obtain ⟨v', r', rfl, h1, h2⟩ := hl.inv_cons
    exact lr_ne r (j + 1) h (by omega) h2
  | none :: r, j, cs', h, h16, hl => by
    rw [List.length_cons] at h16
    obtain ⟨v', r', rfl, h3, h4⟩ := hl.inv_cons
    obtain ⟨h6, h5⟩ := cell_inv h3
    have e1 : (16 * n + j) / 16 = n := by omega
    rw [e1] at h5 h6
    exact ⟨fun e => by rw [e] at h5; simp at h5, h6⟩
end

/-! What is known of the things that bear names: X. -/
def KN (w0 : World) (X : Nat → World → List Value → Prop) (o : Nat) (l : List Value) (f : Nat → Option Obj) : Prop :=
  ∀ w, Below w0.heap.size w0 w → (∀ b x, f b = some x → w.heap[b]? = some x) → X o w l
def knFx (w : World) (X : Nat → World → List Value → Prop) : Fx := ⟨w, fun _ => 0, KN w X, fun o l f g h hk w' hb hg => hk w' hb fun b x hx => hg b x (h b x hx)⟩
def knCtx (w : World) (nv : Nat → List Value) : Ctx := ⟨fun o => o, fun _ => 0, nv, fun b => w.heap[b]?⟩

section
variable {w0 : World} {X : Nat → World → List Value → Prop} {P : Program} {c : Ctx} {D : Nat → Prop} {H : T AObj} {w w' : World}

theorem HR.known (h : HR (knFx w0 X) P c D H w) {o : Nat} (ho : c.nv o ≠ []) : X o w (c.nv o) := h.kn o ho w h.bel h.fz

/-- An argument that bears a name: it is what the name stands for. -/
theorem HR.named (h : HR (knFx w0 X) P c D H w) {n : Nat} {m : List (Option Value)} {cs' : List Value} (hl : LR (zId P) c D (nmCells n 0 m) cs') (hm : hasFree m = true) (h16 : m.length ≤ 16) (hX : ∀ l, X n w l → FitsM m l) : X n w cs' ∧ FitsM m cs' := by
  obtain ⟨h1, _⟩ := lr_ne m 0 hm (by omega) hl
  have h2 := h.known h1
  have h3 := hX _ h2
  have h4 := lr_nm h3 0 (fun i v hv => by rw [Nat.zero_add]; exact hv) (by omega) hl
  rw [h4]
  exact ⟨h2, h3⟩

def nlOne (c : Ctx) (n : Nat) (cs : List Value) (o : Nat) : List Value := if o = n then cs else c.nv o
def fzOne (c : Ctx) (w w' : World) (b : Nat) : Option Obj := if b < w.heap.size then c.fz b else w'.heap[b]?

/-- A call that hands back one thing of its own. -/
theorem named_one (h : HR (knFx w0 X) P c D H w) (hb : Below w.heap.size w w') {n : Nat} {cs : List Value} (hX : ∀ w2 : World, (∀ b, w.heap.size ≤ b → b < w'.heap.size → w2.heap[b]? = w'.heap[b]?) → X n w2 cs) : Named (knFx w0 X) c n (n + 1) (nlOne c n cs) (fzOne c w w') w w' := by
  have hlow : ∀ b x, c.fz b = some x → b < w.heap.size := fun b x hx => (Array.getElem?_eq_some_iff.1 (h.fz b x hx)).1
  refine ⟨fun o ho => by unfold nlOne; rw [if_neg (by omega)], fun b x hx => by unfold fzOne; rw [if_pos (hlow b x hx)]; exact hx, fun b x hx => ?_, fun b hlt => by unfold fzOne; rw [if_pos hlt], fun o h1 h2 _ => ?_⟩
  · unfold fzOne at hx
    split at hx
    · rename_i hlt
      exact (hb.block b hlt).trans (h.fz b x hx)
    · exact hx
  · have e : o = n := by omega
    subst e
    unfold nlOne
    rw [if_pos rfl]
    intro w2 _ hf
    refine hX w2 fun b h3 h4 => ?_
    have h5 : ∃ x, w'.heap[b]? = some x := ⟨_, Array.getElem?_eq_getElem h4⟩
    obtain ⟨x, hx⟩ := h5
    rw [hx]
    exact hf b x (by unfold fzOne; rw [if_neg (by omega)]; exact hx)

/-- What such a call leaves, told whole. -/
theorem named_nothing (h : HR (knFx w0 X) P c D H w) (hb : Below w.heap.size w w') (n : Nat) : Named (knFx w0 X) c n n c.nv c.fz w w' :=
  ⟨fun _ _ => rfl, fun _ _ hx => hx, fun b x hx => (hb.block b (Array.getElem?_eq_some_iff.1 (h.fz b x hx)).1).trans (h.fz b x hx), fun _ _ => rfl, fun o h1 h2 => by omega⟩
end

/-! Tables of known calls. -/
abbrev Orc := FuncId → List Value → St → Option (Value × St)
/-- What is asked of such a table. -/
def OrcS (Φ : Fx) (P : Program) (o : Orc) : Prop :=
  ∀ f args s v s', o f args s = some (v, s') → s'.heap = s.heap ∧ s'.mw = s.mw ∧ s.next ≤ s'.next ∧ (s.next ≤ 4000000 → s'.next ≤ 4000000) ∧
    ∀ (c : Ctx) (D : Nat → Prop) (w : World) (args' : List Value), HR Φ P c D s.heap w → (∀ o, s.next ≤ o → o < s'.next → ¬D o) → LR (zId P) c D args args' →
    Calls P f args'.toArray w fun e w' => ∃ nl fz v', e = .returned v' ∧ Below w.heap.size w w' ∧ Named Φ c s.next s'.next nl fz w w' ∧ VR (zId P) ⟨c.ρ, c.x, nl, fz⟩ (fun o => D o ∨ (s.next ≤ o ∧ o < s'.next)) v v'
def orcNo : Orc := fun _ _ _ => none
theorem orcNo_ok (Φ : Fx) (P : Program) : OrcS Φ P orcNo := fun f args s v s' h => by cases h
/-- f, where its arguments are such and n is the next number, answers v; v bears the name n. -/
def orcE (f : FuncId) (chk : List Value → St → Bool) (n : Nat) (v : Value) (o : Orc) : Orc := fun g as s =>
  bif Nat.beq g f then (bif Nat.beq s.next n then (bif chk as s then (bif Nat.blt n 4000000 then some (v, ⟨n + 1, s.mw, s.heap⟩) else none) else o g as s) else o g as s) else o g as s
/-- f, where its arguments are such, answers v, which stands for itself. -/
def orcV (f : FuncId) (chk : List Value → St → Bool) (v : Value) (o : Orc) : Orc := fun g as s =>
  bif Nat.beq g f then (bif chk as s then some (v, s) else o g as s) else o g as s
/-- The two as promises. -/
def PromE (Φ : Fx) (P : Program) (f : FuncId) (chk : List Value → St → Bool) (n : Nat) (v : Value) : Prop :=
  ∀ (c : Ctx) (D : Nat → Prop) (w : World) (args args' : List Value) (s : St), chk args s = true → HR Φ P c D s.heap w → ¬D n → LR (zId P) c D args args' →
    Calls P f args'.toArray w fun e w' => ∃ nl fz v', e = .returned v' ∧ Below w.heap.size w w' ∧ Named Φ c n (n + 1) nl fz w w' ∧ VR (zId P) ⟨c.ρ, c.x, nl, fz⟩ (fun o => D o ∨ (n ≤ o ∧ o < n + 1)) v v'
def PromV (Φ : Fx) (P : Program) (f : FuncId) (chk : List Value → St → Bool) (v : Value) : Prop :=
  ∀ (c : Ctx) (D : Nat → Prop) (w : World) (args args' : List Value) (s : St), chk args s = true → HR Φ P c D s.heap w → LR (zId P) c D args args' →
    Calls P f args'.toArray w fun e w' => e = .returned v ∧ Below w.heap.size w w'
theorem orcE_ok {Φ : Fx} {P : Program} {f : FuncId} {chk : List Value → St → Bool} {n : Nat} {v : Value} {o : Orc} (h : PromE Φ P f chk n v) (ho : OrcS Φ P o) : OrcS Φ P (orcE f chk n v o) := fun g as s u s' hu => by
  unfold orcE at hu
  rcases bif_or hu with ⟨h1, hu⟩ | ⟨_, hu⟩
  · rcases bif_or hu with ⟨h2, hu⟩ | ⟨_, hu⟩
    · rcases bif_or hu with ⟨h3, hu⟩ | ⟨_, hu⟩
      · obtain ⟨h4, hu⟩ := bif_inv hu
        simp only [Option.some.injEq, Prod.mk.injEq] at hu
        obtain ⟨rfl, rfl⟩ := hu
        rw [Nat.blt_eq] at h4
        have h1 := Nat.eq_of_beq_eq_true h1
        have h2 := Nat.eq_of_beq_eq_true h2
        subst h1 h2
        exact ⟨rfl, rfl, Nat.le_succ _, fun _ => h4, fun c D w args' hH hf hA => h c D w as args' s h3 hH (hf _ (Nat.le_refl _) (Nat.lt_succ_self _)) hA⟩
      · exact ho g as s u s' hu
    · exact ho g as s u s' hu
  · exact ho g as s u s' hu
theorem orcV_ok {w0 : World} {X : Nat → World → List Value → Prop} {P : Program} {f : FuncId} {chk : List Value → St → Bool} {v : Value} {o : Orc} (hv : ground v = true) (h : PromV (knFx w0 X) P f chk v) (ho : OrcS (knFx w0 X) P o) : OrcS (knFx w0 X) P (orcV f chk v o) := fun g as s u s' hu => by
  unfold orcV at hu
  rcases bif_or hu with ⟨h1, hu⟩ | ⟨_, hu⟩
  · rcases bif_or hu with ⟨h3, hu⟩ | ⟨_, hu⟩
    · simp only [Option.some.injEq, Prod.mk.injEq] at hu
      obtain ⟨rfl, rfl⟩ := hu
      have h1 := Nat.eq_of_beq_eq_true h1
      subst h1
      exact ⟨rfl, rfl, Nat.le_refl _, id, fun c D w args' hH hf hA => (h c D w as args' s h3 hH hA).mono fun e w' ⟨h4, h5⟩ => ⟨c.nv, c.fz, v, h4, h5, named_nothing hH h5 _, .of_ground hv⟩⟩
    · exact ho g as s u s' hu
  · exact ho g as s u s' hu
theorem Fit.envS {P : Program} (h : Fit P) {Φ : Fx} {o : Orc} (ho : OrcS Φ P o) : EnvOK Φ (Canon.envO P o) :=
  ⟨fun f fn hf => hf, fun f fn hf => namesOK_spec h.names fn (List.mem_of_getElem? (by rw [Array.getElem?_toList]; exact hf)), h.mixed, fun f hf => (by cases hf), ho⟩

/-- What the runner answers with true, called with what bears names, and some calls known. -/
theorem Fit.kn {P : Program} (h : Fit P) {o : Orc} {X : Nat → World → List Value → Prop} {nv : Nat → List Value} {d : Nat} {f : FuncId} (hbody : hasBody P f = true) {args args' : List Value} (w : World) (ho : OrcS (knFx w X) P o)
    (hnv : ∀ i, nv i ≠ [] → ∀ w2, Below w.heap.size w w2 → X i w2 (nv i)) (ha : LR (zId P) (knCtx w nv) (symDom P) args args') (hr : isTrue (callY (Canon.envO P o) d f args (start P)) = true) :
    Calls P f args'.toArray w fun e w' => e = .returned (.bool true) ∧ Below w.heap.size w w' := by
  obtain ⟨s', hs⟩ := isTrue_some hr
  rw [callY_eq] at hs
  have hr := callW_callN d _ _ _ _ hs
  have hz := h.small'
  have hZ : zId P < base P := by unfold zId base; omega
  obtain ⟨m1, ⟨_, k1⟩ | ⟨_, fn, row, h6, h7, _⟩⟩ := callN_sound (Φ := knFx w X) (P := P) rfl (h.envS ho) d f args _ _ s' hr hZ
  rotate_left
  · exfalso
    unfold hasBody at hbody
    rw [h6] at hbody
    simp only at hbody
    cases hf : fn.body with
    | none => rw [hf] at hbody; cases hbody
    | some _ => rw [hf] at h7; cases h7
  have hH : HR (knFx w X) P (knCtx w nv) (symDom P) (T.leaf : T AObj) w := ⟨fun o ho => absurd (get_leaf o) ho, fun o obj ho => (by rw [get_leaf] at ho; cases ho), fun o o' ho => absurd (get_leaf o) ho, Below.refl _ _, fun o ho => absurd (get_leaf o) ho, fun _ _ => rfl, fun b x hx => hx, fun o ho => absurd (get_leaf o) ho, fun o ho w2 hb _ => hnv o ho w2 hb⟩
  have hB : Bd (start P) := ⟨by show base P ≤ 4000000; omega, fun o ho => absurd (get_leaf o) ho⟩
  have hB' := ((m1.2.2 hB).1).1
  refine (k1 (knCtx w nv) (symDom P) w args' hB hH (fun g hg => ⟨.inl hg, rfl⟩) (fun o h1 h3 h2 => ?_) ha).mono fun e w' hp => ?_
  · have h1' : base P ≤ o := h1
    rcases h2 with h2 | h2 <;> omega
  · obtain ⟨c', v', rfl, st, hvv⟩ := hp
    exact ⟨by rw [hvv.ground2 rfl], ⟨st.os, st.tape, st.output, st.size, fun b hb => st.far b hb fun ⟨o, _, h2, _⟩ => absurd (get_leaf o) h2⟩⟩
end Go.Proofs.Ytlkjdclhgmkndaa.Canon
