/-
  The look at a region that draws its order, made quickly.
  The same runner, its temporaries in a tree: what it answers, the runner answers.
-/
import Derived.Test.YtlkjdclhgmkndaaCanonV
namespace Go.Proofs.Ytlkjdclhgmkndaa.Canon
set_option linter.unusedVariables false
set_option linter.unusedSimpArgs false
open Go.RowKit

/-! The masks by a tree. -/
noncomputable def emT (t : T Nat) (o : Oper) : Nat :=
  o.after.toList.foldl (fun m e => bif Region.binds .any e then Nat.lor m (Nat.lor (Nat.shiftLeft 1 e.on) (match t.get e.on with | some x => x | none => 0)) else m) 0
noncomputable def masksT : List Oper → Nat → T Nat → List Nat
  | [], _, _ => []
  | o :: rest, i, t => fNat (emT t o) fun m => fNat (i + 1) fun j => m :: masksT rest j (T.set (some m) deep t i)

theorem emT_eq {t : T Nat} {acc : List Nat} (h : ∀ k, t.get k = acc[k]?) (o : Oper) : emT t o = em acc o := by
  unfold emT em
  congr 1
  funext m e
  rw [h, nth_eq]
  cases acc[e.on]? <;> rfl

theorem masksT_eq : ∀ (rest : List Oper) (acc : List Nat) (t : T Nat), acc.length + rest.length ≤ 4000000 → (∀ k, t.get k = acc[k]?) → acc ++ masksT rest acc.length t = masks rest acc
  | [], acc, t, _, h => by simp [masksT, masks]
  | o :: rest, acc, t, hl, h => by
    have e : masks (o :: rest) acc = masks rest (acc ++ [em acc o]) := by rw [← app_eq]; rfl
    rw [List.length_cons] at hl
    have e2 := masksT_eq rest (acc ++ [em acc o]) (T.set (some (em acc o)) deep t acc.length) (by simp; omega) fun k => by
      rw [get_set _ _ _ _ _ (by unfold deep; omega)]
      by_cases hk : k = acc.length
      · subst hk; rw [if_pos rfl]; simp
      · rw [if_neg hk, h]
        rcases Nat.lt_or_ge k acc.length with h1 | h1
        · rw [List.getElem?_append_left h1]
        · rw [List.getElem?_eq_none (by omega), List.getElem?_eq_none (by simp; omega)]
    have e3 : masksT (o :: rest) acc.length t = fNat (emT t o) fun m => fNat (acc.length + 1) fun j => m :: masksT rest j (T.set (some m) deep t acc.length) := rfl
    rw [e, ← e2, e3, fNat_eq, fNat_eq, emT_eq h]
    simp

theorem masksT_all {l : List Oper} (h : l.length ≤ 4000000) : masksT l 0 .leaf = masks l [] := by
  have := masksT_eq l [] .leaf (by simpa using h) fun k => by rw [get_leaf]; rfl
  simpa using this

/-! The look at pairs, by who writes and who looks at a temporary. -/
noncomputable def within (x : Option Nat) (m : Nat) : Bool := match x with
  | some x => Nat.beq (Nat.land x m) x
  | none => true
noncomputable def looksOK (W : T Nat) (m : Nat) : List Tmp → Bool
  | [] => true
  | t :: l => bif Nat.blt t 4000000 then bif within (W.get t) m then looksOK W m l else false else false
noncomputable def dstOK (W R : T Nat) (m : Nat) : Option Tmp → Bool
  | none => true
  | some d => bif Nat.blt d 4000000 then bif within (W.get d) m then within (R.get d) m else false else false
noncomputable def addBit (j : Nat) (t : Tmp) (A : T Nat) : T Nat := fNat (Nat.lor (Nat.shiftLeft 1 j) (match A.get t with | some x => x | none => 0)) fun m => T.set (some m) deep A t
noncomputable def addAll (j : Nat) : List Tmp → T Nat → T Nat
  | [], A => A
  | t :: l, A => addAll j l (addBit j t A)
noncomputable def addD (j : Nat) (d : Option Tmp) (A : T Nat) : T Nat := match d with
  | some d => addBit j d A
  | none => A
noncomputable def drawnT (ops : Array Oper) : List Oper → List Nat → Nat → T Nat → T Nat → Bool
  | [], _, _, _, _ => true
  | o :: rest, ms, j, W, R =>
    bif edgesOK j o.after.toList then
      bif looksOK W (headN ms) (o.looksAt ops) then
        bif dstOK W R (headN ms) o.dst then fNat (j + 1) fun k => drawnT ops rest (tailN ms) k (addD j o.dst W) (addAll j (o.looksAt ops) R)
        else false else false else false

theorem within_bit {x : Option Nat} {m k : Nat} (h : within x m = true) {y : Nat} (hx : x = some y) (hk : y.testBit k = true) : m.testBit k = true := by
  subst hx
  have h1 : y &&& m = y := Nat.eq_of_beq_eq_true h
  rw [← h1, Nat.testBit_and, Bool.and_eq_true] at hk
  exact hk.2

theorem addBit_get {j : Nat} {t : Tmp} {A : T Nat} (ht : t < 4000000) (u : Nat) : (∀ x k, A.get u = some x → x.testBit k = true → ∃ y, (addBit j t A).get u = some y ∧ y.testBit k = true) ∧
    (u = t → ∃ y, (addBit j t A).get u = some y ∧ y.testBit j = true) := by
  have ht2 : Nat.succ t < 2 ^ deep := Nat.lt_of_le_of_lt (Nat.succ_le_of_lt ht) (by decide)
  unfold addBit
  rw [fNat_eq, get_set _ _ _ _ _ ht2]
  have hor : ∀ a b k : Nat, (Nat.lor a b).testBit k = (a.testBit k || b.testBit k) := fun a b k => Nat.testBit_or a b k
  refine ⟨fun x k hx hk => ?_, fun e => ?_⟩
  · by_cases hu : u = t
    · subst hu
      rw [if_pos rfl]
      refine ⟨_, rfl, ?_⟩
      rw [hor, hx, hk, Bool.or_true]
    · rw [if_neg hu]; exact ⟨x, hx, hk⟩
  · subst e
    rw [if_pos rfl]
    refine ⟨_, rfl, ?_⟩
    rw [hor]
    have : (Nat.shiftLeft 1 j).testBit j = true := by
      show (1 <<< j).testBit j = true
      rw [Nat.shiftLeft_eq, Nat.one_mul, Nat.testBit_two_pow]; simp
    rw [this, Bool.true_or]

theorem addAll_get {j : Nat} : ∀ (l : List Tmp) (A : T Nat), (∀ t ∈ l, t < 4000000) → ∀ u, (∀ x k, A.get u = some x → x.testBit k = true → ∃ y, (addAll j l A).get u = some y ∧ y.testBit k = true) ∧
    (u ∈ l → ∃ y, (addAll j l A).get u = some y ∧ y.testBit j = true)
  | [], A, _, u => ⟨fun x k hx hk => ⟨x, hx, hk⟩, fun h => by cases h⟩
  | t :: l, A, hl, u => by
    obtain ⟨h1, h2⟩ := addBit_get (j := j) (A := A) (hl t List.mem_cons_self) u
    obtain ⟨h3, h4⟩ := addAll_get l (addBit j t A) (fun t ht => hl t (List.mem_cons_of_mem _ ht)) u
    refine ⟨fun x k hx hk => ?_, fun h => ?_⟩
    · obtain ⟨y, hy, hk2⟩ := h1 x k hx hk
      exact h3 y k hy hk2
    · rcases List.mem_cons.1 h with e | h
      · obtain ⟨y, hy, hk2⟩ := h2 e
        exact h3 y j hy hk2
      · exact h4 h

theorem looksOK_spec {W : T Nat} {m : Nat} : ∀ {l : List Tmp}, looksOK W m l = true → ∀ t ∈ l, t < 4000000 ∧ within (W.get t) m = true
  | [], _, t, ht => by cases ht
  | u :: l, h, t, ht => by
    unfold looksOK at h
    cases h1 : Nat.blt u 4000000 with
    | false => rw [h1] at h; cases h
    | true =>
      rw [h1, cond_true] at h
      cases h2 : within (W.get u) m with
      | false => rw [h2] at h; cases h
      | true =>
        rw [h2, cond_true] at h
        rcases List.mem_cons.1 ht with rfl | ht
        · exact ⟨by rwa [Nat.blt_eq] at h1, h2⟩
        · exact looksOK_spec h t ht

theorem pairOK_of {ops : Array Oper} {oj : Oper} {m : Nat} : ∀ (l : List Oper) (i : Nat), (∀ k o, l[k]? = some o → m.testBit (i + k) = true ∨ Oper.apart ops o oj = true) → pairOK ops oj m l i = true
  | [], i, h => rfl
  | x :: l, i, h => by
    unfold pairOK
    have h1 : pairOK ops oj m l (i + 1) = true := pairOK_of l (i + 1) fun k o hk => by
      have := h (k + 1) o (by simpa using hk)
      rwa [show i + (k + 1) = i + 1 + k by omega] at this
    rcases h 0 x rfl with h2 | h2
    · rw [Nat.add_zero] at h2
      rw [h2, cond_true]; exact h1
    · rw [h2, cond_true, h1]
      cases m.testBit i <;> rfl

/-- What the trees tell of those that came. -/
noncomputable def Told (ops : Array Oper) (before : List Oper) (W R : T Nat) : Prop :=
  ∀ i oi, before[i]? = some oi → (∀ d, oi.dst = some d → ∃ x, W.get d = some x ∧ x.testBit i = true) ∧ ∀ t ∈ oi.looksAt ops, ∃ x, R.get t = some x ∧ x.testBit i = true

theorem apart_of {ops : Array Oper} {x y : Oper} (h1 : ∀ d, x.dst = some d → d ∉ y.looksAt ops) (h2 : ∀ d, x.dst = some d → y.dst ≠ some d) (h3 : ∀ d, y.dst = some d → d ∉ x.looksAt ops) : Oper.apart ops x y = true := by
  unfold Oper.apart
  rw [Bool.and_eq_true]
  constructor
  · cases hd : x.dst with
    | none => rfl
    | some d =>
      simp only [Bool.and_eq_true, Bool.not_eq_true', bne_iff_ne, ne_eq]
      exact ⟨by simpa using h1 d hd, h2 d hd⟩
  · cases hd : y.dst with
    | none => rfl
    | some d => simpa using h3 d hd

theorem drawnT_OK {ops : Array Oper} : ∀ (rest before : List Oper) (ms : List Nat) (W R : T Nat), Told ops before W R → drawnT ops rest ms before.length W R = true → drawnOK ops before rest ms before.length = true
  | [], before, ms, W, R, _, _ => by unfold drawnOK; rfl
  | o :: rest, before, ms, W, R, hT, h => by
    unfold drawnT at h
    unfold drawnOK
    cases h1 : edgesOK before.length o.after.toList with
    | false => rw [h1] at h; cases h
    | true =>
      rw [h1, cond_true] at h
      cases h2 : looksOK W (headN ms) (o.looksAt ops) with
      | false => rw [h2] at h; cases h
      | true =>
        rw [h2, cond_true] at h
        cases h3 : dstOK W R (headN ms) o.dst with
        | false => rw [h3] at h; cases h
        | true =>
          rw [h3, cond_true, fNat_eq] at h
          have k2 := looksOK_spec h2
          have k3 : ∀ d, o.dst = some d → d < 4000000 ∧ within (W.get d) (headN ms) = true ∧ within (R.get d) (headN ms) = true := fun d hd => by
            rw [hd] at h3
            simp only [dstOK] at h3
            cases e1 : Nat.blt d 4000000 with
            | false => rw [e1] at h3; cases h3
            | true =>
              rw [e1, cond_true] at h3
              cases e2 : within (W.get d) (headN ms) with
              | false => rw [e2] at h3; cases h3
              | true => rw [e2, cond_true] at h3; exact ⟨by rwa [Nat.blt_eq] at e1, rfl, h3⟩
          rw [cond_true, pairOK_of before 0 fun k x hk => ?_, cond_true]
          · have := drawnT_OK rest (app before [o]) (tailN ms) (addD before.length o.dst W) (addAll before.length (o.looksAt ops) R) ?_ (by rw [app_eq, List.length_append, List.length_singleton]; exact h)
            · rw [app_eq, List.length_append, List.length_singleton] at this
              rw [app_eq]; exact this
            · intro i oi hi
              rw [app_eq] at hi
              have hW : ∀ u x k, W.get u = some x → x.testBit k = true → ∃ y, (addD before.length o.dst W).get u = some y ∧ y.testBit k = true := fun u x k hx hk => by
                cases hd : o.dst with
                | none => exact ⟨x, hx, hk⟩
                | some d => exact (addBit_get (k3 d hd).1 u).1 x k hx hk
              have hR := addAll_get (j := before.length) (o.looksAt ops) R (fun t ht => (k2 t ht).1)
              rcases Nat.lt_or_ge i before.length with hlt | hge
              · rw [List.getElem?_append_left hlt] at hi
                obtain ⟨t1, t2⟩ := hT i oi hi
                refine ⟨fun d hd => ?_, fun t ht => ?_⟩
                · obtain ⟨x, hx, hk⟩ := t1 d hd
                  exact hW d x i hx hk
                · obtain ⟨x, hx, hk⟩ := t2 t ht
                  exact (hR t).1 x i hx hk
              · have hie : i = before.length := by
                  have := (List.getElem?_eq_some_iff.1 hi).1
                  simp at this
                  omega
                subst hie
                rw [List.getElem?_append_right (Nat.le_refl _), Nat.sub_self] at hi
                simp only [List.getElem?_cons_zero, Option.some.injEq] at hi
                subst hi
                refine ⟨fun d hd => ?_, fun t ht => (hR t).2 ht⟩
                rw [hd]
                exact (addBit_get (k3 d hd).1 d).2 rfl
          · rw [Nat.zero_add]
            cases hb : (headN ms).testBit k with
            | true => exact .inl rfl
            | false =>
              right
              obtain ⟨t1, t2⟩ := hT k x hk
              refine apart_of (fun d hd hl => ?_) (fun d hd he => ?_) (fun d hd hl => ?_)
              · obtain ⟨y, hy, hyk⟩ := t1 d hd
                rw [within_bit (k2 d hl).2 hy hyk] at hb; cases hb
              · obtain ⟨y, hy, hyk⟩ := t1 d hd
                rw [within_bit (k3 d he).2.1 hy hyk] at hb; cases hb
              · obtain ⟨y, hy, hyk⟩ := t2 d hl
                rw [within_bit (k3 d hd).2.2 hy hyk] at hb; cases hb

theorem drawnT_all {ops : Array Oper} {ms : List Nat} (h : drawnT ops ops.toList ms 0 .leaf .leaf = true) : drawnOK ops [] ops.toList ms 0 = true :=
  drawnT_OK ops.toList [] ms .leaf .leaf (fun i oi hi => by simp at hi) h

/-! Building, by lists. -/
noncomputable def fillO (place : Nat → Option (Nat × Nat)) : List (Nat × Value) → List Value → Option (List Value)
  | [], cells => some cells
  | (i, v) :: rest, cells => match place i with
    | none => none
    | some (off, size) => bif full v.cells.toList then bif Nat.beq (lenN v.cells.toList 0) size then (match overlay cells off v.cells.toList with
      | some cs => fillO place rest cs
      | none => none) else none else none

theorem fold_get (off : Nat) : ∀ (c : List Value) (k : Nat) (A : Array Value) (i : Nat), off + k + c.length ≤ A.size →
    ((c.zipIdx k).foldl (fun cs (c, j) => cs.setIfInBounds (off + j) c) A).toList[i]? = if off + k ≤ i ∧ i < off + k + c.length then c[i - (off + k)]? else A.toList[i]?
  | [], k, A, i, h => by
    rw [if_neg (by simp)]
    rfl
  | v :: c, k, A, i, h => by
    rw [List.length_cons] at h ⊢
    rw [List.zipIdx_cons, List.foldl_cons, fold_get off c (k + 1) _ i (by simp; omega)]
    rw [Array.toList_setIfInBounds, List.getElem?_set]
    by_cases h1 : off + (k + 1) ≤ i ∧ i < off + (k + 1) + c.length
    · rw [if_pos h1, if_pos (by omega), show i - (off + k) = (i - (off + (k + 1))) + 1 by omega]; rfl
    · rw [if_neg h1]
      by_cases h2 : off + k = i
      · subst h2
        rw [if_pos rfl, if_pos (by simp; omega), if_pos (by omega), Nat.sub_self]; rfl
      · rw [if_neg h2, if_neg (by omega)]

theorem fillO_eq (place : Nat → Option (Nat × Nat)) : ∀ (ps : List (Nat × Value)) (cells r : List Value), fillO place ps cells = some r → Instr.fill place cells.toArray ps = some r.toArray
  | [], cells, r, h => by
    simp only [fillO, Option.some.injEq] at h
    subst h
    rfl
  | (i, v) :: rest, cells, r, h => by
    simp only [fillO] at h
    simp only [Instr.fill]
    cases hp : place i with
    | none => rw [hp] at h; cases h
    | some q =>
      obtain ⟨off, size⟩ := q
      rw [hp] at h
      simp only at h ⊢
      obtain ⟨h1, h⟩ := bif_inv h
      obtain ⟨h2, h⟩ := bif_inv h
      rw [Nat.beq_eq, lenN_eq, Nat.add_zero] at h2
      split at h
      · rename_i cs hcs
        obtain ⟨k1, k2, k3⟩ := overlay_eq _ _ _ _ hcs
        have hne : v.cells.toList ≠ [] := by
          intro he; rw [he] at h1; cases h1
        have k4 := k2 hne
        have hs : v.cells.size = size := by rw [← h2]; simp
        have hl : off + v.cells.size ≤ cells.length := by simpa using k4
        rw [if_neg (by simp; omega)]
        have e : Array.foldl (fun cs x => match x with | (c, j) => cs.setIfInBounds (off + j) c) cells.toArray v.cells.zipIdx = cs.toArray := by
          rw [← Array.foldl_toList, Array.toList_zipIdx]
          apply Array.toList_inj.1
          apply List.ext_getElem?
          intro j
          have := fold_get off v.cells.toList 0 cells.toArray j (by simpa using k4)
          refine this.trans ?_
          rw [k3 j, Nat.add_zero]
        rw [e]
        exact fillO_eq place rest cs r h
      · cases h

theorem prun_fields {P : Program} : ∀ (l : List Field), allL (fun f => (size? P f.type).isSome) l = true →
    prun P (l.mapM (m := Sem) fun f => do pure (f.offset, ← sizeOf f.type)) = some (l.map fun f => (f.offset, (size? P f.type).getD 0))
  | [], _ => rfl
  | f :: l, h => by
    have h1 : (size? P f.type).isSome = true := by
      rw [allL_eq] at h; exact h f List.mem_cons_self
    have h2 : allL (fun f => (size? P f.type).isSome) l = true := by
      rw [allL_eq] at h ⊢; exact fun x hx => h x (List.mem_cons_of_mem _ hx)
    obtain ⟨n, hn⟩ := Option.isSome_iff_exists.1 h1
    rw [List.mapM_cons]
    simp only [prun_bind, prun_sizeOf, hn, Option.bind, prun_pure, prun_fields l h2, List.map_cons, Option.getD_some]

noncomputable def placeW (P : Program) (fields : Array Field) (i : Nat) : Option (Nat × Nat) := match fields[i]? with
  | some f => (match size? P f.type with | some sz => some (f.offset, sz) | none => none)
  | none => none
noncomputable def buildW (P : Program) (t : TypeId) (ps : List (Nat × Value)) : Option Value := match zero? P t, P.underlying t with
  | some z, some (.struct fields) => bif allL (fun f => (size? P f.type).isSome) fields.toList then
      (match fillO (placeW P fields) ps z with
      | some cs => some (.agg cs.toArray)
      | none => none) else none
  | _, _ => none

theorem buildW_eq {P : Program} {t : TypeId} {ps : List (Nat × Value)} {v : Value} (h : buildW P t ps = some v) : prun P (Instr.build t ps.toArray) = some v := by
  unfold buildW at h
  split at h
  · rename_i z fields hz hu
    obtain ⟨h1, h⟩ := bif_inv h
    split at h
    · rename_i cs hcs
      simp only [Option.some.injEq] at h
      subst h
      have hz2 : ∃ zz, (P.info? t).bind (·.zero) = some zz ∧ zz.cells.toList = z := by
        unfold zero? at hz
        cases hi : P.info? t with
        | none => rw [hi] at hz; cases hz
        | some i =>
          rw [hi] at hz
          simp only at hz
          cases hzz : i.zero with
          | none => rw [hzz] at hz; cases hz
          | some zz =>
            rw [hzz] at hz
            simp only [Option.some.injEq] at hz
            exact ⟨zz, hzz, hz⟩
      obtain ⟨zz, k1, k2⟩ := hz2
      have hf := fillO_eq _ _ _ _ hcs
      have hpl : (fun i => (List.map (fun f : Field => (f.offset, (size? P f.type).getD 0)) fields.toList).toArray[i]?) = placeW P fields := by
        funext i
        unfold placeW
        rw [List.getElem?_toArray, List.getElem?_map, Array.getElem?_toList]
        cases hfi : fields[i]? with
        | none => rfl
        | some f =>
          have hs : (size? P f.type).isSome = true := by
            rw [allL_eq] at h1
            exact h1 f (by rw [Array.mem_toList_iff]; exact Array.mem_of_getElem? hfi)
          obtain ⟨n, hn⟩ := Option.isSome_iff_exists.1 hs
          simp only [Option.map_some, hn, Option.getD_some]
      unfold Instr.build
      simp only [prun_bind, prun_zeroValue, prun_underlying, k1, hu, Option.bind_some]
      rw [Array.mapM_eq_mapM_toList]
      have hm := prun_fields (P := P) fields.toList h1
      have hmap : prun P (List.toArray <$> List.mapM (m := Sem) (fun (f : Field) => do pure (f.offset, ← sizeOf f.type)) fields.toList) = some (List.map (fun f : Field => (f.offset, (size? P f.type).getD 0)) fields.toList).toArray := by
        show prun P (List.mapM (m := Sem) _ fields.toList >>= fun a => Pure.pure (List.toArray a)) = _
        rw [prun_bind, hm]
        rfl
      simp only [prun_bind, hmap, Option.bind_some]
      rw [hpl]
      have hzz : zz.cells = z.toArray := by rw [← k2]
      rw [hzz, hf]
      rfl
    · cases h
  · cases h

noncomputable def popW (P : Program) (ev : Operand → Value) (o : Oper) : Option Value :=
  match o.op with
  | .build t ps => match zero? P t with
    | some z => bif allL ground0 z then (match buildW P t (ps.toList.map fun (i, x) => (i, ev x)) with
      | some v => some v
      | none => prun P (Instr.build t (ps.toList.map fun (i, x) => (i, ev x)).toArray)) else none
    | none => none
  | _ => pop P ev o

theorem popW_eq (P : Program) (ev : Operand → Value) (o : Oper) : popW P ev o = pop P ev o := by
  unfold popW
  split
  · rename_i t ps ho
    unfold pop
    rw [ho]
    simp only
    cases zero? P t with
    | none => rfl
    | some z =>
      simp only
      cases allL ground0 z with
      | false => rfl
      | true =>
        rw [cond_true, cond_true]
        split
        · rename_i v hv; exact (buildW_eq hv).symm
        · rfl
  · rfl

noncomputable def hopW (E : Env) (ev : Operand → Value) (o : Oper) (s : St) : Option (ANext × St) :=
  match o.op with
  | .buildSlice t len parts => match E.P.underlying t with
    | some (.slice e) => (match size? E.P e, zero? E.P e with
      | some sz, some z => bif small (len * sz) && Nat.beq (lenN z 0) sz && Nat.blt 0 sz && allL ground0 z then
        (match fillO (fun i => some (i * sz, sz)) (parts.toList.map fun (i, x) => (i, ev x)) (reps z len) with
        | some cells => alloc e cells true s fun id s => some (.val (.slice (some ⟨id, 0, none⟩) len len), s)
        | none => hop E ev o s) else none
      | _, _ => none)
    | _ => none
  | _ => hop E ev o s

theorem hopW_eq (E : Env) (ev : Operand → Value) (o : Oper) (s : St) : hopW E ev o s = hop E ev o s := by
  unfold hopW
  split
  · rename_i t len parts ho
    have eh : hop E ev o s = (match E.P.underlying t with
      | some (.slice e) => (match size? E.P e, zero? E.P e with
        | some sz, some z => bif small (len * sz) && Nat.beq (lenN z 0) sz && Nat.blt 0 sz && allL ground0 z then
          (match Instr.fill (fun i => some (i * sz, sz)) (reps z len).toArray (parts.map fun (i, x) => (i, ev x)).toList with
          | some cells => alloc e cells.toList true s fun id s => some (.val (.slice (some ⟨id, 0, none⟩) len len), s)
          | none => none) else none
        | _, _ => none)
      | _ => none) := by unfold hop; rw [ho]; rfl
    split
    · rename_i e hu
      rw [hu] at eh
      simp only at eh
      split
      · rename_i sz z hsz hz
        rw [hsz, hz] at eh
        simp only at eh
        cases hc : (small (len * sz) && Nat.beq (lenN z 0) sz && Nat.blt 0 sz && allL ground0 z) with
        | false => rw [hc, cond_false] at eh; rw [cond_false, eh]
        | true =>
          rw [hc, cond_true] at eh
          rw [cond_true]
          split
          · rename_i cells hf
            have e3 : (parts.map fun (i, x) => (i, ev x)).toList = parts.toList.map fun (i, x) => (i, ev x) := by simp
            rw [e3, fillO_eq _ _ _ _ hf] at eh
            rw [eh]
          · rfl
      · rename_i hno
        rw [eh]
        split
        · rename_i sz z h1 h2; exact absurd h2 (hno _ _ h1)
        · rfl
    · rename_i hno
      rw [eh]
      split
      · rename_i e h1; exact absurd h1 (hno e)
      · rfl
  · rfl

end Go.Proofs.Ytlkjdclhgmkndaa.Canon

namespace Go.Proofs.Ytlkjdclhgmkndaa.Canon
set_option linter.unusedVariables false
set_option linter.unusedSimpArgs false
open Go.RowKit

/-- Temporaries: a tree of those that were set, and how many there are. -/
structure TM where
  t : T Value
  n : Nat
/-- A tree that holds a list. -/
structure Rp (m : TM) (l : List Value) : Prop where
  n : m.n = l.length
  le : l.length ≤ 4000000
  has : ∀ i v, m.t.get i = some v → l[i]? = some v
  hasnt : ∀ i, m.t.get i = none → l[i]? = none ∨ l[i]? = some undef

noncomputable def putW (m : TM) (d : Option Tmp) (v : Value) : TM := match d with
  | some d => bif Nat.blt d m.n then fNat m.n fun n => ⟨T.set (some v) deep m.t d, n⟩ else m
  | none => m
noncomputable def aevalW (Z : Nat) (m : TM) : Operand → Value
  | .tmp i => match m.t.get i with | some v => v | none => undef
  | .const v => bif ground2 v then v else undef
  | .global g => bif Nat.blt g Z then .pointer (some ⟨g, 0, none⟩) else undef
  | .func f => .func (.func f) #[] #[]
noncomputable def wantedW (ops : List Oper) (m : TM) (o : Oper) : Bool := match o.guard with
  | none => true
  | some (j, want) => match dstOf ops j with
    | some d => (match m.t.get d with | some (.bool b) => (bif b then want else !want) | _ => false)
    | none => false

noncomputable def doOpW (E : Env) (call : CallF) (ev : Operand → Value) (o : Oper) (s : St) : Option (Value × St) :=
  match hopW E ev o s with
  | some (.val v, s) => some (v, s)
  | some (.enter f args, s) => call f args s
  | none => none

theorem doOpW_eq (E : Env) (call : CallF) (ev : Operand → Value) (o : Oper) (s : St) : doOpW E call ev o s = doOp E call ev o s := by
  unfold doOpW doOp
  rw [hopW_eq]
  cases hop E ev o s with
  | none => rfl
  | some x => obtain ⟨n, t⟩ := x; cases n <;> rfl

noncomputable def runOpsW (E : Env) (call : CallF) (ops : List Oper) : List Oper → TM → St → Option (TM × St)
  | [], tm, s => some (tm, s)
  | o :: rest, tm, s =>
    bif wantedW ops tm o then
      match popW E.P (aevalW (zId E.P) tm) o with
      | some v => fVal v fun v => runOpsW E call ops rest (putW tm o.dst v) s
      | none => match doOpW E call (aevalW (zId E.P) tm) o s with
        | some (v, s) => fVal v fun v => runOpsW E call ops rest (putW tm o.dst v) s
        | none => none
    else runOpsW E call ops rest (putW tm o.dst undef) s

abbrev AResW := Option (AExit × TM × St)

noncomputable def iterW (f : TM → St → AResW) : Nat → TM → St → AResW
  | 0, _, _ => none
  | n + 1, tm, s => match f tm s with
    | some (.normal, tm, s) => iterW f n tm s
    | r => r

noncomputable def runDrawnW (E : Env) (call : CallF) (n0 : Nat) (ops : List Oper) : List Oper → List Nat → Nat → Nat → Bool → T AObj → List (Nat × T AObj) → List Rdg → List Delta → TM → St → Option (TM × St)
  | [], _, _, _, _, _, _, _, _, tm, s => some (tm, s)
  | o :: rest, ms, i, touched, seq, base, outs, reads, deltas, tm, s =>
    let m := headN ms
    let ms := tailN ms
    bif wantedW ops tm o then
      match popW E.P (aevalW (zId E.P) tm) o with
      | some v => fVal v fun v => runDrawnW E call n0 ops rest ms (i + 1) touched seq base outs reads deltas (putW tm o.dst v) s
      | none => match stillOf E.P (aevalW (zId E.P) tm) o n0 m base outs with
        | some (v, ad, n, cs) => fVal v fun v => runDrawnW E call n0 ops rest ms (i + 1) touched seq base outs (⟨i, ad, n, cs⟩ :: reads) deltas (putW tm o.dst v) s
        | none =>
        let all := Nat.beq (Nat.land touched m) touched
        bif (bif seq then !all else false) then none
        else
          let h := bif all then s.heap else seen m base deltas
          match doOpW E call (aevalW (zId E.P) tm) o { next := s.next, mw := s.next, heap := h } with
          | some (v, s') => fVal v fun v =>
              let lo := Nat.min s'.mw s.next
              bif (bif seq then false else bif Nat.ble n0 s'.mw then bif kept h s'.heap lo (s.next - lo) then allL (pairOK2 m h s'.heap lo s.next) deltas else false else false) then
                runDrawnW E call n0 ops rest ms (i + 1) (Nat.lor touched (Nat.shiftLeft 1 i)) false base outs reads (⟨i, lo, s'.next, s'.heap, h⟩ :: deltas) (putW tm o.dst v)
                  { next := s'.next, mw := Nat.min s.mw s'.mw, heap := bif all then s'.heap else merge lo s'.next s'.heap (s'.next - lo) s.heap }
              else bif (bif all then allL (readOK m s'.heap) reads else false) then
                runDrawnW E call n0 ops rest ms (i + 1) (Nat.lor touched (Nat.shiftLeft 1 i)) true base ((i, s'.heap) :: outs) reads [] (putW tm o.dst v) { next := s'.next, mw := Nat.min s.mw s'.mw, heap := s'.heap }
              else none
          | none => none
    else runDrawnW E call n0 ops rest ms (i + 1) touched seq base outs reads deltas (putW tm o.dst undef) s

noncomputable def quickOK (ops : Array Oper) : Bool := Nat.ble (lenN ops.toList 0) 4000000 && drawnT ops ops.toList (masksT ops.toList 0 .leaf) 0 .leaf .leaf

theorem quickOK_spec {ops : Array Oper} (h : quickOK ops = true) : masksT ops.toList 0 .leaf = masks ops.toList [] ∧ drawnOK ops [] ops.toList (masks ops.toList []) 0 = true := by
  unfold quickOK at h
  rw [Bool.and_eq_true, Nat.ble_eq, lenN_eq, Nat.add_zero] at h
  have e := masksT_all h.1
  exact ⟨e, by rw [← e]; exact drawnT_all h.2⟩

noncomputable def execW (E : Env) (call : CallF) : Code → TM → St → AResW
  | .skip, tm, s => some (.normal, tm, s)
  | .region _ ops draw, tm, s =>
    bif opsOK (zId E.P) ops.toList then bif draw then
      bif quickOK ops then (match runDrawnW E call s.next ops.toList ops.toList (masksT ops.toList 0 .leaf) 0 0 false s.heap [] [] [] tm s with
      | some (tm, s) => some (.normal, tm, s)
      | none => none) else none
    else (match runOpsW E call ops.toList ops.toList tm s with
      | some (tm, s) => some (.normal, tm, s)
      | none => none) else none
  | .seq a b, tm, s => match execW E call a tm s with
    | some (.normal, tm, s) => execW E call b tm s
    | r => r
  | .cond c t e, tm, s => match aevalW (zId E.P) tm c with
    | .bool true => execW E call t tm s
    | .bool false => execW E call e tm s
    | _ => none
  | .block id b, tm, s => match execW E call b tm s with
    | some (.exit k, tm, s) => bif Nat.beq k id then some (.normal, tm, s) else some (.exit k, tm, s)
    | r => r
  | .loop b, tm, s => iterW (fun tm s => execW E call b tm s) rounds tm s
  | .exit id, tm, s => some (.exit id, tm, s)
  | .ret, tm, s => some (.ret, tm, s)
  | _, _, _ => none

noncomputable def resultsOfW (P : Program) (tm : TM) (s : St) : List ResultVar → Option (List Value)
  | [] => some []
  | .tmp t :: r => (match resultsOfW P tm s r with | some l => some ((match tm.t.get t with | some v => v | none => undef) :: l) | none => none)
  | .cell a t :: r => match tm.t.get a, isAgg? P t, size? P t, resultsOfW P tm s r with
    | some (.pointer (some a)), some true, some sz, some l => (match cellsAt s.heap a sz with | some cs => some (.agg cs.toArray :: l) | none => none)
    | some (.pointer (some a)), some false, some _, some l => (match cellsAt s.heap a 1 with | some [v] => some (v :: l) | _ => none)
    | _, _, _, _ => none

noncomputable def fillW : List Value → Nat → T Value → T Value
  | [], _, t => t
  | v :: l, i, t => fillW l (i + 1) (T.set (some v) deep t i)

noncomputable def callW (E : Env) : Nat → CallF
  | 0, _, _, _ => none
  | d + 1, f, args, s =>
    match E.fn f with
    | none => none
    | some fn => match fn.body with
      | none => bif fn.origin == "" then (match ext fn.name args s with | some v => some (v, s) | none => none) else none
      | some c =>
        bif (bif E.known f then noArg args else false) then some (.bool true, s) else
        match E.orc f args s with
        | some r => some r
        | none =>
        bif Nat.ble (lenN args 0) 4000 && Nat.ble fn.ntmps 4000000 then
        (match fNat (lenN args 0 + (fn.ntmps - lenN args 0)) fun n => execW E (callW E d) c ⟨fillW args 0 .leaf, n⟩ { next := s.next, mw := s.next, heap := s.heap } with
        | some (x, tm, s') =>
          (match x with
          | .exit _ => none
          | _ => match resultsOfW E.P tm s' fn.results.toList with
            | some l =>
              let v := one l
              bif Nat.ble s.next s'.mw then
                (bif ground2 v then some (v, { next := s'.next, mw := s.mw, heap := s.heap })
                else some (v, { next := s'.next, mw := s.mw, heap := reach s.next s'.heap 1000000 [v] s.heap }))
              else some (v, { next := s'.next, mw := Nat.min s.mw s'.mw, heap := s'.heap })
            | none => none)
        | none => none) else none

theorem Rp.aeval {Z : Nat} {m : TM} {l : List Value} (h : Rp m l) : aevalW Z m = Canon.aeval Z l := by
  funext x
  cases x with
  | tmp i =>
    simp only [aevalW, Canon.aeval, nth_eq]
    cases hi : m.t.get i with
    | none => rcases h.hasnt i hi with e | e <;> rw [e]
    | some v => rw [h.has i v hi]
  | _ => rfl
theorem Rp.wanted {m : TM} {l : List Value} (h : Rp m l) (ops : List Oper) (o : Oper) : wantedW ops m o = Canon.wanted ops l o := by
  unfold wantedW Canon.wanted
  cases o.guard with
  | none => rfl
  | some jw =>
    obtain ⟨j, want⟩ := jw
    simp only
    cases dstOf ops j with
    | none => rfl
    | some d =>
      simp only [nth_eq]
      cases hi : m.t.get d with
      | none => rcases h.hasnt d hi with e | e <;> rw [e] <;> rfl
      | some v => rw [h.has d v hi]; cases v <;> rfl
theorem Rp.put {m : TM} {l : List Value} (h : Rp m l) (d : Option Tmp) (v : Value) : Rp (putW m d v) (putT l d v) := by
  cases d with
  | none => exact h
  | some d =>
    have hl : (putT l (some d) v).length = l.length := by simp [putT, setNth_eq]
    simp only [putW, fNat_eq]
    cases hd : Nat.blt d m.n with
    | false =>
      have : ¬ d < l.length := by rw [← h.n]; intro e; rw [nblt, decide_eq_false_iff_not] at hd; exact hd e
      have e : putT l (some d) v = l := by
        simp only [putT, setNth_eq]
        exact List.set_eq_of_length_le (Nat.not_lt.1 this)
      rw [cond_false, e]; exact h
    | true =>
      rw [cond_true]
      have hlen : d < l.length := by rw [← h.n]; rwa [nblt, decide_eq_true_eq] at hd
      have hget : ∀ i, (T.set (some v) deep m.t d).get i = if i = d then some v else m.t.get i := fun i =>
        get_set _ _ _ _ _ (Nat.lt_of_le_of_lt (Nat.lt_of_lt_of_le hlen h.le) (by decide))
      have hlist : ∀ i, (putT l (some d) v)[i]? = if d = i then some v else l[i]? := fun i => by
        simp only [putT, setNth_eq, List.getElem?_set]
        by_cases hdi : d = i
        · subst hdi; rw [if_pos rfl, if_pos rfl, if_pos hlen]
        · rw [if_neg hdi, if_neg hdi]
      refine ⟨by rw [hl]; exact h.n, by rw [hl]; exact h.le, fun i u hi => ?_, fun i hi => ?_⟩
      · dsimp only at hi
        rw [hget] at hi
        rw [hlist]
        by_cases hdi : i = d
        · rw [if_pos hdi] at hi; rw [if_pos hdi.symm]; exact hi
        · rw [if_neg hdi] at hi; rw [if_neg (fun e => hdi e.symm)]; exact h.has i u hi
      · dsimp only at hi
        rw [hget] at hi
        rw [hlist]
        by_cases hdi : i = d
        · rw [if_pos hdi] at hi; cases hi
        · rw [if_neg hdi] at hi; rw [if_neg (fun e => hdi e.symm)]; exact h.hasnt i hi

section
variable {E : Env} {callW call : CallF}

/-- What one answers, the other answers. -/
noncomputable def Calls2 (callW call : CallF) : Prop := ∀ f args s r, callW f args s = some r → call f args s = some r

theorem doOp_W (hc : Calls2 callW call) {ev : Operand → Value} {o : Oper} {s : St} {r : Value × St} (h : doOp E callW ev o s = some r) : doOp E call ev o s = some r := by
  unfold doOp at h ⊢
  cases hh : hop E ev o s with
  | none => rw [hh] at h; cases h
  | some x =>
    obtain ⟨nx, s1⟩ := x
    rw [hh] at h
    cases nx with
    | val v => exact h
    | enter f args => exact hc _ _ _ _ h

theorem runOps_W (hc : Calls2 callW call) {ops : List Oper} : ∀ (rest : List Oper) (t : TM) (l : List Value) (s : St) (t' : TM) (s' : St), Rp t l → runOpsW E callW ops rest t s = some (t', s') →
    ∃ l', runOps E call ops rest l s = some (l', s') ∧ Rp t' l'
  | [], t, l, s, t', s', h, hr => by
    simp only [runOpsW, Option.some.injEq, Prod.mk.injEq] at hr
    obtain ⟨rfl, rfl⟩ := hr
    exact ⟨l, rfl, h⟩
  | o :: rest, t, l, s, t', s', h, hr => by
    unfold runOpsW at hr
    unfold runOps
    rw [h.wanted] at hr
    cases hw : wanted ops l o with
    | false =>
      rw [hw, cond_false] at hr
      rw [cond_false]
      exact runOps_W hc rest _ _ s t' s' (h.put _ _) hr
    | true =>
      rw [hw, cond_true] at hr
      rw [cond_true]
      rw [popW_eq, doOpW_eq, h.aeval] at hr
      split at hr
      · rename_i v hp
        rw [hp]
        simp only
        rw [fVal_eq] at hr ⊢
        exact runOps_W hc rest _ _ s t' s' (h.put _ _) hr
      · rename_i hp
        rw [hp]
        simp only
        split at hr
        · rename_i v s1 hd
          rw [doOp_W hc hd]
          simp only
          rw [fVal_eq] at hr ⊢
          exact runOps_W hc rest _ _ s1 t' s' (h.put _ _) hr
        · cases hr

theorem runDrawn_W (hc : Calls2 callW call) {n0 : Nat} {ops : List Oper} : ∀ (rest : List Oper) (ms : List Nat) (i touched : Nat) (seq : Bool) (base : T AObj) (outs : List (Nat × T AObj)) (reads : List Rdg) (deltas : List Delta) (t : TM) (l : List Value) (s : St) (t' : TM) (s' : St), Rp t l →
    runDrawnW E callW n0 ops rest ms i touched seq base outs reads deltas t s = some (t', s') → ∃ l', runDrawn E call n0 ops rest ms i touched seq base outs reads deltas l s = some (l', s') ∧ Rp t' l'
  | [], ms, i, touched, seq, base, outs, reads, deltas, t, l, s, t', s', h, hr => by
    simp only [runDrawnW, Option.some.injEq, Prod.mk.injEq] at hr
    obtain ⟨rfl, rfl⟩ := hr
    exact ⟨l, rfl, h⟩
  | o :: rest, ms, i, touched, seq, base, outs, reads, deltas, t, l, s, t', s', h, hr => by
    unfold runDrawnW at hr
    unfold runDrawn
    simp only at hr ⊢
    rw [h.wanted] at hr
    cases hw : wanted ops l o with
    | false =>
      rw [hw, cond_false] at hr
      rw [cond_false]
      exact runDrawn_W hc rest _ _ _ _ _ _ _ _ _ _ s t' s' (h.put _ _) hr
    | true =>
      rw [hw, cond_true] at hr
      rw [cond_true]
      rw [popW_eq, doOpW_eq, h.aeval] at hr
      cases hp : pop E.P (aeval (zId E.P) l) o with
      | some v =>
        rw [hp] at hr
        simp only [fVal_eq] at hr ⊢
        exact runDrawn_W hc rest _ _ _ _ _ _ _ _ _ _ s t' s' (h.put _ _) hr
      | none =>
        rw [hp] at hr
        simp only at hr ⊢
        split at hr
        · rename_i v ad n cs hst
          rw [hst]
          simp only [fVal_eq] at hr ⊢
          exact runDrawn_W hc rest _ _ _ _ _ _ _ _ _ _ s t' s' (h.put _ _) hr
        rename_i hst
        rw [hst]
        simp only
        obtain ⟨hb, hr⟩ := bif_not hr
        rw [hb, cond_false]
        split at hr
        · rename_i v s1 hd
          rw [doOp_W hc hd]
          simp only [fVal_eq] at hr ⊢
          rcases bif_or hr with ⟨hg, hr⟩ | ⟨hg, hr⟩
          · rw [hg, cond_true]
            exact runDrawn_W hc rest _ _ _ _ _ _ _ _ _ _ _ t' s' (h.put _ _) hr
          · rw [hg, cond_false]
            obtain ⟨ha, hr⟩ := bif_inv hr
            rw [ha, cond_true]
            have := runDrawn_W hc rest _ _ _ _ _ _ _ _ _ _ _ t' s' (h.put _ _) hr
            exact this
        · cases hr

theorem iter_W {f : TM → St → AResW} {g : List Value → St → ARes} (hf : ∀ t l s x t' s', Rp t l → f t s = some (x, t', s') → ∃ l', g l s = some (x, l', s') ∧ Rp t' l') :
    ∀ (n : Nat) (t : TM) (l : List Value) (s : St) (x : AExit) (t' : TM) (s' : St), Rp t l → iterW f n t s = some (x, t', s') → ∃ l', iter g n l s = some (x, l', s') ∧ Rp t' l'
  | 0, t, l, s, x, t', s', h, hr => by cases hr
  | n + 1, t, l, s, x, t', s', h, hr => by
    unfold iterW at hr
    unfold iter
    cases hfs : f t s with
    | none => rw [hfs] at hr; cases hr
    | some r =>
      obtain ⟨y, t1, s1⟩ := r
      obtain ⟨l1, e1, h1⟩ := hf t l s y t1 s1 h hfs
      rw [hfs] at hr
      rw [e1]
      cases y with
      | normal => exact iter_W hf n t1 l1 s1 x t' s' h1 hr
      | exit k =>
        simp only [Option.some.injEq, Prod.mk.injEq] at hr
        obtain ⟨rfl, rfl, rfl⟩ := hr
        exact ⟨l1, rfl, h1⟩
      | ret =>
        simp only [Option.some.injEq, Prod.mk.injEq] at hr
        obtain ⟨rfl, rfl, rfl⟩ := hr
        exact ⟨l1, rfl, h1⟩

theorem exec_W (hc : Calls2 callW call) : ∀ (code : Code) (t : TM) (l : List Value) (s : St) (x : AExit) (t' : TM) (s' : St), Rp t l → execW E callW code t s = some (x, t', s') →
    ∃ l', exec E call code l s = some (x, l', s') ∧ Rp t' l' := by
  intro code
  induction code with
  | skip =>
    intro t l s x t' s' h hr
    simp only [execW, Option.some.injEq, Prod.mk.injEq] at hr
    obtain ⟨rfl, rfl, rfl⟩ := hr
    exact ⟨l, rfl, h⟩
  | region id ops draw =>
    intro t l s x t' s' h hr
    unfold execW at hr
    unfold exec
    obtain ⟨h1, hr⟩ := bif_inv hr
    rw [h1, cond_true]
    cases draw with
    | true =>
      rw [cond_true] at hr ⊢
      obtain ⟨h2, hr⟩ := bif_inv hr
      obtain ⟨hm, h2⟩ := quickOK_spec h2
      rw [hm] at hr
      rw [h2, cond_true]
      split at hr
      · rename_i tm s1 hd
        simp only [Option.some.injEq, Prod.mk.injEq] at hr
        obtain ⟨rfl, rfl, rfl⟩ := hr
        obtain ⟨l', e1, e2⟩ := runDrawn_W hc _ _ _ _ _ _ _ _ _ _ _ _ _ _ h hd
        rw [e1]; exact ⟨l', rfl, e2⟩
      · cases hr
    | false =>
      rw [cond_false] at hr ⊢
      split at hr
      · rename_i tm s1 hd
        simp only [Option.some.injEq, Prod.mk.injEq] at hr
        obtain ⟨rfl, rfl, rfl⟩ := hr
        obtain ⟨l', e1, e2⟩ := runOps_W hc _ _ _ _ _ _ h hd
        rw [e1]; exact ⟨l', rfl, e2⟩
      · cases hr
  | seq a b iha ihb =>
    intro t l s x t' s' h hr
    unfold execW at hr
    unfold exec
    cases hfs : execW E callW a t s with
    | none => rw [hfs] at hr; cases hr
    | some r =>
      obtain ⟨y, t1, s1⟩ := r
      obtain ⟨l1, e1, h1⟩ := iha t l s y t1 s1 h hfs
      rw [hfs] at hr
      rw [e1]
      cases y with
      | normal => exact ihb t1 l1 s1 x t' s' h1 hr
      | exit k =>
        simp only [Option.some.injEq, Prod.mk.injEq] at hr
        obtain ⟨rfl, rfl, rfl⟩ := hr
        exact ⟨l1, rfl, h1⟩
      | ret =>
        simp only [Option.some.injEq, Prod.mk.injEq] at hr
        obtain ⟨rfl, rfl, rfl⟩ := hr
        exact ⟨l1, rfl, h1⟩
  | cond c a b iha ihb =>
    intro t l s x t' s' h hr
    unfold execW at hr
    unfold exec
    rw [h.aeval] at hr
    split at hr
    · rename_i hv; rw [hv]; exact iha t l s x t' s' h hr
    · rename_i hv; rw [hv]; exact ihb t l s x t' s' h hr
    · cases hr
  | block id b ih =>
    intro t l s x t' s' h hr
    unfold execW at hr
    unfold exec
    cases hfs : execW E callW b t s with
    | none => rw [hfs] at hr; cases hr
    | some r =>
      obtain ⟨y, t1, s1⟩ := r
      obtain ⟨l1, e1, h1⟩ := ih t l s y t1 s1 h hfs
      rw [hfs] at hr
      rw [e1]
      cases y with
      | exit k =>
        simp only at hr ⊢
        rcases bif_or hr with ⟨hk, hr⟩ | ⟨hk, hr⟩ <;>
        · simp only [Option.some.injEq, Prod.mk.injEq] at hr
          obtain ⟨rfl, rfl, rfl⟩ := hr
          rw [hk]
          exact ⟨l1, rfl, h1⟩
      | normal =>
        simp only [Option.some.injEq, Prod.mk.injEq] at hr
        obtain ⟨rfl, rfl, rfl⟩ := hr
        exact ⟨l1, rfl, h1⟩
      | ret =>
        simp only [Option.some.injEq, Prod.mk.injEq] at hr
        obtain ⟨rfl, rfl, rfl⟩ := hr
        exact ⟨l1, rfl, h1⟩
  | loop b ih =>
    intro t l s x t' s' h hr
    unfold execW at hr
    unfold exec
    exact iter_W (fun t l s x t' s' h hr => ih t l s x t' s' h hr) _ _ _ _ _ _ _ h hr
  | exit id =>
    intro t l s x t' s' h hr
    simp only [execW, Option.some.injEq, Prod.mk.injEq] at hr
    obtain ⟨rfl, rfl, rfl⟩ := hr
    exact ⟨l, rfl, h⟩
  | ret =>
    intro t l s x t' s' h hr
    simp only [execW, Option.some.injEq, Prod.mk.injEq] at hr
    obtain ⟨rfl, rfl, rfl⟩ := hr
    exact ⟨l, rfl, h⟩
  | _ => intros; rename_i hr; cases hr

theorem Rp.val {m : TM} {l : List Value} (h : Rp m l) (i : Nat) : (match m.t.get i with | some v => v | none => undef) = (match nth l i with | some v => v | none => undef) := by
  rw [nth_eq]
  cases hi : m.t.get i with
  | none => rcases h.hasnt i hi with e | e <;> rw [e]
  | some v => rw [h.has i v hi]

theorem results_W {P : Program} {m : TM} {l : List Value} {s : St} (h : Rp m l) : ∀ (rs : List ResultVar) (r : List Value), resultsOfW P m s rs = some r → resultsOf P l s rs = some r
  | [], r, hr => hr
  | .tmp t :: rs, r, hr => by
    unfold resultsOfW at hr
    unfold resultsOf
    split at hr
    · rename_i l1 h1
      rw [results_W h rs l1 h1]
      rw [h.val t] at hr
      exact hr
    · cases hr
  | .cell a t :: rs, r, hr => by
    unfold resultsOfW at hr
    unfold resultsOf
    have hn : ∀ v, m.t.get a = some v → nth l a = some v := fun v hv => by rw [nth_eq]; exact h.has a v hv
    split at hr
    · rename_i ad sz l1 ha hag hsz h1
      rw [hn _ ha, hag, hsz, results_W h rs l1 h1]
      exact hr
    · rename_i ad sz l1 ha hag hsz h1
      rw [hn _ ha, hag, hsz, results_W h rs l1 h1]
      exact hr
    · cases hr

theorem fill_get : ∀ (l : List Value) (i : Nat) (t : T Value), i + l.length ≤ 4000000 → ∀ j, (fillW l i t).get j = if i ≤ j ∧ j < i + l.length then l[j - i]? else t.get j
  | [], i, t, h, j => by
    unfold fillW
    rw [if_neg (by simp)]
  | v :: l, i, t, h, j => by
    simp only [List.length_cons] at h ⊢
    unfold fillW
    rw [fill_get l (i + 1) _ (by omega) j, get_set _ _ _ _ _ (by unfold deep; omega)]
    by_cases h1 : i + 1 ≤ j ∧ j < i + 1 + l.length
    · rw [if_pos h1, if_pos (by omega), show j - i = (j - (i + 1)) + 1 by omega]; rfl
    · rw [if_neg h1]
      by_cases h2 : j = i
      · subst h2; rw [if_pos rfl, if_pos (by omega), Nat.sub_self]; rfl
      · rw [if_neg h2, if_neg (by omega)]

theorem Rp.start {args : List Value} {k : Nat} (h : args.length + k ≤ 4000000) : Rp ⟨fillW args 0 .leaf, args.length + k⟩ (app args (undefs k)) := by
  have hg := fill_get args 0 (.leaf : T Value) (by omega)
  have hl : (app args (undefs k)).length = args.length + k := by rw [app_eq, undefs_eq]; simp
  refine ⟨by rw [hl], by rw [hl]; exact h, fun i v hi => ?_, fun i hi => ?_⟩
  · dsimp only at hi
    rw [hg, Nat.zero_add, Nat.sub_zero] at hi
    split at hi
    · rename_i hlt
      rw [app_eq, List.getElem?_append_left hlt.2]; exact hi
    · rw [get_leaf] at hi; cases hi
  · dsimp only at hi
    rw [hg, Nat.zero_add, Nat.sub_zero] at hi
    split at hi
    · rename_i hlt
      rw [List.getElem?_eq_none_iff] at hi; omega
    · rename_i hlt
      rw [app_eq, undefs_eq, List.getElem?_append_right (by omega), List.getElem?_replicate]
      split
      · exact .inr rfl
      · exact .inl rfl

/-- What it answers, the runner answers. -/
theorem callW_callN : ∀ d, Calls2 (Canon.callW E d) (callN E d)
  | 0 => fun f args s r h => by cases h
  | d + 1 => by
    intro f args s r h
    unfold Canon.callW at h
    unfold callN
    split at h
    · cases h
    · rename_i fn hfn
      rw [hfn]
      simp only
      cases hb : fn.body with
      | none => rw [hb] at h; exact h
      | some c =>
        rw [hb] at h
        simp only at h ⊢
        cases hk : (bif E.known f then noArg args else false) with
        | true => rw [hk, cond_true] at h; rw [cond_true]; exact h
        | false =>
        rw [hk, cond_false] at h
        rw [cond_false]
        cases hor : E.orc f args s with
        | some v => rw [hor] at h; exact h
        | none =>
        rw [hor] at h
        simp only at h ⊢
        obtain ⟨hg, h⟩ := bif_inv h
        simp only [Bool.and_eq_true, Nat.ble_eq, lenN_eq, Nat.add_zero] at hg
        simp only [fNat_eq, lenN_eq, Nat.add_zero] at h ⊢
        split at h
        · rename_i x tm s1 hex
          obtain ⟨l', e1, e2⟩ := exec_W (callW_callN d) c _ _ _ _ _ _ (Rp.start (args := args) (k := fn.ntmps - args.length) (by omega)) hex
          rw [e1]
          simp only
          cases x with
          | exit id => cases h
          | normal =>
            simp only at h ⊢
            split at h
            · rename_i l hl; rw [results_W e2 _ l hl]; exact h
            · cases h
          | ret =>
            simp only at h ⊢
            split at h
            · rename_i l hl; rw [results_W e2 _ l hl]; exact h
            · cases h
        · cases h

theorem W_true {d : Nat} {f : FuncId} {args : List Value} {s : St} (h : isTrue (Canon.callW E d f args s) = true) : isTrue (callN E d f args s) = true := by
  obtain ⟨s', e⟩ := isTrue_some h
  rw [callW_callN d _ _ _ _ e]
  rfl

/-- So many runs, from the n-th on, of what mk names. -/
noncomputable def rowsBy (E : Env) (d : Nat) (f : FuncId) (mk : Nat → List Value) : Nat → Nat → Bool
  | _, 0 => true
  | n, m + 1 => fNat n fun n => bif isTrue (Canon.callW E d f (mk n) (start E.P)) then rowsBy E d f mk (n + 1) m else false

theorem rowsBy_at {d : Nat} {f : FuncId} {mk : Nat → List Value} : ∀ (m n : Nat), rowsBy E d f mk n m = true → ∀ k, n ≤ k → k < n + m → isTrue (callN E d f (mk k) (start E.P)) = true
  | 0, n, _, k, h1, h2 => by omega
  | m + 1, n, h, k, h1, h2 => by
    unfold rowsBy at h
    rw [fNat_eq] at h
    have h3 : isTrue (Canon.callW E d f (mk n) (start E.P)) = true := by
      cases hb : isTrue (Canon.callW E d f (mk n) (start E.P)) with
      | true => rfl
      | false => rw [hb] at h; cases h
    have h4 : rowsBy E d f mk (n + 1) m = true := by rw [h3] at h; exact h
    rcases Nat.lt_or_ge n k with h5 | h5
    · exact rowsBy_at m (n + 1) h4 k (by omega) (by omega)
    · rw [show k = n by omega]; exact W_true h3

theorem rows_next {d : Nat} {f : FuncId} {mk : Nat → List Value} {n m : Nat} (h : ∀ k, k < n → isTrue (callN E d f (mk k) (start E.P)) = true) (hr : rowsBy E d f mk n m = true) :
    ∀ k, k < n + m → isTrue (callN E d f (mk k) (start E.P)) = true := fun k hk => by
  rcases Nat.lt_or_ge k n with h1 | h1
  · exact h k h1
  · exact rowsBy_at m n hr k h1 hk

/-- The row k of l. -/
noncomputable def rowOf (l k : Nat) : List Value := [.complex .f64 l k]

/-- A call with one number, of which nothing is asked but which row of l its last eight bits name; function a is known. -/
theorem Fit.formK {P : Program} (h : Fit P) {a : FuncId} (hk : Plain P a) {d : Nat} {f : FuncId} (hb : hasBody P f = true) (l : Nat) (hl : 0 < l)
    (ht : ∀ k, k < l → isTrue (callN (Canon.envK P a) d f (rowOf l k) (start P)) = true) (n : Int) (w : World) :
    Calls P f #[.int .i64 n] w fun e w' => e = .returned (.bool true) ∧ Below w.heap.size w w' := by
  obtain ⟨k, h1, h2⟩ := sym_int n l hl
  exact h.argsK hk hb (fun c => LR.cons (h2 _ _ _) LR.nil) (ht k h1) w

/-- A call without an argument. -/
theorem Fit.plainW {P : Program} (h : Fit P) {d : Nat} {f : FuncId} (hb : hasBody P f = true) (ht : isTrue (Canon.callW (envOf P) d f [] (start P)) = true) : Plain P f :=
  fun w => h.plain hb (W_true ht) w
end
end Go.Proofs.Ytlkjdclhgmkndaa.Canon
