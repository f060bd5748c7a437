/-
  The look at a region that draws its order, made quickly.
-/
import Derived.Test.YtnjeoolbnanmiaaCanonV
namespace Go.Proofs.Ytnjeoolbnanmiaa.Canon
set_option linter.unusedVariables false
set_option linter.unusedSimpArgs false
open Go.RowKit

/-! The masks by a tree. -/
noncomputable def emT (t : T Nat) (o : Oper) : Nat :=
  o.after.toList.foldl (fun m e => bif Region.binds .any e then Nat.lor m (Nat.lor (Nat.shiftLeft 1 e.on) (match t.get e.on with | some x => x | none => 0)) else m) 0
noncomputable def masksT : List Oper → Nat → T Nat → List Nat
  | [], _, _ => []
  | o :: rest, i, t => fNat (emT t o) fun m => fNat (i + 1) fun j => m :: masksT rest j (T.set (some m) deep t i)

theorem emT_eq {t : T Nat} {acc : List Nat} (h : ∀ k, t.get k = acc[k]?) (o : Oper) : emT t o = em acc o := by
  unfold emT em
  congr 1
  funext m e
  rw [h, nth_eq]
  cases acc[e.on]? <;> rfl

theorem masksT_eq : ∀ (rest : List Oper) (acc : List Nat) (t : T Nat), acc.length + rest.length ≤ 4000000 → (∀ k, t.get k = acc[k]?) → acc ++ masksT rest acc.length t = masks rest acc
  | [], acc, t, _, h => by simp [masksT, masks]
  | o :: rest, acc, t, hl, h => by
    have e : masks (o :: rest) acc = masks rest (acc ++ [em acc o]) := by rw [← app_eq]; rfl
    rw [List.length_cons] at hl
    have e2 := masksT_eq rest (acc ++ [em acc o]) (T.set (some (em acc o)) deep t acc.length) (by simp; omega) fun k => by
      rw [get_set _ _ _ _ _ (by unfold deep; omega)]
      by_cases hk : k = acc.length
      · subst hk; rw [if_pos rfl]; simp
      · rw [if_neg hk, h]
        rcases Nat.lt_or_ge k acc.length with h1 | h1
        · rw [List.getElem?_append_left h1]
        · rw [List.getElem?_eq_none (by omega), List.getElem?_eq_none (by simp; omega)]
    have e3 : masksT (o :: rest) acc.length t = fNat (emT t o) fun m => fNat (acc.length + 1) fun j => m :: masksT rest j (T.set (some m) deep t acc.length) := rfl
    rw [e, ← e2, e3, fNat_eq, fNat_eq, emT_eq h]
    simp

theorem masksT_all {l : List Oper} (h : l.length ≤ 4000000) : masksT l 0 .leaf = masks l [] := by
  have := masksT_eq l [] .leaf (by simpa using h) fun k => by rw [get_leaf]; rfl
  simpa using this

/-! The look at pairs, by who writes and who looks at a temporary. -/
noncomputable def within (x : Option Nat) (m : Nat) : Bool := match x with
  | some x => Nat.beq (Nat.land x m) x
  | none => true
noncomputable def looksOK (W : T Nat) (m : Nat) : List Tmp → Bool
  | [] => true
  | t :: l => bif Nat.blt t 4000000 then bif within (W.get t) m then looksOK W m l else false else false
noncomputable def dstOK (W R : T Nat) (m : Nat) : Option Tmp → Bool
  | none => true
  | some d => bif Nat.blt d 4000000 then bif within (W.get d) m then within (R.get d) m else false else false
noncomputable def addBit (j : Nat) (t : Tmp) (A : T Nat) : T Nat := fNat (Nat.lor (Nat.shiftLeft 1 j) (match A.get t with | some x => x | none => 0)) fun m => T.set (some m) deep A t
noncomputable def addAll (j : Nat) : List Tmp → T Nat → T Nat
  | [], A => A
  | t :: l, A => addAll j l (addBit j t A)
noncomputable def addD (j : Nat) (d : Option Tmp) (A : T Nat) : T Nat := match d with
  | some d => addBit j d A
  | none => A
noncomputable def drawnT (ops : Array Oper) : List Oper → List Nat → Nat → T Nat → T Nat → Bool
  | [], _, _, _, _ => true
  | o :: rest, ms, j, W, R =>
    bif edgesOK j o.after.toList then
      bif looksOK W (headN ms) (o.looksAt ops) then
        bif dstOK W R (headN ms) o.dst then fNat (j + 1) fun k => drawnT ops rest (tailN ms) k (addD j o.dst W) (addAll j (o.looksAt ops) R)
        else false else false else false

theorem within_bit {x : Option Nat} {m k : Nat} (h : within x m = true) {y : Nat} (hx : x = some y) (hk : y.testBit k = true) : m.testBit k = true := by
  subst hx
  have h1 : y &&& m = y := Nat.eq_of_beq_eq_true h
  rw [← h1, Nat.testBit_and, Bool.and_eq_true] at hk
  exact hk.2

theorem addBit_get {j : Nat} {t : Tmp} {A : T Nat} (ht : t < 4000000) (u : Nat) : (∀ x k, A.get u = some x → x.testBit k = true → ∃ y, (addBit j t A).get u = some y ∧ y.testBit k = true) ∧
    (u = t → ∃ y, (addBit j t A).get u = some y ∧ y.testBit j = true) := by
  have ht2 : Nat.succ t < 2 ^ deep := Nat.lt_of_le_of_lt (Nat.succ_le_of_lt ht) (by decide)
  unfold addBit
  rw [fNat_eq, get_set _ _ _ _ _ ht2]
  have hor : ∀ a b k : Nat, (Nat.lor a b).testBit k = (a.testBit k || b.testBit k) := fun a b k => Nat.testBit_or a b k
  refine ⟨fun x k hx hk => ?_, fun e => ?_⟩
  · by_cases hu : u = t
    · subst hu
      rw [if_pos rfl]
      refine ⟨_, rfl, ?_⟩
      rw [hor, hx, hk, Bool.or_true]
    · rw [if_neg hu]; exact ⟨x, hx, hk⟩
  · subst e
    rw [if_pos rfl]
    refine ⟨_, rfl, ?_⟩
    rw [hor]
    have : (Nat.shiftLeft 1 j).testBit j = true := by
      show (1 <<< j).testBit j = true
      rw [Nat.shiftLeft_eq, Nat.one_mul, Nat.testBit_two_pow]; simp
    rw [this, Bool.true_or]

theorem addAll_get {j : Nat} : ∀ (l : List Tmp) (A : T Nat), (∀ t ∈ l, t < 4000000) → ∀ u, (∀ x k, A.get u = some x → x.testBit k = true → ∃ y, (addAll j l A).get u = some y ∧ y.testBit k = true) ∧
    (u ∈ l → ∃ y, (addAll j l A).get u = some y ∧ y.testBit j = true)
  | [], A, _, u => ⟨fun x k hx hk => ⟨x, hx, hk⟩, fun h => by cases h⟩
  | t :: l, A, hl, u => by
    obtain ⟨h1, h2⟩ := addBit_get (j := j) (A := A) (hl t List.mem_cons_self) u
    obtain ⟨h3, h4⟩ := addAll_get l (addBit j t A) (fun t ht => hl t (List.mem_cons_of_mem _ ht)) u
    refine ⟨fun x k hx hk => ?_, fun h => ?_⟩
    · obtain ⟨y, hy, hk2⟩ := h1 x k hx hk
      exact h3 y k hy hk2
    · rcases List.mem_cons.1 h with e | h
      · obtain ⟨y, hy, hk2⟩ := h2 e
        exact h3 y j hy hk2
      · exact h4 h

theorem looksOK_spec {W : T Nat} {m : Nat} : ∀ {l : List Tmp}, looksOK W m l = true → ∀ t ∈ l, t < 4000000 ∧ within (W.get t) m = true
  | [], _, t, ht => by cases ht
  | u :: l, h, t, ht => by
    unfold looksOK at h
    cases h1 : Nat.blt u 4000000 with
    | false => rw [h1] at h; cases h
    | true =>
      rw [h1, cond_true] at h
      cases h2 : within (W.get u) m with
      | false => rw [h2] at h; cases h
      | true =>
        rw [h2, cond_true] at h
        rcases List.mem_cons.1 ht with rfl | ht
        · exact ⟨by rwa [Nat.blt_eq] at h1, h2⟩
        · exact looksOK_spec h t ht

theorem pairOK_of {ops : Array Oper} {oj : Oper} {m : Nat} : ∀ (l : List Oper) (i : Nat), (∀ k o, l[k]? = some o → m.testBit (i + k) = true ∨ Oper.apart ops o oj = true) → pairOK ops oj m l i = true
  | [], i, h => rfl
  | x :: l, i, h => by
    unfold pairOK
    have h1 : pairOK ops oj m l (i + 1) = true := pairOK_of l (i + 1) fun k o hk => by
      have := h (k + 1) o (by simpa using hk)
      rwa [show i + (k + 1) = i + 1 + k by omega] at this
    rcases h 0 x rfl with h2 | h2
    · rw [Nat.add_zero] at h2
      rw [h2, cond_true]; exact h1
    · rw [h2, cond_true, h1]
      cases m.testBit i <;> rfl

/-- What the trees tell of those that came. -/
noncomputable def Told (ops : Array Oper) (before : List Oper) (W R : T Nat) : Prop :=
  ∀ i oi, before[i]? = some oi → (∀ d, oi.dst = some d → ∃ x, W.get d = some x ∧ x.testBit i = true) ∧ ∀ t ∈ oi.looksAt ops, ∃ x, R.get t = some x ∧ x.testBit i = true

theorem apart_of {ops : Array Oper} {x y : Oper} (h1 : ∀ d, x.dst = some d → d ∉ y.looksAt ops) (h2 : ∀ d, x.dst = some d → y.dst ≠ some d) (h3 : ∀ d, y.dst = some d → d ∉ x.looksAt ops) : Oper.apart ops x y = true := by
  unfold Oper.apart
  rw [Bool.and_eq_true]
  constructor
  · cases hd : x.dst with
    | none => rfl
    | some d =>
      simp only [Bool.and_eq_true, Bool.not_eq_true', bne_iff_ne, ne_eq]
      exact ⟨by simpa using h1 d hd, h2 d hd⟩
  · cases hd : y.dst with
    | none => rfl
    | some d => simpa using h3 d hd

theorem drawnT_OK {ops : Array Oper} : ∀ (rest before : List Oper) (ms : List Nat) (W R : T Nat), Told ops before W R → drawnT ops rest ms before.length W R = true → drawnOK ops before rest ms before.length = true
  | [], before, ms, W, R, _, _ => by unfold drawnOK; rfl
  | o :: rest, before, ms, W, R, hT, h => by
    unfold drawnT at h
    unfold drawnOK
    cases h1 : edgesOK before.length o.after.toList with
    | false => rw [h1] at h; cases h
    | true =>
      rw [h1, cond_true] at h
      cases h2 : looksOK W (headN ms) (o.looksAt ops) with
      | false => rw [h2] at h; cases h
      | true =>
        rw [h2, cond_true] at h
        cases h3 : dstOK W R (headN ms) o.dst with
        | false => rw [h3] at h; cases h
        | true =>
          rw [h3, cond_true, fNat_eq] at h
          have k2 := looksOK_spec h2
          have k3 : ∀ d, o.dst = some d → d < 4000000 ∧ within (W.get d) (headN ms) = true ∧ within (R.get d) (headN ms) = true := fun d hd => by
            rw [hd] at h3
            simp only [dstOK] at h3
            cases e1 : Nat.blt d 4000000 with
            | false => rw [e1] at h3; cases h3
            | true =>
              rw [e1, cond_true] at h3
              cases e2 : within (W.get d) (headN ms) with
              | false => rw [e2] at h3; cases h3
              | true => rw [e2, cond_true] at h3; exact ⟨by rwa [Nat.blt_eq] at e1, rfl, h3⟩
          rw [cond_true, pairOK_of before 0 fun k x hk => ?_, cond_true]
          · have := drawnT_OK rest (app before [o]) (tailN ms) (addD before.length o.dst W) (addAll before.length (o.looksAt ops) R) ?_ (by rw [app_eq, List.length_append, List.length_singleton]; exact h)
            · rw [app_eq, List.length_append, List.length_singleton] at this
              rw [app_eq]; exact this
            · intro i oi hi
              rw [app_eq] at hi
              have hW : ∀ u x k, W.get u = some x → x.testBit k = true → ∃ y, (addD before.length o.dst W).get u = some y ∧ y.testBit k = true := fun u x k hx hk => by
                cases hd : o.dst with
                | none => exact ⟨x, hx, hk⟩
                | some d => exact (addBit_get (k3 d hd).1 u).1 x k hx hk
              have hR := addAll_get (j := before.length) (o.looksAt ops) R (fun t ht => (k2 t ht).1)
              rcases Nat.lt_or_ge i before.length with hlt | hge
              · rw [List.getElem?_append_left hlt] at hi
                obtain ⟨t1, t2⟩ := hT i oi hi
                refine ⟨fun d hd => ?_, fun t ht => ?_⟩
                · obtain ⟨x, hx, hk⟩ := t1 d hd
                  exact hW d x i hx hk
                · obtain ⟨x, hx, hk⟩ := t2 t ht
                  exact (hR t).1 x i hx hk
              · have hie : i = before.length := by
                  have := (List.getElem?_eq_some_iff.1 hi).1
                  simp at this
                  omega
                subst hie
                rw [List.getElem?_append_right (Nat.le_refl _), Nat.sub_self] at hi
                simp only [List.getElem?_cons_zero, Option.some.injEq] at hi
                subst hi
                refine ⟨fun d hd => ?_, fun t ht => (hR t).2 ht⟩
                rw [hd]
                exact (addBit_get (k3 d hd).1 d).2 rfl
          · rw [Nat.zero_add]
            cases hb : (headN ms).testBit k with
            | true => exact .inl rfl
            | false =>
              right
              obtain ⟨t1, t2⟩ := hT k x hk
              refine apart_of (fun d hd hl => ?_) (fun d hd he => ?_) (fun d hd hl => ?_)
              · obtain ⟨y, hy, hyk⟩ := t1 d hd
                rw [within_bit (k2 d hl).2 hy hyk] at hb; cases hb
              · obtain ⟨y, hy, hyk⟩ := t1 d hd
                rw [within_bit (k3 d he).2.1 hy hyk] at hb; cases hb
              · obtain ⟨y, hy, hyk⟩ := t2 d hl
                rw [within_bit (k3 d hd).2.2 hy hyk] at hb; cases hb

theorem drawnT_all {ops : Array Oper} {ms : List Nat} (h : drawnT ops ops.toList ms 0 .leaf .leaf = true) : drawnOK ops [] ops.toList ms 0 = true :=
  drawnT_OK ops.toList [] ms .leaf .leaf (fun i oi hi => by simp at hi) h

/-! Building, by lists. -/
noncomputable def fillO (place : Nat → Option (Nat × Nat)) : List (Nat × Value) → List Value → Option (List Value)
  | [], cells => some cells
  | (i, v) :: rest, cells => match place i with
    | none => none
    | some (off, size) => bif full v.cells.toList then bif Nat.beq (lenN v.cells.toList 0) size then (match overlay cells off v.cells.toList with
      | some cs => fillO place rest cs
      | none => none) else none else none

theorem fold_get (off : Nat) : ∀ (c : List Value) (k : Nat) (A : Array Value) (i : Nat), off + k + c.length ≤ A.size →
    ((c.zipIdx k).foldl (fun cs (c, j) => cs.setIfInBounds (off + j) c) A).toList[i]? = if off + k ≤ i ∧ i < off + k + c.length then c[i - (off + k)]? else A.toList[i]?
  | [], k, A, i, h => by
    rw [if_neg (by simp)]
    rfl
  | v :: c, k, A, i, h => by
    rw [List.length_cons] at h ⊢
    rw [List.zipIdx_cons, List.foldl_cons, fold_get off c (k + 1) _ i (by simp; omega)]
    rw [Array.toList_setIfInBounds, List.getElem?_set]
    by_cases h1 : off + (k + 1) ≤ i ∧ i < off + (k + 1) + c.length
    · rw [if_pos h1, if_pos (by omega), show i - (off + k) = (i - (off + (k + 1))) + 1 by omega]; rfl
    · rw [if_neg h1]
      by_cases h2 : off + k = i
      · subst h2
        rw [if_pos rfl, if_pos (by simp; omega), if_pos (by omega), Nat.sub_self]; rfl
      · rw [if_neg h2, if_neg (by omega)]

theorem fillO_eq (place : Nat → Option (Nat × Nat)) : ∀ (ps : List (Nat × Value)) (cells r : List Value), fillO place ps cells = some r → Instr.fill place cells.toArray ps = some r.toArray
  | [], cells, r, h => by
    simp only [fillO, Option.some.injEq] at h
    subst h
    rfl
  | (i, v) :: rest, cells, r, h => by
    simp only [fillO] at h
    simp only [Instr.fill]
    cases hp : place i with
    | none => rw [hp] at h; cases h
    | some q =>
      obtain ⟨off, size⟩ := q
      rw [hp] at h
      simp only at h ⊢
      obtain ⟨h1, h⟩ := bif_inv h
      obtain ⟨h2, h⟩ := bif_inv h
      rw [Nat.beq_eq, lenN_eq, Nat.add_zero] at h2
      split at h
      · rename_i cs hcs
        obtain ⟨k1, k2, k3⟩ := overlay_eq _ _ _ _ hcs
        have hne : v.cells.toList ≠ [] := by
          intro he; rw [he] at h1; cases h1
        have k4 := k2 hne
        have hs : v.cells.size = size := by rw [← h2]; simp
        have hl : off + v.cells.size ≤ cells.length := by simpa using k4
        rw [if_neg (by simp; omega)]
        have e : Array.foldl (fun cs x => match x with | (c, j) => cs.setIfInBounds (off + j) c) cells.toArray v.cells.zipIdx = cs.toArray := by
          rw [← Array.foldl_toList, Array.toList_zipIdx]
          apply Array.toList_inj.1
          apply List.ext_getElem?
          intro j
          have := fold_get off v.cells.toList 0 cells.toArray j (by simpa using k4)
          refine this.trans ?_
          rw [k3 j, Nat.add_zero]
        rw [e]
        exact fillO_eq place rest cs r h
      · cases h

theorem prun_fields {P : Program} : ∀ (l : List Field), allL (fun f => (size? P f.type).isSome) l = true →
    prun P (l.mapM (m := Sem) fun f => do pure (f.offset, ← sizeOf f.type)) = some (l.map fun f => (f.offset, (size? P f.type).getD 0))
  | [], _ => rfl
  | f :: l, h => by
    have h1 : (size? P f.type).isSome = true := by
      rw [allL_eq] at h; exact h f List.mem_cons_self
    have h2 : allL (fun f => (size? P f.type).isSome) l = true := by
      rw [allL_eq] at h ⊢; exact fun x hx => h x (List.mem_cons_of_mem _ hx)
    obtain ⟨n, hn⟩ := Option.isSome_iff_exists.1 h1
    rw [List.mapM_cons]
    simp only [prun_bind, prun_sizeOf, hn, Option.bind, prun_pure, prun_fields l h2, List.map_cons, Option.getD_some]

noncomputable def placeW (P : Program) (fields : Array Field) (i : Nat) : Option (Nat × Nat) := match fields[i]? with
  | some f => (match size? P f.type with | some sz => some (f.offset, sz) | none => none)
  | none => none
noncomputable def buildW (P : Program) (t : TypeId) (ps : List (Nat × Value)) : Option Value := match zero? P t, P.underlying t with
  | some z, some (.struct fields) => bif allL (fun f => (size? P f.type).isSome) fields.toList then
      (match fillO (placeW P fields) ps z with
      | some cs => some (.agg cs.toArray)
      | none => none) else none
  | _, _ => none

theorem buildW_eq {P : Program} {t : TypeId} {ps : List (Nat × Value)} {v : Value} (h : buildW P t ps = some v) : prun P (Instr.build t ps.toArray) = some v := by
  unfold buildW at h
  split at h
  · rename_i z fields hz hu
    obtain ⟨h1, h⟩ := bif_inv h
    split at h
    · rename_i cs hcs
      simp only [Option.some.injEq] at h
      subst h
      have hz2 : ∃ zz, (P.info? t).bind (·.zero) = some zz ∧ zz.cells.toList = z := by
        unfold zero? at hz
        cases hi : P.info? t with
        | none => rw [hi] at hz; cases hz
        | some i =>
          rw [hi] at hz
          simp only at hz
          cases hzz : i.zero with
          | none => rw [hzz] at hz; cases hz
          | some zz =>
            rw [hzz] at hz
            simp only [Option.some.injEq] at hz
            exact ⟨zz, hzz, hz⟩
      obtain ⟨zz, k1, k2⟩ := hz2
      have hf := fillO_eq _ _ _ _ hcs
      have hpl : (fun i => (List.map (fun f : Field => (f.offset, (size? P f.type).getD 0)) fields.toList).toArray[i]?) = placeW P fields := by
        funext i
        unfold placeW
        rw [List.getElem?_toArray, List.getElem?_map, Array.getElem?_toList]
        cases hfi : fields[i]? with
        | none => rfl
        | some f =>
          have hs : (size? P f.type).isSome = true := by
            rw [allL_eq] at h1
            exact h1 f (by rw [Array.mem_toList_iff]; exact Array.mem_of_getElem? hfi)
          obtain ⟨n, hn⟩ := Option.isSome_iff_exists.1 hs
          simp only [Option.map_some, hn, Option.getD_some]
      unfold Instr.build
      simp only [prun_bind, prun_zeroValue, prun_underlying, k1, hu, Option.bind_some]
      rw [Array.mapM_eq_mapM_toList]
      have hm := prun_fields (P := P) fields.toList h1
      have hmap : prun P (List.toArray <$> List.mapM (m := Sem) (fun (f : Field) => do pure (f.offset, ← sizeOf f.type)) fields.toList) = some (List.map (fun f : Field => (f.offset, (size? P f.type).getD 0)) fields.toList).toArray := by
        show prun P (List.mapM (m := Sem) _ fields.toList >>= fun a => Pure.pure (List.toArray a)) = _
        rw [prun_bind, hm]
        rfl
      simp only [prun_bind, hmap, Option.bind_some]
      rw [hpl]
      have hzz : zz.cells = z.toArray := by rw [← k2]
      rw [hzz, hf]
      rfl
    · cases h
  · cases h

noncomputable def popW (P : Program) (ev : Operand → Value) (o : Oper) : Option Value :=
  match o.op with
  | .build t ps => match zero? P t with
    | some z => bif allL ground0 z then (match buildW P t (ps.toList.map fun (i, x) => (i, ev x)) with
      | some v => some v
      | none => prun P (Instr.build t (ps.toList.map fun (i, x) => (i, ev x)).toArray)) else none
    | none => none
  | _ => pop P ev o

theorem popW_eq (P : Program) (ev : Operand → Value) (o : Oper) : popW P ev o = pop P ev o := by
  unfold popW
  split
  · rename_i t ps ho
    unfold pop
    rw [ho]
    simp only
    cases zero? P t with
    | none => rfl
    | some z =>
      simp only
      cases allL ground0 z with
      | false => rfl
      | true =>
        rw [cond_true, cond_true]
        split
        · rename_i v hv; exact (buildW_eq hv).symm
        · rfl
  · rfl

noncomputable def hopW (E : Env) (ev : Operand → Value) (o : Oper) (s : St) : Option (ANext × St) :=
  match o.op with
  | .buildSlice t len parts => match E.P.underlying t with
    | some (.slice e) => (match size? E.P e, zero? E.P e with
      | some sz, some z => bif small (len * sz) && Nat.beq (lenN z 0) sz && Nat.blt 0 sz && allL ground0 z then
        (match fillO (fun i => some (i * sz, sz)) (parts.toList.map fun (i, x) => (i, ev x)) (reps z len) with
        | some cells => alloc e cells true s fun id s => some (.val (.slice (some ⟨id, 0, none⟩) len len), s)
        | none => hop E ev o s) else none
      | _, _ => none)
    | _ => none
  | _ => hop E ev o s

theorem hopW_eq (E : Env) (ev : Operand → Value) (o : Oper) (s : St) : hopW E ev o s = hop E ev o s := by
  unfold hopW
  split
  · rename_i t len parts ho
    have eh : hop E ev o s = (match E.P.underlying t with
      | some (.slice e) => (match size? E.P e, zero? E.P e with
        | some sz, some z => bif small (len * sz) && Nat.beq (lenN z 0) sz && Nat.blt 0 sz && allL ground0 z then
          (match Instr.fill (fun i => some (i * sz, sz)) (reps z len).toArray (parts.map fun (i, x) => (i, ev x)).toList with
          | some cells => alloc e cells.toList true s fun id s => some (.val (.slice (some ⟨id, 0, none⟩) len len), s)
          | none => none) else none
        | _, _ => none)
      | _ => none) := by unfold hop; rw [ho]; rfl
    split
    · rename_i e hu
      rw [hu] at eh
      simp only at eh
      split
      · rename_i sz z hsz hz
        rw [hsz, hz] at eh
        simp only at eh
        cases hc : (small (len * sz) && Nat.beq (lenN z 0) sz && Nat.blt 0 sz && allL ground0 z) with
        | false => rw [hc, cond_false] at eh; rw [cond_false, eh]
        | true =>
          rw [hc, cond_true] at eh
          rw [cond_true]
          split
          · rename_i cells hf
            have e3 : (parts.map fun (i, x) => (i, ev x)).toList = parts.toList.map fun (i, x) => (i, ev x) := by simp
            rw [e3, fillO_eq _ _ _ _ hf] at eh
            rw [eh]
          · rfl
      · rename_i hno
        rw [eh]
        split
        · rename_i sz z h1 h2; exact absurd h2 (hno _ _ h1)
        · rfl
    · rename_i hno
      rw [eh]
      split
      · rename_i e h1; exact absurd h1 (hno e)
      · rfl
  · rfl

end Go.Proofs.Ytnjeoolbnanmiaa.Canon
