/-
  Code and calls.
-/
import Derived.Test.YtlkjdclhgmkndaaCanonS
namespace Go.Proofs.Ytlkjdclhgmkndaa.Canon
set_option linter.unusedVariables false
set_option linter.unusedSimpArgs false
open Go.RowKit
section
variable {Φ : Fx} {P : Program} {E : Env} {call : CallF}

theorem runDrawn_le (hc : CallOK Φ P call) {n0 : Nat} {ops : List Oper} : ∀ (rest : List Oper) (ms : List Nat) (i touched : Nat) (seq : Bool) (base : T AObj) (outs : List (Nat × T AObj)) (reads : List Rdg) (deltas : List Delta) (tm : List Value) (s : St) (tm' : List Value) (s' : St),
    runDrawn E call n0 ops rest ms i touched seq base outs reads deltas tm s = some (tm', s') → zId P < s.next → s.next ≤ s'.next ∧ s'.mw ≤ s.mw
  | [], ms, i, touched, seq, base, outs, reads, deltas, tm, s, tm', s', h, hZ => by
    simp only [runDrawn, Option.some.injEq, Prod.mk.injEq] at h
    obtain ⟨_, rfl⟩ := h
    exact ⟨Nat.le_refl _, Nat.le_refl _⟩
  | o :: rest, ms, i, touched, seq, base, outs, reads, deltas, tm, s, tm', s', h, hZ => by
    unfold runDrawn at h
    simp only at h
    cases hw : wanted ops tm o with
    | false => rw [hw, cond_false] at h; exact runDrawn_le hc rest _ _ _ _ _ _ _ _ _ _ _ _ h hZ
    | true =>
      rw [hw, cond_true] at h
      split at h
      · rw [fVal_eq] at h; exact runDrawn_le hc rest _ _ _ _ _ _ _ _ _ _ _ _ h hZ
      · split at h
        · rw [fVal_eq] at h; exact runDrawn_le hc rest _ _ _ _ _ _ _ _ _ _ _ _ h hZ
        obtain ⟨_, h⟩ := bif_not h
        split at h
        · rename_i v s1 hd
          rw [fVal_eq] at h
          obtain ⟨m1, m2, _⟩ := doOp_mono hc hd hZ
          dsimp only at m1 m2
          rcases bif_or h with ⟨_, h⟩ | ⟨_, h⟩
          · obtain ⟨h1, h2⟩ := runDrawn_le hc rest _ _ _ _ _ _ _ _ _ _ _ _ h (by dsimp only; omega)
            dsimp only at h1 h2
            exact ⟨by omega, Nat.le_trans h2 (Nat.min_le_left _ _)⟩
          · obtain ⟨_, h⟩ := bif_inv h
            obtain ⟨h1, h2⟩ := runDrawn_le hc rest _ _ _ _ _ _ _ _ _ _ _ _ h (by dsimp only; omega)
            dsimp only at h1 h2
            exact ⟨by omega, Nat.le_trans h2 (Nat.min_le_left _ _)⟩
        · cases h

theorem region_drawn (hE : E.P = P) (hc : CallOK Φ P call) (hmix : P.follows .mixedOrders = true) {ops : Array Oper} (hok : opsOK (zId P) ops.toList = true)
    (hdr : drawnOK ops [] ops.toList (masks ops.toList []) 0 = true) {tm tm' : List Value} {s s' : St}
    (h : runDrawn E call s.next ops.toList ops.toList (masks ops.toList []) 0 0 false s.heap [] [] [] tm s = some (tm', s')) (hZ : zId P < s.next) :
    Mo s s' ∧ ∀ (c : Ctx) (D : Nat → Prop) (w : World) (a : Act) (id : Nat) (Q : Exit → Act → World → Prop), Bd s → HR Φ P c D s.heap w → Glob (zId P) c D → (∀ o, s.next ≤ o → o < s'.next → ¬D o) → LR (zId P) c D tm a.tmps.toList →
      (∀ c' a' w', Step Φ P c c' D s.heap s'.heap s.next s'.next s'.mw w w' → LR (zId P) c' (Dm D s.next s'.next) tm' a'.tmps.toList → a'.defers = a.defers → Q .normal a' w') →
      (Code.region id ops true).wp P Q a w := by
  obtain ⟨le1, le2⟩ := runDrawn_le hc _ _ _ _ _ _ _ _ _ _ _ _ _ h hZ
  have tr : Bd s → Traced P E call ops.toList (masks ops.toList []) tm s.heap.get s.next 0 (fun _ => ⟨0, undef, s, s, none⟩) s tm' s' := fun hB => by
    refine drawn_trace hE hc ops.toList 0 _ 0 false s.heap [] [] [] tm s tm' s' (fun j => by rw [Nat.zero_add]) ?_ hZ ?_ (Nat.zero_le _)
    · rw [List.drop_zero]; exact h
    · refine ⟨?_, hB, rfl, Nat.le_refl _, fun j hj => by omega, fun j hj => by omega, fun _ => ⟨fun j hj => by omega, fun m p => rfl, fun d hd => (by cases hd), fun j hj => by omega⟩, hB.2, rfl, fun j hj => by omega, fun j hj => by omega⟩
      unfold text
      exact (tmSel_none _ _ _ fun j _ => by simp).symm
  refine ⟨⟨le1, le2, fun hB => ?_⟩, fun c D w a id Q hB hH hG hf hT hQ => ?_⟩
  · obtain ⟨R, _, _, _, _, _, _, b7, _, _, b10⟩ := tr hB
    exact ⟨b7, b10⟩
  · obtain ⟨R, b1, b2, b3, b4, b5, b6, b7, b8, b9, b10⟩ := tr hB
    refine wp_region_any hmix ?_
    have T : TI P E call ops tm R D s.heap.get s.next s'.next s'.mw := by
      refine ⟨fun k o ho => b2 k (Nat.zero_le _) o ho, hok, fun k o ho => ?_, fun k hk => b8 k (Nat.zero_le _) hk, fun k hk => b9 k (Nat.zero_le _) hk, hB.2, ?_, hf, hZ⟩
      rotate_left
      · intro k hk hk2
        have C := (b2 k (Nat.zero_le _) _ (List.getElem?_eq_getElem hk)).k2 hk2
        exact (doOp_mono hc C.2.1 (by have := C.2.2.2.2.1; omega)).1
      refine drawnOK_spec ops.toList 0 (fun q => by rw [Nat.zero_add]) (Nat.zero_le _) ?_ k (Nat.zero_le _) o ho
      rw [List.take_zero, List.drop_zero]; exact hdr
    have hrep : ∀ j, (Array.replicate ops.size false).getD j false = false := fun j => by
      rw [Array.getD_eq_getD_getElem?, Array.getElem?_replicate]; split <;> rfl
    have hrepf : (fun j => (Array.replicate ops.size false).getD j false) = fun _ => false := funext hrep
    refine any_order hE hc T hG (c0 := c) (w0 := w) (a0 := a) ?_ ops.size _ c D s.heap.get a _ (by simp) (by simp [List.countP_replicate]) (fun j k hj => by rw [hrep] at hj; cases hj) ?_ ?_ rfl
    · intro c' D' F a' w' I hF hT' hd'
      rw [hF, ← b4] at I
      rw [← b3] at hT'
      have hHR : HR Φ P c' (Dm D s.next s'.next) s'.heap w' := I.hr.toT.dm I.dom1
      refine hQ c' a' w' ⟨b5, I.agree, hHR, I.os, I.tape, I.output, I.size, I.far, I.live, fun p hp hl => b10 p hp (hB.2 p hl)⟩ (hT'.mono (fun _ _ => ⟨rfl, rfl⟩) I.dom1) hd'
    · rw [hrepf]
      refine ⟨(hH.drawn _).toF, .inl ⟨fun j hj => (by cases hj), fun p => (selTo_cut (k := 0) p _ (Nat.zero_le _) (fun _ _ _ _ _ => rfl)).symm⟩, fun k hk _ hk2 p hp1 hp2 => ?_, fun _ _ => ⟨rfl, rfl⟩, fun p hp => .inl hp, fun p hp => hp, rfl, rfl, rfl, Nat.le_refl _, fun _ _ _ => rfl, fun p hp => .inl hp⟩
      have C := (T.cr k _ (List.getElem?_eq_getElem hk)).k2 hk2
      have := T.hi k hk hk2
      exact hf p (by have := C.2.2.2.2.1; omega) (by omega)
    · rw [hrepf, tmSel_none _ _ _ fun _ _ => rfl]; exact hT

def AExit.toExit : AExit → Exit
  | .normal => .normal
  | .exit id => .exit id
  | .ret => .ret

/-- A place of the runner and one of the model, behind a step. -/
def Behind (Φ : Fx) (P : Program) (c : Ctx) (D : Nat → Prop) (w : World) (s s' : St) (tm' : List Value) (a a' : Act) (w' : World) : Prop :=
  ∃ c', Step Φ P c c' D s.heap s'.heap s.next s'.next s'.mw w w' ∧ LR (zId P) c' (Dm D s.next s'.next) tm' a'.tmps.toList ∧ a'.defers = a.defers

theorem Behind.trans {c : Ctx} {D : Nat → Prop} {w w1 w2 : World} {s s1 s2 : St} {tm2 : List Value} {a a1 a2 : Act} {c1 : Ctx} (hH : HR Φ P c D s.heap w) (hf : ∀ o, s.next ≤ o → o < s2.next → ¬D o)
    (h1 : Step Φ P c c1 D s.heap s1.heap s.next s1.next s1.mw w w1) (hd : a1.defers = a.defers) (hm : s2.mw ≤ s1.mw)
    (h : Behind Φ P c1 (Dm D s.next s1.next) w1 s1 s2 tm2 a1 a2 w2) : Behind Φ P c D w s s2 tm2 a a2 w2 := by
  obtain ⟨c2, k1, k2, k3⟩ := h
  refine ⟨c2, (h1.weaken hm).trans (fun o ho hoo => hf o hoo.1 hoo.2 ho) hH k1, ?_, k3.trans hd⟩
  rw [Dm.trans h1.le k1.le] at k2
  exact k2

/-- What is promised of code. -/
def CodeOK (Φ : Fx) (P : Program) (code : Code) (tm : List Value) (s : St) (x : AExit) (tm' : List Value) (s' : St) : Prop :=
  Mo s s' ∧ ∀ (c : Ctx) (D : Nat → Prop) (w : World) (a : Act) (Q : Exit → Act → World → Prop), Bd s → HR Φ P c D s.heap w → Glob (zId P) c D → (∀ o, s.next ≤ o → o < s'.next → ¬D o) → LR (zId P) c D tm a.tmps.toList →
    (∀ a' w', Behind Φ P c D w s s' tm' a a' w' → Q x.toExit a' w') → code.wp P Q a w

theorem Behind.refl {c : Ctx} {D : Nat → Prop} {w : World} {s : St} {tm : List Value} {a : Act} (hH : HR Φ P c D s.heap w) (hT : LR (zId P) c D tm a.tmps.toList) : Behind Φ P c D w s s tm a a w :=
  ⟨c, .refl hH, by rw [Dm.nil]; exact hT, rfl⟩

theorem exec_sound (hE : E.P = P) (hc : CallOK Φ P call) (hmix : P.follows .mixedOrders = true) : ∀ (code : Code) (tm : List Value) (s : St) (x : AExit) (tm' : List Value) (s' : St),
    exec E call code tm s = some (x, tm', s') → zId P < s.next → CodeOK Φ P code tm s x tm' s' := by
  intro code
  induction code with
  | skip =>
    intro tm s x tm' s' h hZ
    simp only [exec, Option.some.injEq, Prod.mk.injEq] at h
    obtain ⟨rfl, rfl, rfl⟩ := h
    exact ⟨.refl _, fun c D w a Q hB hH hG hf hT hQ => wp_skip (hQ a w (.refl hH hT))⟩
  | region id ops draw =>
    intro tm s x tm' s' h hZ
    unfold exec at h
    rw [hE] at h
    obtain ⟨hok, h⟩ := bif_inv h
    cases draw with
    | true =>
      rw [cond_true] at h
      obtain ⟨hdr, h⟩ := bif_inv h
      split at h
      · rename_i tm1 s1 hr
        simp only [Option.some.injEq, Prod.mk.injEq] at h
        obtain ⟨rfl, rfl, rfl⟩ := h
        obtain ⟨h1, h2⟩ := region_drawn hE hc hmix hok hdr hr hZ
        exact ⟨h1, fun c D w a Q hB hH hG hf hT hQ => h2 c D w a id Q hB hH hG hf hT fun c' a' w' k1 k2 k3 => hQ a' w' ⟨c', k1, k2, k3⟩⟩
      · cases h
    | false =>
      rw [cond_false] at h
      split at h
      · rename_i tm1 s1 hr
        simp only [Option.some.injEq, Prod.mk.injEq] at h
        obtain ⟨rfl, rfl, rfl⟩ := h
        refine ⟨runOps_mono hc _ _ _ _ _ hr hZ, fun c D w a Q hB hH hG hf hT hQ => ?_⟩
        refine wp_region ?_
        have := runOps_sound hE hc hok (Q := Q) ops.toList 0 tm tm1 s s1 (fun j => by rw [Nat.zero_add, Array.getElem?_toList]) hr hZ c D w a hB hH hG hf hT fun c' a' w' k1 k2 k3 => hQ a' w' ⟨c', k1, k2, k3⟩
        rw [Array.length_toList] at this
        rw [List.range_eq_range']
        exact this
      · cases h
  | seq x y ihx ihy =>
    intro tm s e tm' s' h hZ
    unfold exec at h
    split at h
    · rename_i tm1 s1 h1
      obtain ⟨m1, k1⟩ := ihx tm s _ tm1 s1 h1 hZ
      obtain ⟨m2, k2⟩ := ihy tm1 s1 e tm' s' h (by have := m1.1; omega)
      refine ⟨m1.trans m2, fun c D w a Q hB hH hG hf hT hQ => wp_seq ?_⟩
      obtain ⟨f1, f2⟩ := fresh_sub hf m1.1 m2.1
      refine k1 c D w a _ hB hH hG f1 hT fun a1 w1 hb => ?_
      obtain ⟨c1, st1, l1, d1⟩ := hb
      exact k2 c1 (Dm D s.next s1.next) w1 a1 Q (m1.2.2 hB).1 st1.hr (hG.step st1 hZ) f2 l1 fun a2 w2 hb2 => hQ a2 w2 (.trans hH hf st1 d1 m2.2.1 hb2)
    · rename_i r hr
      obtain ⟨m1, k1⟩ := ihx tm s e tm' s' h hZ
      refine ⟨m1, fun c D w a Q hB hH hG hf hT hQ => wp_seq (k1 c D w a _ hB hH hG hf hT fun a' w' hb => ?_)⟩
      have := hQ a' w' hb
      cases e with
      | normal => exact absurd h (hr _ _)
      | exit id => exact this
      | ret => exact this
  | cond cn t e iht ihe =>
    intro tm s x tm' s' h hZ
    unfold exec at h
    have heval : ∀ (c : Ctx) (D : Nat → Prop) (a : Act) (b : Bool), Glob (zId P) c D → LR (zId P) c D tm a.tmps.toList → aeval (zId E.P) tm cn = .bool b → a.eval cn = .bool b := by
      intro c D a b hG hT hb
      rw [hE] at hb
      have := ev1_rel hT hG cn
      rw [hb] at this
      have h2 := kept_bool this
      cases cn with
      | const v =>
        simp only [aeval] at hb
        cases hv : ground2 v with
        | false => rw [hv] at hb; cases hb
        | true => rw [hv] at hb; exact hb
      | global g =>
        simp only [aeval] at hb
        cases hv : Nat.blt g (zId P) <;> rw [hv] at hb <;> cases hb
      | tmp t => exact h2
      | func f => exact h2
    split at h
    · rename_i hb
      obtain ⟨m1, k1⟩ := iht tm s x tm' s' h hZ
      exact ⟨m1, fun c D w a Q hB hH hG hf hT hQ => wp_cond_true (heval c D a true hG hT hb) (k1 c D w a Q hB hH hG hf hT hQ)⟩
    · rename_i hb
      obtain ⟨m1, k1⟩ := ihe tm s x tm' s' h hZ
      exact ⟨m1, fun c D w a Q hB hH hG hf hT hQ => wp_cond_false (heval c D a false hG hT hb) (k1 c D w a Q hB hH hG hf hT hQ)⟩
    · cases h
  | block id b ih =>
    intro tm s x tm' s' h hZ
    unfold exec at h
    split at h
    · rename_i k tm1 s1 h1
      obtain ⟨m1, k1⟩ := ih tm s _ tm1 s1 h1 hZ
      cases hk : Nat.beq k id with
      | true =>
        rw [hk, cond_true] at h
        simp only [Option.some.injEq, Prod.mk.injEq] at h
        obtain ⟨rfl, rfl, rfl⟩ := h
        rw [Nat.beq_eq] at hk
        subst hk
        exact ⟨m1, fun c D w a Q hB hH hG hf hT hQ => wp_block (k1 c D w a _ hB hH hG hf hT fun a' w' hb => by
          show (if k = k then Q .normal a' w' else _)
          rw [if_pos rfl]; exact hQ a' w' hb)⟩
      | false =>
        rw [hk, cond_false] at h
        simp only [Option.some.injEq, Prod.mk.injEq] at h
        obtain ⟨rfl, rfl, rfl⟩ := h
        have hne : k ≠ id := fun e => by rw [e, nbeq_yes rfl] at hk; cases hk
        exact ⟨m1, fun c D w a Q hB hH hG hf hT hQ => wp_block (k1 c D w a _ hB hH hG hf hT fun a' w' hb => by
          show (if k = id then _ else Q (.exit k) a' w')
          rw [if_neg hne]; exact hQ a' w' hb)⟩
    · rename_i r hr
      obtain ⟨m1, k1⟩ := ih tm s x tm' s' h hZ
      refine ⟨m1, fun c D w a Q hB hH hG hf hT hQ => wp_block (k1 c D w a _ hB hH hG hf hT fun a' w' hb => ?_)⟩
      have := hQ a' w' hb
      cases x with
      | normal => exact this
      | exit k => exact absurd h (hr _ _ _)
      | ret => exact this
  | loop body ih =>
    intro tm s x tm' s' h hZ
    unfold exec at h
    -- rounds
    have key : ∀ (n : Nat) (tm : List Value) (s : St), iter (fun tm s => exec E call body tm s) n tm s = some (x, tm', s') → zId P < s.next →
        Mo s s' ∧ ∀ (c : Ctx) (D : Nat → Prop) (w : World) (a : Act) (Q : Exit → Act → World → Prop), Bd s → HR Φ P c D s.heap w → Glob (zId P) c D → (∀ o, s.next ≤ o → o < s'.next → ¬D o) → LR (zId P) c D tm a.tmps.toList →
          (∀ a' w', Behind Φ P c D w s s' tm' a a' w' → Q x.toExit a' w') → ∀ b k cs, ∃ e a' w', Q e a' w' ∧ Arrives P (lone (b.at a (.code body :: .inLoop body :: k)) cs w) b k cs e a' w' := by
      intro n
      induction n with
      | zero => intro tm s h; cases h
      | succ n ihn =>
        intro tm s h hZ
        unfold iter at h
        split at h
        · rename_i tm1 s1 h1
          obtain ⟨m1, k1⟩ := ih tm s _ tm1 s1 h1 hZ
          obtain ⟨m2, k2⟩ := ihn tm1 s1 h (by have := m1.1; omega)
          refine ⟨m1.trans m2, fun c D w a Q hB hH hG hf hT hQ b k cs => ?_⟩
          obtain ⟨f1, f2⟩ := fresh_sub hf m1.1 m2.1
          obtain ⟨e, a1, w1, ⟨rfl, hb⟩, harr⟩ := k1 c D w a (fun e a' w' => e = .normal ∧ Behind Φ P c D w s s1 tm1 a a' w') hB hH hG f1 hT (fun a' w' hb => ⟨rfl, hb⟩) b (.inLoop body :: k) cs
          obtain ⟨c1, st1, l1, d1⟩ := hb
          obtain ⟨e2, a2, w2, hq2, harr2⟩ := k2 c1 (Dm D s.next s1.next) w1 a1 Q (m1.2.2 hB).1 st1.hr (hG.step st1 hZ) f2 l1 (fun a2 w2 hb2 => hQ a2 w2 (.trans hH hf st1 d1 m2.2.1 hb2)) b k cs
          exact ⟨e2, a2, w2, hq2, .of_steps (Steps.trans harr (.one step_inLoop)) harr2⟩
        · rename_i r hr
          obtain ⟨m1, k1⟩ := ih tm s x tm' s' h hZ
          refine ⟨m1, fun c D w a Q hB hH hG hf hT hQ b k cs => ?_⟩
          obtain ⟨e, a1, w1, ⟨rfl, hq⟩, harr⟩ := k1 c D w a (fun e a' w' => e = x.toExit ∧ Q x.toExit a' w') hB hH hG hf hT (fun a' w' hb => ⟨rfl, hQ a' w' hb⟩) b (.inLoop body :: k) cs
          cases x with
          | normal => exact absurd h (hr _ _)
          | exit id => exact ⟨_, a1, w1, hq, .pass (x := .inLoop body) rfl (fun _ _ => .inl (by simp [AExit.toExit])) harr⟩
          | ret => exact ⟨_, a1, w1, hq, .pass (x := .inLoop body) rfl (fun _ _ => .inl (by simp [AExit.toExit])) harr⟩
    obtain ⟨m1, k1⟩ := key rounds tm s h hZ
    refine ⟨m1, fun c D w a Q hB hH hG hf hT hQ b k cs => ?_⟩
    obtain ⟨e, a', w', hq, harr⟩ := k1 c D w a Q hB hH hG hf hT hQ b k cs
    exact ⟨e, a', w', hq, .of_steps (.one step_loop) harr⟩
  | exit id =>
    intro tm s x tm' s' h hZ
    simp only [exec, Option.some.injEq, Prod.mk.injEq] at h
    obtain ⟨rfl, rfl, rfl⟩ := h
    exact ⟨.refl _, fun c D w a Q hB hH hG hf hT hQ => wp_exit (hQ a w (.refl hH hT))⟩
  | ret =>
    intro tm s x tm' s' h hZ
    simp only [exec, Option.some.injEq, Prod.mk.injEq] at h
    obtain ⟨rfl, rfl, rfl⟩ := h
    exact ⟨.refl _, fun c D w a Q hB hH hG hf hT hQ => wp_ret (hQ a w (.refl hH hT))⟩
  | _ => intro tm s x tm' s' h; cases h
end
end Go.Proofs.Ytlkjdclhgmkndaa.Canon
