/-
  A region that draws its order: the trace of the runner's one order.
-/
import Derived.Test.YtlkjdclhgmkndaaCanonO
namespace Go.Proofs.Ytlkjdclhgmkndaa.Canon
set_option linter.unusedVariables false
set_option linter.unusedSimpArgs false
open Go.RowKit

noncomputable def text (ops : List Oper) (tm0 : List Value) (R : Nat → Rec) (k : Nat) : List Value := tmSel R (fun j => decide (j < k)) ops 0 tm0

noncomputable def cellsF (F : Nat → Option AObj) (a : Addr) (n : Nat) : Option (List Value) := match F a.block with
  | some o => takeN n (dropN a.off o.cells)
  | none => none
theorem cellsAt_F (h : T AObj) (a : Addr) (n : Nat) : cellsAt h a n = cellsF h.get a n := rfl

/-- It is a load, there, of these cells. -/
def LoadsTo (P : Program) (ev : Operand → Value) (o : Oper) (ad : Addr) (n : Nat) (cs : List Value) (v : Value) : Prop :=
  ∃ t a, o.op = .load t a ∧ ev a = .pointer (some ad) ∧ ((isAgg? P t = some true ∧ size? P t = some n ∧ v = .agg cs.toArray) ∨ (isAgg? P t = some false ∧ (∃ sz, size? P t = some sz) ∧ n = 1 ∧ cs = [v]))

/-- These cells stand there in each memory that there may be. -/
def StillAt (H0 : Nat → Option AObj) (R : Nat → Rec) (m k : Nat) (ad : Addr) (n : Nat) (cs : List Value) : Prop :=
  (∃ j, j < k ∧ (R j).kind = 3 ∧ m.testBit j = true ∧ ∀ q, j ≤ q → q < k → (R q).kind = 3 → cellsF (R q).o.heap.get ad n = some cs) ∨
  (cellsF H0 ad n = some cs ∧ ∀ q, q < k → (R q).kind = 3 → cellsF (R q).o.heap.get ad n = some cs)

structure CR (P : Program) (E : Env) (call : CallF) (ops : List Oper) (M : List Nat) (tm0 : List Value) (H0 : Nat → Option AObj) (n0 : Nat) (R : Nat → Rec) (k : Nat) (o : Oper) : Prop where
  le : (R k).kind ≤ 3
  k0 : (R k).kind = 0 → wanted ops (text ops tm0 R k) o = false ∧ (R k).v = undef
  k1 : (R k).kind = 1 → wanted ops (text ops tm0 R k) o = true ∧ (pop P (aeval (zId P) (text ops tm0 R k)) o = some (R k).v ∨
    ∃ ad n cs, (R k).rd = some (ad, n, cs) ∧ ad.block < n0 ∧ LoadsTo P (aeval (zId P) (text ops tm0 R k)) o ad n cs (R k).v ∧ StillAt H0 R (M.getD k 0) k ad n cs)
  k2 : 2 ≤ (R k).kind → wanted ops (text ops tm0 R k) o = true ∧ doOp E call (aeval (zId P) (text ops tm0 R k)) o (R k).i = some ((R k).v, (R k).o) ∧
    (R k).i.mw = (R k).i.next ∧ Bd (R k).i ∧ n0 ≤ (R k).i.next ∧ ∀ j, j < k → 2 ≤ (R j).kind → (R j).o.next ≤ (R k).i.next
  kr : (R k).kind = 2 → n0 ≤ (R k).o.mw ∧ (∀ p, (R k).o.mw ≤ p → p < (R k).i.next → ((R k).i.heap.get p = none ↔ (R k).o.heap.get p = none)) ∧ (∀ j, j < k → (R j).kind ≠ 3) ∧
    (∀ p obj, (R k).i.heap.get p = some obj → selTo R H0 (fun j => (M.getD k 0).testBit j) k p = some obj) ∧
    ∀ j, j < k → (R j).kind = 2 → (M.getD k 0).testBit j = true ∨ ((∀ p, own (R j) p → (R k).i.heap.get p = none) ∧ ∀ p, p < (R k).i.next → own (R k) p → (R j).i.heap.get p = none)
  k3 : (R k).kind = 3 → (∀ j, j < k → 2 ≤ (R j).kind → (M.getD k 0).testBit j = true) ∧ (R k).i.heap.get = fullTo R H0 k ∧
    ∀ j, j < k → ∀ ad n cs, (R j).rd = some (ad, n, cs) → (M.getD k 0).testBit j = true ∨ cellsF (R k).o.heap.get ad n = some cs

theorem StillAt.congr {H0 : Nat → Option AObj} {R R' : Nat → Rec} {m k : Nat} {ad : Addr} {n : Nat} {cs : List Value} (h : StillAt H0 R m k ad n cs) (e : ∀ j, j < k → R' j = R j) : StillAt H0 R' m k ad n cs := by
  rcases h with ⟨j, h1, h2, h3, h4⟩ | ⟨h1, h2⟩
  · exact .inl ⟨j, h1, by rw [e j h1]; exact h2, h3, fun q hq1 hq2 hq3 => by rw [e q hq2] at hq3 ⊢; exact h4 q hq1 hq2 hq3⟩
  · exact .inr ⟨h1, fun q hq2 hq3 => by rw [e q hq2] at hq3 ⊢; exact h2 q hq2 hq3⟩

/-- The memories behind those that stand in a row, the last one first. -/
def OutsOK (R : Nat → Rec) : Nat → List (Nat × T AObj) → Prop
  | i, [] => ∀ j, j < i → (R j).kind ≠ 3
  | i, (t, h) :: r => t < i ∧ (R t).kind = 3 ∧ h = (R t).o.heap ∧ (∀ j, t < j → j < i → (R j).kind ≠ 3) ∧ OutsOK R t r

theorem OutsOK.congr {R R' : Nat → Rec} : ∀ {l : List (Nat × T AObj)} {i : Nat}, OutsOK R i l → (∀ j, j < i → R' j = R j) → OutsOK R' i l
  | [], i, h, e => fun j hj => by rw [e j hj]; exact h j hj
  | (t, x) :: r, i, ⟨h1, h2, h3, h4, h5⟩, e =>
    ⟨h1, by rw [e t h1]; exact h2, by rw [e t h1]; exact h3, fun j hj1 hj2 => by rw [e j hj2]; exact h4 j hj1 hj2, h5.congr fun j hj => e j (by omega)⟩

theorem OutsOK.on {R : Nat → Rec} {l : List (Nat × T AObj)} {i : Nat} (h : OutsOK R i l) (hk : (R i).kind ≠ 3) : OutsOK R (i + 1) l := by
  cases l with
  | nil =>
    intro j hj
    by_cases e : j = i
    · rw [e]; exact hk
    · exact h j (by omega)
  | cons x r =>
    obtain ⟨t, x⟩ := x
    obtain ⟨h1, h2, h3, h4, h5⟩ := h
    refine ⟨by omega, h2, h3, fun j hj1 hj2 => ?_, h5⟩
    by_cases e : j = i
    · rw [e]; exact hk
    · exact h4 j hj1 (by omega)

theorem addrEq_spec {a b : Addr} (h : addrEq a b = true) : a = b := by
  unfold addrEq at h
  split at h
  · rename_i b o b' o'
    cases h1 : Nat.beq b b' with
    | false => rw [h1] at h; cases h
    | true =>
      rw [h1, cond_true] at h
      rw [Nat.eq_of_beq_eq_true h1, Nat.eq_of_beq_eq_true h]
  · cases h

theorem sameV_spec {a b : Value} (h : sameV a b = true) : a = b := by
  unfold sameV at h
  split at h
  · rename_i a b; cases a <;> cases b <;> first | rfl | cases h
  · rename_i k a k' b
    cases h1 : kbeq k k' with
    | false => rw [h1] at h; cases h
    | true => rw [h1, cond_true] at h; rw [ibeq_eq] at h; rw [(kbeq_eq k k').1 h1, of_decide_eq_true h]
  · rename_i a b
    rw [bytesEq_eq] at h
    have := of_decide_eq_true h
    congr 1
    exact ByteArray.ext (Array.toList_inj.1 this)
  · rfl
  · rw [addrEq_spec h]
  · rename_i l c l' c'
    obtain ⟨h1, h2⟩ := bif_true h
    rw [Nat.eq_of_beq_eq_true h1, Nat.eq_of_beq_eq_true h2]
  · rename_i a l c b l' c'
    obtain ⟨h1, h2⟩ := bif_true h
    obtain ⟨h2, h3⟩ := bif_true h2
    rw [addrEq_spec h1, Nat.eq_of_beq_eq_true h2, Nat.eq_of_beq_eq_true h3]
  · rfl
  · rfl
  · cases h

theorem sameL_spec : ∀ {l r : List Value}, sameL l r = true → l = r
  | [], [], _ => rfl
  | [], _ :: _, h => by cases h
  | _ :: _, [], h => by cases h
  | a :: l, b :: r, h => by
    unfold sameL at h
    obtain ⟨h1, h2⟩ := bif_true h
    rw [sameV_spec h1, sameL_spec h2]

theorem candOf_spec {H0 : Nat → Option AObj} {R : Nat → Rec} {m : Nat} {ad : Addr} {n : Nat} {h0 : T AObj} (e : h0.get = H0) : ∀ {l : List (Nat × T AObj)} {i : Nat} {cs : List Value}, OutsOK R i l → candOf m ad n h0 l = some cs → StillAt H0 R m i ad n cs
  | [], i, cs, h, hc => .inr ⟨by rw [← e, ← cellsAt_F]; exact hc, fun q hq hk => absurd hk (h q hq)⟩
  | (t, x) :: r, i, cs, ⟨h1, h2, h3, h4, h5⟩, hc => by
    unfold candOf at hc
    split at hc
    · cases hc
    · rename_i cs1 hcs1
      have hx : cellsF (R t).o.heap.get ad n = some cs1 := by rw [← h3, ← cellsAt_F]; exact hcs1
      rcases bif_or hc with ⟨hb, hc⟩ | ⟨_, hc⟩
      · simp only [Option.some.injEq] at hc
        subst hc
        refine .inl ⟨t, h1, h2, hb, fun q hq1 hq2 hq3 => ?_⟩
        by_cases hqt : q = t
        · rw [hqt]; exact hx
        · exact absurd hq3 (h4 q (by omega) hq2)
      · split at hc
        · rename_i cs2 hcs2
          obtain ⟨hs, hc⟩ := bif_inv hc
          simp only [Option.some.injEq] at hc
          subst hc
          have he := sameL_spec hs
          subst he
          rcases candOf_spec e h5 hcs2 with ⟨j, k1, k2, k3, k4⟩ | ⟨k1, k2⟩
          · refine .inl ⟨j, by omega, k2, k3, fun q hq1 hq2 hq3 => ?_⟩
            rcases Nat.lt_trichotomy q t with h | h | h
            · exact k4 q hq1 h hq3
            · rw [h]; exact hx
            · exact absurd hq3 (h4 q h hq2)
          · refine .inr ⟨k1, fun q hq2 hq3 => ?_⟩
            rcases Nat.lt_trichotomy q t with h | h | h
            · exact k2 q h hq3
            · rw [h]; exact hx
            · exact absurd hq3 (h4 q h hq2)
        · cases hc

theorem stillOf_spec {P : Program} {ev : Operand → Value} {o : Oper} {n0 m : Nat} {h0 : T AObj} {outs : List (Nat × T AObj)} {v : Value} {ad : Addr} {n : Nat} {cs : List Value} (h : stillOf P ev o n0 m h0 outs = some (v, ad, n, cs)) :
    ad.block < n0 ∧ LoadsTo P ev o ad n cs v ∧ candOf m ad n h0 outs = some cs := by
  unfold stillOf at h
  split at h
  · rename_i t a ho
    split at h
    · rename_i ad1 sz ha hag hsz
      obtain ⟨h1, h⟩ := bif_inv h
      rw [Nat.blt_eq] at h1
      split at h
      · rename_i cs1 hcs
        simp only [Option.some.injEq, Prod.mk.injEq] at h
        obtain ⟨rfl, rfl, rfl, rfl⟩ := h
        exact ⟨h1, ⟨t, a, ho, ha, .inl ⟨hag, hsz, rfl⟩⟩, hcs⟩
      · cases h
    · rename_i ad1 sz ha hag hsz
      obtain ⟨h1, h⟩ := bif_inv h
      rw [Nat.blt_eq] at h1
      split at h
      · rename_i v1 hcs
        simp only [Option.some.injEq, Prod.mk.injEq] at h
        obtain ⟨rfl, rfl, rfl, rfl⟩ := h
        exact ⟨h1, ⟨t, a, ho, ha, .inr ⟨hag, ⟨_, hsz⟩, rfl, rfl⟩⟩, hcs⟩
      · cases h
    · cases h
  · cases h

theorem text_congr {ops : List Oper} {tm0 : List Value} {R R' : Nat → Rec} {k : Nat} (h : ∀ j, j < k → R' j = R j) : text ops tm0 R' k = text ops tm0 R k :=
  tmSel_congr ops 0 tm0 fun j hj => h j (by simpa using hj)

noncomputable def upd (R : Nat → Rec) (i : Nat) (r : Rec) : Nat → Rec := fun j => if j = i then r else R j
theorem upd_at (R : Nat → Rec) (i : Nat) (r : Rec) : upd R i r i = r := if_pos rfl
theorem upd_ne (R : Nat → Rec) (i : Nat) (r : Rec) {j : Nat} (h : j ≠ i) : upd R i r j = R j := if_neg h
theorem upd_lt (R : Nat → Rec) (i : Nat) (r : Rec) {j : Nat} (h : j < i) : upd R i r j = R j := upd_ne R i r (by omega)

theorem text_succ {ops : List Oper} {tm0 : List Value} {R : Nat → Rec} {i : Nat} {o : Oper} (hi : ops[i]? = some o) : text ops tm0 R (i + 1) = putT (text ops tm0 R i) o.dst (R i).v := by
  apply List.ext_getElem?
  intro t
  unfold text
  have h1 := tmSel_put (R := R) (sel := fun j => decide (j < i + 1)) (i := i) (t := t) (oi := o) ops 0 tm0 (Nat.zero_le _) (by simpa using hi)
    (fun j o' hj hlt _ _ => by simp; omega)
  have e1 : (fun j => decide (j < i + 1) || decide (j = i)) = fun j => decide (j < i + 1) := by funext j; by_cases h : j = i <;> simp [h]
  have e2 : (fun j => decide (j < i + 1) && !decide (j = i)) = fun j => decide (j < i) := by
    funext j; rw [Bool.eq_iff_iff]; simp; omega
  rw [e1, e2] at h1
  exact h1

section
variable {Φ : Fx} {P : Program} {E : Env} {call : CallF} {ops : List Oper} {M : List Nat} {tm0 : List Value} {H0 : Nat → Option AObj} {n0 : Nat}

structure DInv (ops : List Oper) (tm0 : List Value) (H0 : Nat → Option AObj) (n0 i : Nat) (R : Nat → Rec) (touched : Nat) (seq : Bool) (base : T AObj) (outs : List (Nat × T AObj)) (reads : List Rdg) (deltas : List Delta) (tm : List Value) (s : St) : Prop where
  tm : tm = text ops tm0 R i
  bd : Bd s
  heap : s.heap.get = fullTo R H0 i
  ge : n0 ≤ s.next
  nx : ∀ j, j < i → 2 ≤ (R j).kind → (R j).o.next ≤ s.next
  tc : ∀ j, j < i → 2 ≤ (R j).kind → touched.testBit j = true
  sq : seq = false → (∀ j, j < i → (R j).kind ≠ 3) ∧ (∀ m p, (seen m base deltas).get p = selTo R H0 (fun j => m.testBit j) i p) ∧ (∀ d ∈ deltas, d.hi ≤ s.next) ∧
    ∀ j, j < i → (R j).kind = 2 → ∃ d ∈ deltas, d.at_ = j ∧ d.lo = Nat.min (R j).o.mw (R j).i.next ∧ d.hi = (R j).o.next ∧ d.out = (R j).o.heap ∧ d.inn = (R j).i.heap
  h0 : ∀ o, H0 o ≠ none → o < n0
  bs : base.get = H0
  ou : OutsOK R i outs
  rs : ∀ j, j < i → ∀ ad n cs, (R j).rd = some (ad, n, cs) → ∃ r ∈ reads, r.at_ = j ∧ r.ad = ad ∧ r.n = n ∧ r.cs = cs

theorem testBit_or {a i j : Nat} : (Nat.lor a (Nat.shiftLeft 1 i)).testBit j = (a.testBit j || decide (j = i)) := by
  show (a ||| (1 <<< i)).testBit j = _
  rw [Nat.testBit_or, Nat.shiftLeft_eq, Nat.one_mul, Nat.testBit_two_pow]
  congr 1
  rw [Bool.eq_iff_iff]; simp; omega

theorem land_eq {t m : Nat} (h : Nat.land t m = t) {j : Nat} (ht : t.testBit j = true) : m.testBit j = true := by
  have : (t &&& m).testBit j = t.testBit j := by show (Nat.land t m).testBit j = _; rw [h]
  rw [Nat.testBit_and, ht, Bool.true_and] at this
  exact this

/-- Nothing is touched: one place on. -/
theorem DInv.on {i touched : Nat} {R : Nat → Rec} {seq : Bool} {base : T AObj} {outs : List (Nat × T AObj)} {reads reads' : List Rdg} {deltas : List Delta} {tm : List Value} {s : St} (h : DInv ops tm0 H0 n0 i R touched seq base outs reads deltas tm s)
    {o : Oper} (hi : ops[i]? = some o) (r : Rec) (hk : r.kind < 2) (hrs : ∀ x ∈ reads, x ∈ reads') (hrd : ∀ ad n cs, r.rd = some (ad, n, cs) → ⟨i, ad, n, cs⟩ ∈ reads') : DInv ops tm0 H0 n0 (i + 1) (upd R i r) touched seq base outs reads' deltas (putT tm o.dst r.v) s := by
  have hlt : ∀ j, j < i → (upd R i r) j = R j := fun j hj => upd_lt R i r hj
  refine ⟨?_, h.bd, ?_, h.ge, fun j hj hk' => ?_, fun j hj hk' => ?_, fun hs => ⟨fun j hj => ?_, fun m p => ?_, (h.sq hs).2.2.1, fun j hj hk' => ?_⟩, h.h0, h.bs, (h.ou.congr hlt).on (by rw [upd_at]; omega), fun j hj ad n cs he => ?_⟩
  · rw [text_succ hi, upd_at, text_congr (R := R) hlt, h.tm]
  · unfold fullTo
    rw [upd_at, if_neg (by omega), if_neg (by omega), fullTo_congr i hlt]; exact h.heap
  · by_cases hji : j = i
    · rw [hji, upd_at] at hk'; omega
    · rw [upd_ne _ _ _ hji] at hk' ⊢; exact h.nx j (by omega) hk'
  · by_cases hji : j = i
    · rw [hji, upd_at] at hk'; omega
    · rw [upd_ne _ _ _ hji] at hk'; exact h.tc j (by omega) hk'
  · by_cases hji : j = i
    · rw [hji, upd_at]; omega
    · rw [upd_ne _ _ _ hji]; exact (h.sq hs).1 j (by omega)
  · unfold selTo
    rw [upd_at, if_neg (fun h => by omega), selTo_R i p hlt]
    exact (h.sq hs).2.1 m p
  · by_cases hji : j = i
    · rw [hji, upd_at] at hk'; omega
    · rw [upd_ne _ _ _ hji] at hk' ⊢; exact (h.sq hs).2.2.2 j (by omega) hk'
  · by_cases hji : j = i
    · rw [hji, upd_at] at he
      exact ⟨_, hrd ad n cs he, hji.symm, rfl, rfl, rfl⟩
    · rw [upd_ne _ _ _ hji] at he
      obtain ⟨x, hx, hx2⟩ := h.rs j (by omega) ad n cs he
      exact ⟨x, hrs x hx, hx2⟩

/-- What runDrawn leaves, told by the records of its operations. -/
def Traced (P : Program) (E : Env) (call : CallF) (ops : List Oper) (M : List Nat) (tm0 : List Value) (H0 : Nat → Option AObj) (n0 i : Nat) (R : Nat → Rec) (s : St) (tm' : List Value) (s' : St) : Prop :=
  ∃ R' : Nat → Rec, (∀ j, j < i → R' j = R j) ∧ (∀ k, i ≤ k → ∀ o, ops[k]? = some o → CR P E call ops M tm0 H0 n0 R' k o) ∧ tm' = text ops tm0 R' ops.length ∧
    s'.heap.get = fullTo R' H0 ops.length ∧ s.next ≤ s'.next ∧ s'.mw ≤ s.mw ∧ Bd s' ∧ (∀ k, i ≤ k → k < ops.length → 2 ≤ (R' k).kind → (R' k).o.next ≤ s'.next) ∧
    (∀ k, i ≤ k → k < ops.length → (R' k).kind = 3 → s'.mw ≤ (R' k).o.mw ∨ (R' k).i.next ≤ (R' k).o.mw) ∧ ∀ o, o < s'.mw → o < s.next → s'.heap.get o = s.heap.get o

/-- One record, and what comes behind it. -/
theorem Traced.cons {i : Nat} {R : Nat → Rec} {r : Rec} {s s1 s' : St} {tm' : List Value} {o : Oper} (hi : ops[i]? = some o)
    (hC : CR P E call ops M tm0 H0 n0 (upd R i r) i o) (h1 : s.next ≤ s1.next) (h2 : s1.mw ≤ s.mw)
    (h3 : 2 ≤ r.kind → r.o.next ≤ s1.next) (h4 : r.kind = 3 → s1.mw ≤ r.o.mw ∨ r.i.next ≤ r.o.mw) (h5 : ∀ o, o < s1.mw → o < s.next → s1.heap.get o = s.heap.get o)
    (h : Traced P E call ops M tm0 H0 n0 (i + 1) (upd R i r) s1 tm' s') : Traced P E call ops M tm0 H0 n0 i R s tm' s' := by
  obtain ⟨R', a1, a2, a3, a4, a5, a6, a7, a8, a9, a10⟩ := h
  have hR' : ∀ j, j < i → R' j = R j := fun j hj => by rw [a1 j (by omega)]; exact upd_lt R i r hj
  have hRi : R' i = r := by rw [a1 i (by omega)]; exact upd_at R i r
  refine ⟨R', hR', fun k hk o' ho' => ?_, a3, a4, by omega, by omega, a7, fun k hk hl hkk => ?_, fun k hk hl hkk => ?_, fun p hp1 hp2 => ?_⟩
  · rcases Nat.lt_or_ge i k with h6 | h6
    · exact a2 k (by omega) o' ho'
    · obtain rfl : k = i := by omega
      rw [hi] at ho'
      simp only [Option.some.injEq] at ho'
      subst ho'
      have e1 : ∀ j, j < k → R' j = (upd R k r) j := fun j hj => a1 j (by omega)
      have e2 : R' k = (upd R k r) k := a1 k (by omega)
      have e3 : text ops tm0 R' k = text ops tm0 (upd R k r) k := text_congr e1
      have e4 : fullTo R' H0 k = fullTo (upd R k r) H0 k := fullTo_congr k e1
      refine ⟨by rw [e2]; exact hC.le, by rw [e2, e3]; exact hC.k0, fun h7 => ?_, fun h7 => ?_, fun h7 => ?_, fun h7 => ?_⟩
      · rw [e2] at h7
        obtain ⟨b1, b2⟩ := hC.k1 h7
        rw [e2, e3]
        refine ⟨b1, b2.imp id ?_⟩
        rintro ⟨ad, n, cs, c1, c2, c3, c4⟩
        exact ⟨ad, n, cs, c1, c2, c3, c4.congr e1⟩
      · rw [e2] at h7
        obtain ⟨b1, b2, b3, b4, b5, b6⟩ := hC.k2 h7
        rw [e2, e3]
        exact ⟨b1, b2, b3, b4, b5, fun j hj hjj => by rw [e1 j hj] at hjj ⊢; exact b6 j hj hjj⟩
      · rw [e2] at h7
        obtain ⟨b1, b2, b3, b4, b5⟩ := hC.kr h7
        rw [e2]
        refine ⟨b1, b2, fun j hj => by rw [e1 j hj]; exact b3 j hj, fun p obj hp => ?_, fun j hj hjj => ?_⟩
        · rw [selTo_R (R := upd R k r) k p e1]; exact b4 p obj hp
        · rw [e1 j hj] at hjj ⊢; exact b5 j hj hjj
      · rw [e2] at h7
        obtain ⟨b1, b2, b3⟩ := hC.k3 h7
        exact ⟨fun j hj hjj => by rw [e1 j hj] at hjj; exact b1 j hj hjj, by rw [e2, e4]; exact b2, fun j hj ad n cs he => by rw [e1 j hj] at he; rw [e2]; exact b3 j hj ad n cs he⟩
  · rcases Nat.lt_or_ge i k with h6 | h6
    · exact a8 k (by omega) hl hkk
    · obtain rfl : k = i := by omega
      rw [hRi] at hkk ⊢
      have := h3 hkk; omega
  · rcases Nat.lt_or_ge i k with h6 | h6
    · exact a9 k (by omega) hl hkk
    · obtain rfl : k = i := by omega
      rw [hRi] at hkk ⊢
      rcases h4 hkk with h9 | h9
      · exact .inl (by omega)
      · exact .inr h9
  · rw [a10 p hp1 (by omega), h5 p (by omega) hp2]

theorem headN_drop (M : List Nat) (i : Nat) : headN (M.drop i) = M.getD i 0 := by
  cases hd : M.drop i with
  | nil =>
    have : M.length ≤ i := by simpa using hd
    simp [headN, List.getD, List.getElem?_eq_none this]
  | cons x r =>
    have : M[i]? = some x := by have := congrArg (fun l => l[0]?) hd; simpa using this
    simp [headN, List.getD, this]
theorem tailN_drop (M : List Nat) (i : Nat) : tailN (M.drop i) = M.drop (i + 1) := by
  have e : ∀ l : List Nat, tailN l = l.tail := fun l => by cases l <;> rfl
  rw [e, List.tail_drop]

theorem drawn_trace (hE : E.P = P) (hc : CallOK Φ P call) : ∀ (rest : List Oper) (i : Nat) (R : Nat → Rec) (touched : Nat) (seq : Bool) (base : T AObj) (outs : List (Nat × T AObj)) (reads : List Rdg) (deltas : List Delta) (tm : List Value) (s : St)
    (tm' : List Value) (s' : St), (∀ j, rest[j]? = ops[i + j]?) → runDrawn E call n0 ops rest (M.drop i) i touched seq base outs reads deltas tm s = some (tm', s') → zId P < s.next →
    DInv ops tm0 H0 n0 i R touched seq base outs reads deltas tm s → i ≤ ops.length → Traced P E call ops M tm0 H0 n0 i R s tm' s'
  | [], i, R, touched, seq, base, outs, reads, deltas, tm, s, tm', s', hj, h, hZ, I, hle => by
    have hlen : ops.length = i := by
      have := hj 0
      rw [List.getElem?_nil, Nat.add_zero] at this
      have := List.getElem?_eq_none_iff.1 this.symm
      omega
    simp only [runDrawn, Option.some.injEq, Prod.mk.injEq] at h
    obtain ⟨rfl, rfl⟩ := h
    refine ⟨R, fun _ _ => rfl, fun k hk o ho => ?_, by rw [hlen]; exact I.tm, by rw [hlen]; exact I.heap, Nat.le_refl _, Nat.le_refl _, I.bd, fun k hk hl => by omega, fun k hk hl => by omega, fun _ _ _ => rfl⟩
    have := (List.getElem?_eq_some_iff.1 ho).1
    omega
  | o :: rest, i, R, touched, seq, base, outs, reads, deltas, tm, s, tm', s', hj, h, hZ, I, hle => by
    have hi : ops[i]? = some o := by have := hj 0; simpa using this.symm
    have hlt : i < ops.length := (List.getElem?_eq_some_iff.1 hi).1
    have hj' : ∀ j, rest[j]? = ops[i + 1 + j]? := fun j => by have := hj (j + 1); rw [List.getElem?_cons_succ] at this; rw [this]; congr 1; omega
    have hm1 := headN_drop M i
    have hm2 := tailN_drop M i
    have htext : ∀ r, text ops tm0 (upd R i r) i = text ops tm0 R i := fun r => text_congr fun j hj => upd_lt R i r hj
    unfold runDrawn at h
    simp only [hm1, hm2] at h
    cases hw : wanted ops tm o with
    | false =>
      rw [hw, cond_false] at h
      have I2 := I.on hi ⟨0, undef, s, s, none⟩ (show 0 < 2 by omega) (fun _ hx => hx) (fun _ _ _ he => by cases he)
      refine Traced.cons hi ?_ (Nat.le_refl _) (Nat.le_refl _) (fun h => by simp at h) (fun h => by simp at h) (fun _ _ _ => rfl) (drawn_trace hE hc rest (i + 1) _ _ _ _ _ _ _ _ _ _ _ hj' h hZ I2 hlt)
      refine ⟨by rw [upd_at]; exact Nat.zero_le 3, fun _ => ?_, fun h => ?_, fun h => ?_, fun h => ?_, fun h => ?_⟩
      · rw [upd_at, htext, ← I.tm]; exact ⟨hw, rfl⟩
      all_goals (rw [upd_at] at h; simp at h)
    | true =>
      rw [hw, cond_true] at h
      rw [hE] at h
      split at h
      · rename_i v hp
        rw [fVal_eq] at h
        have I2 := I.on hi ⟨1, v, s, s, none⟩ (show 1 < 2 by omega) (fun _ hx => hx) (fun _ _ _ he => by cases he)
        refine Traced.cons hi ?_ (Nat.le_refl _) (Nat.le_refl _) (fun h => by simp at h) (fun h => by simp at h) (fun _ _ _ => rfl) (drawn_trace hE hc rest (i + 1) _ _ _ _ _ _ _ _ _ _ _ hj' h hZ I2 hlt)
        refine ⟨by rw [upd_at]; show 1 ≤ 3; omega, fun h => ?_, fun _ => ?_, fun h => ?_, fun h => ?_, fun h => ?_⟩
        · rw [upd_at] at h; simp at h
        · rw [upd_at, htext, ← I.tm]; exact ⟨hw, .inl hp⟩
        all_goals (rw [upd_at] at h; simp at h)
      · rename_i hpn
        split at h
        · rename_i v ad n cs hst
          obtain ⟨hs1, hs2, hs3⟩ := stillOf_spec hst
          rw [fVal_eq] at h
          have I2 := I.on hi ⟨1, v, s, s, some (ad, n, cs)⟩ (show 1 < 2 by omega) (fun _ hx => List.mem_cons_of_mem _ hx) (fun _ _ _ he => by cases he; exact List.mem_cons_self)
          refine Traced.cons hi ?_ (Nat.le_refl _) (Nat.le_refl _) (fun h => by simp at h) (fun h => by simp at h) (fun _ _ _ => rfl) (drawn_trace hE hc rest (i + 1) _ _ _ _ _ _ _ _ _ _ _ hj' h hZ I2 hlt)
          refine ⟨by rw [upd_at]; show 1 ≤ 3; omega, fun h => ?_, fun _ => ?_, fun h => ?_, fun h => ?_, fun h => ?_⟩
          · rw [upd_at] at h; simp at h
          · rw [upd_at, htext, ← I.tm]; exact ⟨hw, .inr ⟨ad, n, cs, rfl, hs1, hs2, (candOf_spec I.bs I.ou hs3).congr fun j hj => upd_lt _ _ _ hj⟩⟩
          all_goals (rw [upd_at] at h; simp at h)
        -- it touches memory
        obtain ⟨hnot, h⟩ := bif_not h
        generalize hall : Nat.beq (Nat.land touched (M.getD i 0)) touched = all at h hnot
        have hbits : all = true → ∀ j, j < i → 2 ≤ (R j).kind → (M.getD i 0).testBit j = true := fun ha j hj hk => land_eq (Nat.beq_eq.mp (hall.trans ha)) (I.tc j hj hk)
        -- what it sees
        have hseq : seq = false ∨ all = true := by
          cases seq with
          | false => exact .inl rfl
          | true => cases all with
            | true => exact .inr rfl
            | false => simp at hnot
        generalize hhh : (bif all then s.heap else seen (M.getD i 0) base deltas) = hh at h
        have hview : seq = false → ∀ p obj, hh.get p = some obj → selTo R H0 (fun j => (M.getD i 0).testBit j) i p = some obj := by
          intro hs p obj hp
          obtain ⟨q1, q2, q3, q4⟩ := I.sq hs
          cases ha : all with
          | true =>
            rw [ha, cond_true] at hhh
            rw [← hhh, I.heap, fullTo_sel i p q1] at hp
            rw [← hp]
            exact selTo_congr i p fun j hj hj2 _ => hbits ha j hj (by omega)
          | false =>
            rw [ha, cond_false] at hhh
            rw [← hhh, q2] at hp
            exact hp
        have hsee : ∀ p, hh.get p ≠ none → p < s.next := by
          intro p hp
          cases ha : all with
          | true => rw [ha, cond_true] at hhh; rw [← hhh] at hp; exact I.bd.2 p hp
          | false =>
            have hs : seq = false := by rcases hseq with h | h <;> simp_all
            obtain ⟨obj, hob⟩ := Option.ne_none_iff_exists'.1 hp
            have hv := hview hs p obj hob
            rcases selTo_of (R := R) (H0 := H0) (sel := fun j => (M.getD i 0).testBit j) i p with h8 | ⟨j, h8, h9, _, h10⟩
            · rw [hv] at h8
              have := I.h0 p (by rw [← h8]; simp)
              have := I.ge
              omega
            · have := I.nx j h8 (by omega)
              have := h10.2.1
              omega
        have hbd2 : Bd ⟨s.next, s.next, hh⟩ := ⟨I.bd.1, hsee⟩
        split at h
        · rename_i v s1 hd
          rw [fVal_eq] at h
          obtain ⟨m1, m2, m3⟩ := doOp_mono hc hd hZ
          obtain ⟨m4, m5⟩ := m3 hbd2
          dsimp only at m1 m2 m5
          rcases bif_or h with ⟨hgood, h⟩ | ⟨_, h4⟩
          · have hs : seq = false := by cases seq with | false => rfl | true => cases hgood
            rw [hs, cond_false] at hgood
            obtain ⟨g1, g2⟩ := bif_true hgood
            obtain ⟨g3, g4⟩ := bif_true g2
            rw [Nat.ble_eq] at g1
            rw [allL_eq] at g4
            obtain ⟨q1, q2, q3, q4⟩ := I.sq hs
            have hkept : ∀ p, s1.mw ≤ p → p < s.next → (hh.get p = none ↔ s1.heap.get p = none) := fun p h1 h2 =>
              kept_spec _ _ g3 p (by rw [lo_le]; exact .inl h1) (by have : Nat.min s1.mw s.next ≤ p := lo_le.2 (.inl h1); omega)
            have hr : own ⟨2, v, ⟨s.next, s.next, hh⟩, s1, none⟩ = fun p => (s1.mw ≤ p ∨ s.next ≤ p) ∧ p < s1.next ∧ s1.heap.get p ≠ none := rfl
            -- memory behind it
            have hget : ∀ p, (bif all then s1.heap else merge (Nat.min s1.mw s.next) s1.next s1.heap (s1.next - Nat.min s1.mw s.next) s.heap).get p = ov ⟨2, v, ⟨s.next, s.next, hh⟩, s1, none⟩ p (s.heap.get p) := fun p => by
              cases ha : all with
              | true =>
                rw [ha, cond_true] at hhh
                rw [cond_true]
                by_cases ho : own ⟨2, v, ⟨s.next, s.next, hh⟩, s1, none⟩ p
                · rw [ov_own ho]
                · rw [ov_not ho]
                  rw [hr] at ho
                  by_cases hlo : s1.mw ≤ p ∨ s.next ≤ p
                  · have e1 : s1.heap.get p = none := Classical.byContradiction fun hne => by
                      have := m4.2 p hne
                      exact ho ⟨hlo, this, hne⟩
                    rw [e1]
                    rcases Nat.lt_or_ge p s.next with h6 | h6
                    · have h7 : s1.mw ≤ p := by omega
                      rw [hhh, (hkept p h7 h6).2 e1]
                    · exact (Classical.byContradiction fun hne => by have := I.bd.2 p (fun e => hne e.symm); omega)
                  · rw [m5 p (by omega) (by omega), hhh]
              | false =>
                rw [cond_false, merge_get _ _ m4.1 _ _ _ _ (Nat.le_refl _)]
                unfold ov
                simp only [lo_le]
            refine Traced.cons (r := ⟨2, v, ⟨s.next, s.next, hh⟩, s1, none⟩) (s1 := ⟨s1.next, Nat.min s.mw s1.mw, bif all then s1.heap else merge (Nat.min s1.mw s.next) s1.next s1.heap (s1.next - Nat.min s1.mw s.next) s.heap⟩) hi ?_ m1 (Nat.min_le_left _ _) (fun _ => Nat.le_refl _) (fun h7 => by cases h7) (fun p hp1 hp2 => ?_)
              (drawn_trace hE hc rest (i + 1) _ _ _ _ _ _ _ _ _ _ _ hj' h (by dsimp only; omega) ?_ hlt)
            · refine ⟨by rw [upd_at]; show 2 ≤ 3; omega, fun h7 => ?_, fun h7 => ?_, fun _ => ?_, fun h7 => ?_, fun h7 => ?_⟩
              · rw [upd_at] at h7; cases h7
              · rw [upd_at] at h7; cases h7
              · rw [upd_at, htext, ← I.tm]
                exact ⟨hw, hd, rfl, hbd2, I.ge, fun j hj hk => by rw [upd_lt _ _ _ hj] at hk ⊢; exact I.nx j hj hk⟩
              · rw [upd_at]
                refine ⟨g1, hkept, fun j hj => by rw [upd_lt _ _ _ hj]; exact q1 j hj, fun p obj hp => ?_, fun j hj hj2 => ?_⟩
                · rw [selTo_R (R := R) i p fun j hj => upd_lt _ _ _ hj]
                  exact hview hs p obj hp
                · rw [upd_lt _ _ _ hj] at hj2 ⊢
                  obtain ⟨d, d1, d2, d3, d4, d5, d6⟩ := q4 j hj hj2
                  have hp2 := g4 d d1
                  unfold pairOK2 at hp2
                  cases hb : Nat.testBit (M.getD i 0) d.at_ with
                  | true => left; rw [← d2]; exact hb
                  | false =>
                    rw [hb, cond_false] at hp2
                    obtain ⟨p1, p2⟩ := bif_true hp2
                    refine .inr ⟨fun p hp => ?_, fun p hpn hp => ?_⟩
                    · have h9 : d.lo ≤ p := by rw [d3, lo_le]; exact hp.1
                      exact disj_spec _ _ p1 p h9 (by have := hp.2.1; omega) (by rw [d5]; exact hp.2.2)
                    · have h9 : Nat.min s1.mw s.next ≤ p := lo_le.2 hp.1
                      rw [← d6]
                      exact disj_spec _ _ p2 p h9 (by dsimp only at hpn; omega) hp.2.2
              · rw [upd_at] at h7; cases h7
            · dsimp only at hp1 ⊢
              rw [hget, ov_not]
              rw [hr]
              rintro ⟨h8, _⟩
              have : p < s1.mw := Nat.lt_of_lt_of_le hp1 (Nat.min_le_right _ _)
              omega
            · refine ⟨?_, ⟨m4.1, fun p hp => ?_⟩, ?_, by have := I.ge; dsimp only; omega, fun j hj hk => ?_, fun j hj hk => ?_, fun _ => ⟨fun j hj hk => ?_, fun m p => ?_, fun d hdm => ?_, fun j hj hk => ?_⟩, I.h0, I.bs, (I.ou.congr fun j hj => upd_lt _ _ _ hj).on (by rw [upd_at]; exact fun e => by cases e), fun j hj ad n cs he => ?_⟩
              · rw [text_succ hi, upd_at, htext, I.tm]
              · dsimp only at hp ⊢
                rw [hget] at hp
                by_cases ho : own ⟨2, v, ⟨s.next, s.next, hh⟩, s1, none⟩ p
                · exact ho.2.1
                · rw [ov_not ho] at hp
                  have := I.bd.2 p hp; omega
              · dsimp only
                unfold fullTo
                rw [upd_at, fullTo_congr (R := R) i fun j hj => upd_lt _ _ _ hj, ← I.heap, if_pos rfl]
                funext p
                exact hget p
              · by_cases hji : j = i
                · rw [hji, upd_at]; exact Nat.le_refl _
                · rw [upd_ne _ _ _ hji] at hk ⊢; have := I.nx j (by omega) hk; dsimp only; omega
              · rw [testBit_or]
                by_cases hji : j = i
                · simp [hji]
                · rw [upd_ne _ _ _ hji] at hk; rw [I.tc j (by omega) hk]; rfl
              · by_cases hji : j = i
                · rw [hji, upd_at] at hk; cases hk
                · rw [upd_ne _ _ _ hji] at hk; exact q1 j (by omega) hk
              · show (putDelta m _ (seen m base deltas)).get p = _
                rw [putDelta_get m4.1]
                unfold selTo
                rw [upd_at, selTo_R (R := R) i p fun j hj => upd_lt _ _ _ hj, ← q2]
                unfold ov
                simp only [lo_le, true_and]
              · rcases List.mem_cons.1 hdm with rfl | hdm
                · exact Nat.le_refl _
                · have := q3 d hdm; dsimp only; omega
              · by_cases hji : j = i
                · refine ⟨_, List.mem_cons_self, ?_⟩
                  rw [hji, upd_at]
                  exact ⟨rfl, rfl, rfl, rfl, rfl⟩
                · rw [upd_ne _ _ _ hji] at hk ⊢
                  obtain ⟨d, d1, d2⟩ := q4 j (by omega) hk
                  exact ⟨d, List.mem_cons_of_mem _ d1, d2⟩
              · by_cases hji : j = i
                · rw [hji, upd_at] at he; cases he
                · rw [upd_ne _ _ _ hji] at he; exact I.rs j (by omega) ad n cs he
          · obtain ⟨ha, h4⟩ := bif_inv h4
            obtain ⟨ha, hrd⟩ := bif_true ha
            rw [ha, cond_true] at hhh
            subst hhh
            have hbits := hbits ha
            refine Traced.cons (r := ⟨3, v, ⟨s.next, s.next, s.heap⟩, s1, none⟩) (s1 := ⟨s1.next, Nat.min s.mw s1.mw, s1.heap⟩) hi ?_ m1 (Nat.min_le_left _ _) (fun _ => Nat.le_refl _) (fun _ => .inl (Nat.min_le_right _ _)) (fun p hp1 hp2 => m5 p (Nat.lt_of_lt_of_le hp1 (Nat.min_le_right _ _)) hp2)
              (drawn_trace hE hc rest (i + 1) _ _ _ _ _ _ _ _ _ _ _ hj' h4 (by dsimp only; omega) ?_ hlt)
            · refine ⟨by rw [upd_at]; exact Nat.le_refl 3, fun h7 => ?_, fun h7 => ?_, fun _ => ?_, fun h7 => ?_, fun h7 => ?_⟩
              · rw [upd_at] at h7; cases h7
              · rw [upd_at] at h7; cases h7
              · rw [upd_at, htext, ← I.tm]
                exact ⟨hw, hd, rfl, hbd2, I.ge, fun j hj hk => by rw [upd_lt _ _ _ hj] at hk ⊢; exact I.nx j hj hk⟩
              · rw [upd_at] at h7; cases h7
              · refine ⟨fun j hj hk => by rw [upd_lt _ _ _ hj] at hk; exact hbits j hj hk, ?_, fun j hj ad n cs he => ?_⟩
                · rw [upd_at, fullTo_congr (R := R) i fun j hj => upd_lt _ _ _ hj]
                  exact I.heap
                · rw [upd_lt _ _ _ hj] at he
                  rw [upd_at]
                  obtain ⟨r, r1, r2, r3, r4, r5⟩ := I.rs j hj ad n cs he
                  rw [allL_eq] at hrd
                  have hr := hrd r r1
                  unfold readOK at hr
                  rw [r2, r3, r4, r5] at hr
                  rcases bif_or hr with ⟨hb, _⟩ | ⟨_, hr⟩
                  · exact .inl hb
                  · split at hr
                    · rename_i cs2 hcs2
                      right
                      rw [← cellsAt_F]
                      exact hcs2.trans (congrArg some (sameL_spec hr))
                    · cases hr
            · refine ⟨?_, m4, ?_, by have := I.ge; dsimp only; omega, fun j hj hk => ?_, fun j hj hk => ?_, fun hs => (by cases hs), I.h0, I.bs, ⟨Nat.lt_succ_self i, by rw [upd_at], by rw [upd_at], fun j h1 h2 => by omega, I.ou.congr fun j hj => upd_lt _ _ _ hj⟩, fun j hj ad n cs he => ?_⟩
              · rw [text_succ hi, upd_at, htext, I.tm]
              · dsimp only
                unfold fullTo
                rw [upd_at]
                simp
              · by_cases hji : j = i
                · rw [hji, upd_at]; exact Nat.le_refl _
                · rw [upd_ne _ _ _ hji] at hk ⊢; have := I.nx j (by omega) hk; dsimp only; omega
              · rw [testBit_or]
                by_cases hji : j = i
                · simp [hji]
                · rw [upd_ne _ _ _ hji] at hk; rw [I.tc j (by omega) hk]; rfl
              · by_cases hji : j = i
                · rw [hji, upd_at] at he; cases he
                · rw [upd_ne _ _ _ hji] at he; exact I.rs j (by omega) ad n cs he
        · cases h
end
end Go.Proofs.Ytlkjdclhgmkndaa.Canon
