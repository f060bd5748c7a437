/-
  A region that draws its order: every order leaves the same.
  A region that draws its order: whatever order is drawn.
  A region that draws its order.
  Code and calls.
  Calls; what is called with numbers alone.
  What the runner answers, said of the model.
-/
import Derived.Test.YtnfjdoeemnhkbaaCanonP
namespace Go.Proofs.Ytnfjdoeemnhkbaa.Canon
set_option linter.unusedVariables false
set_option linter.unusedSimpArgs false
open Go.RowKit

/-! Masks and the look at pairs. -/
def em (acc : List Nat) (o : Oper) : Nat :=
  o.after.toList.foldl (fun m e => bif Region.binds .any e then Nat.lor m (Nat.lor (Nat.shiftLeft 1 e.on) (match nth acc e.on with | some x => x | none => 0)) else m) 0

theorem em_bits (acc : List Nat) (k : Nat) : ∀ (l : List Edge) (m : Nat),
    (l.foldl (fun m e => bif Region.binds .any e then Nat.lor m (Nat.lor (Nat.shiftLeft 1 e.on) (match nth acc e.on with | some x => x | none => 0)) else m) m).testBit k = true →
    m.testBit k = true ∨ ∃ e ∈ l, Region.binds .any e = true ∧ (e.on = k ∨ ∃ x, acc[e.on]? = some x ∧ x.testBit k = true)
  | [], m, h => .inl h
  | e :: l, m, h => by
    rw [List.foldl_cons] at h
    rcases em_bits acc k l _ h with h1 | ⟨e', h1, h2⟩
    · cases hb : Region.binds .any e with
      | false => rw [hb, cond_false] at h1; exact .inl h1
      | true =>
        rw [hb, cond_true] at h1
        have h2 : (m ||| ((1 <<< e.on) ||| (match nth acc e.on with | some x => x | none => 0))).testBit k = true := h1
        rw [Nat.testBit_or, Nat.testBit_or, Bool.or_eq_true, Bool.or_eq_true] at h2
        rcases h2 with h2 | h2 | h2
        · exact .inl h2
        · rw [Nat.shiftLeft_eq, Nat.one_mul, Nat.testBit_two_pow] at h2
          exact .inr ⟨e, List.mem_cons_self, hb, .inl (by simpa using h2)⟩
        · rw [nth_eq] at h2
          split at h2
          · rename_i x hx
            exact .inr ⟨e, List.mem_cons_self, hb, .inr ⟨x, hx, h2⟩⟩
          · simp at h2
    · exact .inr ⟨e', List.mem_cons_of_mem _ h1, h2⟩

theorem masks_spec : ∀ (rest : List Oper) (acc : List Nat), (masks rest acc).take acc.length = acc ∧ (masks rest acc).length = acc.length + rest.length ∧
    ∀ j o, rest[j]? = some o → (masks rest acc)[acc.length + j]? = some (em ((masks rest acc).take (acc.length + j)) o)
  | [], acc => ⟨by simp [masks], by simp [masks], fun j o h => by simp at h⟩
  | o :: rest, acc => by
    have e : masks (o :: rest) acc = masks rest (acc ++ [em acc o]) := by rw [← app_eq]; rfl
    obtain ⟨h1, h2, h3⟩ := masks_spec rest (acc ++ [em acc o])
    rw [List.length_append, List.length_singleton] at h1 h2 h3
    rw [e]
    have h4 : (masks rest (acc ++ [em acc o])).take acc.length = acc := by
      have := congrArg (List.take acc.length) h1
      rw [List.take_take, Nat.min_eq_left (by omega)] at this
      rw [this]; simp
    refine ⟨h4, by rw [h2, List.length_cons]; omega, fun j o' hj => ?_⟩
    cases j with
    | zero =>
      simp only [List.getElem?_cons_zero, Option.some.injEq] at hj
      subst hj
      rw [Nat.add_zero, h4]
      have := congrArg (fun l => l[acc.length]?) h1
      simp only [List.getElem?_take] at this
      rw [if_pos (by omega)] at this
      rw [this]; simp
    | succ j =>
      have := h3 j o' (by simpa using hj)
      rw [show acc.length + (j + 1) = acc.length + 1 + j by omega]
      exact this

theorem mask_bits {ops : List Oper} {i : Nat} {o : Oper} (hi : ops[i]? = some o) {k : Nat} (h : ((masks ops []).getD i 0).testBit k = true) :
    ∃ e ∈ o.after.toList, Region.binds .any e = true ∧ (e.on = k ∨ ((masks ops []).getD e.on 0).testBit k = true) := by
  obtain ⟨_, _, h3⟩ := masks_spec ops []
  have h4 := h3 i o hi
  rw [List.length_nil, Nat.zero_add] at h4
  rw [List.getD, h4] at h
  simp only [Option.getD_some] at h
  rcases em_bits _ k _ _ h with h5 | ⟨e, h5, h6, h7⟩
  · simp at h5
  · refine ⟨e, h5, h6, h7.imp id fun ⟨x, h8, h9⟩ => ?_⟩
    rw [List.getElem?_take] at h8
    split at h8
    · rw [List.getD, h8]; exact h9
    · cases h8

theorem pairOK_spec {ops : Array Oper} {oj : Oper} {m : Nat} : ∀ (l : List Oper) (i : Nat), pairOK ops oj m l i = true → ∀ k o, l[k]? = some o → m.testBit (i + k) = true ∨ Oper.apart ops o oj = true
  | [], i, h, k, o, hk => by simp at hk
  | x :: l, i, h, k, o, hk => by
    unfold pairOK at h
    have next : pairOK ops oj m l (i + 1) = true → ∀ k', l[k']? = some o → m.testBit (i + (k' + 1)) = true ∨ Oper.apart ops o oj = true := fun hp k' hk' => by
      have := pairOK_spec l (i + 1) hp k' o hk'
      rwa [show i + 1 + k' = i + (k' + 1) by omega] at this
    cases hb : m.testBit i with
    | true =>
      rw [hb, cond_true] at h
      cases k with
      | zero => exact .inl (by rw [Nat.add_zero]; exact hb)
      | succ k => exact next h k (by simpa using hk)
    | false =>
      rw [hb, cond_false] at h
      cases ha : Oper.apart ops x oj with
      | false => rw [ha] at h; cases h
      | true =>
        rw [ha, cond_true] at h
        cases k with
        | zero => simp only [List.getElem?_cons_zero, Option.some.injEq] at hk; subst hk; exact .inr ha
        | succ k => exact next h k (by simpa using hk)

theorem edgesOK_spec {j : Nat} : ∀ (l : List Edge), edgesOK j l = true → ∀ e ∈ l, Region.binds .any e = true → e.on < j
  | [], h, e, he, _ => by cases he
  | x :: l, h, e, he, hb => by
    unfold edgesOK at h
    rcases List.mem_cons.1 he with rfl | he
    · rw [hb, cond_true] at h
      cases hl : Nat.blt e.on j with
      | false => rw [hl] at h; cases h
      | true => rwa [Nat.blt_eq] at hl
    · cases hx : Region.binds .any x with
      | false => rw [hx, cond_false] at h; exact edgesOK_spec l h e he hb
      | true =>
        rw [hx, cond_true] at h
        cases hl : Nat.blt x.on j with
        | false => rw [hl] at h; cases h
        | true => rw [hl, cond_true] at h; exact edgesOK_spec l h e he hb

theorem drawnOK_spec {ops : Array Oper} {M : List Nat} : ∀ (rest : List Oper) (j : Nat), (∀ k, rest[k]? = ops.toList[j + k]?) → j ≤ ops.toList.length → drawnOK ops (ops.toList.take j) rest (M.drop j) j = true →
    ∀ k, j ≤ k → ∀ o, ops.toList[k]? = some o → (∀ e ∈ o.after.toList, Region.binds .any e = true → e.on < k) ∧ ∀ i oi, i < k → ops.toList[i]? = some oi → (M.getD k 0).testBit i = true ∨ Oper.apart ops oi o = true
  | [], j, hj, hle, h, k, hk, o, ho => by
    have := hj (k - j)
    rw [show j + (k - j) = k by omega, ho] at this
    simp at this
  | oj :: rest, j, hj, hle, h, k, hk, o, ho => by
    unfold drawnOK at h
    cases he : edgesOK j oj.after.toList with
    | false => rw [he] at h; cases h
    | true =>
      rw [he, cond_true] at h
      cases hp : pairOK ops oj (headN (M.drop j)) (ops.toList.take j) 0 with
      | false => rw [hp] at h; cases h
      | true =>
        rw [hp, cond_true] at h
        have h0 : ops.toList[j]? = some oj := by have := hj 0; simpa using this.symm
        have hlt : j < ops.toList.length := (List.getElem?_eq_some_iff.1 h0).1
        rcases Nat.lt_or_ge j k with h1 | h1
        · refine drawnOK_spec rest (j + 1) (fun q => ?_) hlt ?_ k h1 o ho
          · have := hj (q + 1)
            rw [List.getElem?_cons_succ] at this
            rw [this]; congr 1; omega
          · rw [tailN_drop, app_eq] at h
            have e : ops.toList.take (j + 1) = ops.toList.take j ++ [oj] := by
              rw [List.take_add_one, h0]; rfl
            rw [e]; exact h
        · obtain rfl : k = j := by omega
          rw [h0] at ho
          simp only [Option.some.injEq] at ho
          subst ho
          refine ⟨edgesOK_spec _ he, fun i oi hi hoi => ?_⟩
          have := pairOK_spec _ _ hp i oi (by rw [List.getElem?_take, if_pos hi]; exact hoi)
          rwa [headN_drop, Nat.zero_add] at this
end Go.Proofs.Ytnfjdoeemnhkbaa.Canon

namespace Go.Proofs.Ytnfjdoeemnhkbaa.Canon
set_option linter.unusedVariables false
set_option linter.unusedSimpArgs false
open Go.RowKit

/-- The relation of memory, for a memory told as a function. -/
structure HRF (Φ : Fx) (P : Program) (c : Ctx) (D : Nat → Prop) (F : Nat → Option AObj) (w : World) : Prop where
  dom : ∀ o, F o ≠ none → D o ∧ o ≠ zId P ∧ o < 4000000
  rows : ∀ o obj, F o = some obj → Row (zId P) P c D o obj w
  inj : ∀ o o', F o ≠ none → F o' ≠ none → c.ρ o = c.ρ o' → o = o'
  bel : Below Φ.w0.heap.size Φ.w0 w
  up : ∀ o, F o ≠ none → Φ.w0.heap.size ≤ c.ρ o
  nm : ∀ o, 5000000 ≤ o → c.x o = Φ.nm o
  fz : ∀ b o, c.fz b = some o → w.heap[b]? = some o
  fr : ∀ o, F o ≠ none → c.fz (c.ρ o) = none
  kn : ∀ o, c.nv o ≠ [] → Φ.kn o (c.nv o) c.fz

theorem HR.toF {Φ : Fx} {P : Program} {c : Ctx} {D : Nat → Prop} {H : T AObj} {w : World} (h : HR Φ P c D H w) : HRF Φ P c D H.get w := ⟨h.dom, h.rows, h.inj, h.bel, h.up, h.nm, h.fz, h.fr, h.kn⟩
theorem HRF.toT {Φ : Fx} {P : Program} {c : Ctx} {D : Nat → Prop} {H : T AObj} {w : World} (h : HRF Φ P c D H.get w) : HR Φ P c D H w := ⟨h.dom, h.rows, h.inj, h.bel, h.up, h.nm, h.fz, h.fr, h.kn⟩
theorem HRF.sub {Φ : Fx} {P : Program} {c : Ctx} {D : Nat → Prop} {F : Nat → Option AObj} {H : T AObj} {w : World} (h : HRF Φ P c D F w) (hs : ∀ o obj, H.get o = some obj → F o = some obj) : HR Φ P c D H w := by
  have hn : ∀ o, H.get o ≠ none → F o ≠ none := fun o ho => by
    obtain ⟨obj, hob⟩ := Option.ne_none_iff_exists'.1 ho
    rw [hs o obj hob]; simp
  exact ⟨fun o ho => h.dom o (hn o ho), fun o obj ho => h.rows o obj (hs o obj ho), fun o o' h1 h2 he => h.inj o o' (hn o h1) (hn o' h2) he, h.bel, fun o ho => h.up o (hn o ho), h.nm, h.fz, fun o ho => h.fr o (hn o ho), h.kn⟩

theorem Row.keep {Z : Nat} {P : Program} {c c' : Ctx} {D D' : Nat → Prop} {o : Nat} {obj : AObj} {w w' : World} (h : Row Z P c D o obj w) (hc : ∀ p, D p → c'.ρ p = c.ρ p ∧ c'.x p = c.x p ∧ c'.nv p = c.nv p) (hD : ∀ p, D p → D' p)
    (ho : D o) (hw : w'.heap[c.ρ o]? = w.heap[c.ρ o]?) : Row Z P c' D' o obj w' := by
  obtain ⟨cs, fr, h1, h2, h3, h4⟩ := h.row
  exact ⟨fun he => by rw [(hc o ho).2.1]; exact h.ex he, cs, fr, by rw [(hc o ho).1, hw]; exact h1, h2, by rw [(hc o ho).2.1]; exact h3, h4.mono hc hD⟩

/-- A part of memory is seen, some of it written, and new rows are made: the rest stays. -/
theorem HRF.read {Φ : Fx} {P : Program} {c c' : Ctx} {D : Nat → Prop} {F : Nat → Option AObj} {w w' : World} {r : Rec} (h : HRF Φ P c D F w) (hsub : ∀ o obj, r.i.heap.get o = some obj → F o = some obj)
    (hst : Step Φ P c c' D r.i.heap r.o.heap r.i.next r.o.next r.o.mw w w') (hbd : Bd r.i) (hkept : ∀ p, r.o.mw ≤ p → p < r.i.next → (r.i.heap.get p = none ↔ r.o.heap.get p = none)) (hf : ∀ o, r.i.next ≤ o → o < r.o.next → ¬D o) :
    (∀ b, b < w.heap.size → (¬∃ p, r.o.mw ≤ p ∧ F p ≠ none ∧ c.ρ p = b) → w'.heap[b]? = w.heap[b]?) ∧
    HRF Φ P c' (Dm D r.i.next r.o.next) (fun p => ov r p (F p)) w' ∧
    ∀ o, r.i.next ≤ o → o < r.o.next → r.o.heap.get o ≠ none → w.heap.size ≤ c'.ρ o := by
  have hs : ∀ p, r.i.heap.get p ≠ none → F p ≠ none := fun p hp => by
    obtain ⟨obj, hob⟩ := Option.ne_none_iff_exists'.1 hp
    rw [hsub p obj hob]; simp
  have hfar : ∀ b, b < w.heap.size → (¬∃ p, r.o.mw ≤ p ∧ r.i.heap.get p ≠ none ∧ c.ρ p = b) → w'.heap[b]? = w.heap[b]? := fun b hb hno => hst.far b hb hno
  have hag : ∀ p, D p → c'.ρ p = c.ρ p ∧ c'.x p = c.x p ∧ c'.nv p = c.nv p := fun p hp => hst.agree p fun ⟨h1, h2⟩ => hf p h1 h2 hp
  have hDD : ∀ p, D p → Dm D r.i.next r.o.next p := fun p hp => .inl hp
  have hnew : ∀ o, r.i.next ≤ o → o < r.o.next → r.o.heap.get o ≠ none → w.heap.size ≤ c'.ρ o := fun o h1 h2 h3 => by
    rcases hst.live o h3 with h4 | ⟨_, _, h5 | ⟨p, h6, h7, h8⟩⟩
    · have := hbd.2 o h4; omega
    · exact h5
    · have hp := hbd.2 p h7
      have h9 : r.o.heap.get p ≠ none := fun e => h7 ((hkept p h6 hp).2 e)
      have : c'.ρ p = c'.ρ o := by rw [(hst.agree p (by omega)).1]; exact h8
      have := hst.hr.inj p o h9 h3 this
      omega
  have hnot : ∀ p, ¬own r p → F p ≠ none → w'.heap[c.ρ p]? = w.heap[c.ρ p]? := fun p ho hp => by
    obtain ⟨obj, hob⟩ := Option.ne_none_iff_exists'.1 hp
    refine hfar _ (h.rows p obj hob).lt ?_
    rintro ⟨q, h1, h2, h3⟩
    have := h.inj q p (hs q h2) hp h3
    subst this
    have hq := hbd.2 q h2
    have := hst.le
    exact ho ⟨.inl h1, by omega, fun e => h2 ((hkept q h1 hq).2 e)⟩
  have old : ∀ q, F q ≠ none → c'.ρ q = c.ρ q ∧ c.ρ q < w.heap.size := fun q hq => by
    obtain ⟨obj, hob⟩ := Option.ne_none_iff_exists'.1 hq
    exact ⟨(hag q (h.dom q hq).1).1, (h.rows q obj hob).lt⟩
  have mixed : ∀ p q, own r p → F q ≠ none → c'.ρ p = c'.ρ q → p = q := fun p q ho hq he => by
    obtain ⟨o1, o2⟩ := old q hq
    rcases Nat.lt_or_ge p r.i.next with h1 | h1
    · have h2 : r.o.mw ≤ p := by have := ho.1; omega
      have h3 : F p ≠ none := hs p fun e => ho.2.2 ((hkept p h2 h1).1 e)
      refine h.inj p q h3 hq ?_
      rw [← (old p h3).1, he, o1]
    · have := hnew p h1 ho.2.1 ho.2.2
      omega
  refine ⟨fun b hb hno => hfar b hb fun ⟨p, h1, h2, h3⟩ => hno ⟨p, h1, hs p h2, h3⟩, ⟨fun o ho => ?_, fun o obj ho => ?_, fun o o' h1 h2 he => ?_, hst.hr.bel, fun o ho => ?_, hst.hr.nm, hst.hr.fz, fun o ho => (by
    by_cases hw : own r o
    · exact hst.hr.fr o hw.2.2
    · rw [ov_not hw] at ho
      rw [(old o ho).1, hst.low _ (old o ho).2]; exact h.fr o ho), hst.hr.kn⟩, hnew⟩
  rotate_right 1
  · by_cases hw : own r o
    · exact hst.hr.up o hw.2.2
    · rw [ov_not hw] at ho
      rw [(old o ho).1]; exact h.up o ho
  · by_cases hw : own r o
    · exact hst.hr.dom o hw.2.2
    · rw [ov_not hw] at ho
      have := h.dom o ho; exact ⟨.inl this.1, this.2⟩
  · by_cases hw : own r o
    · rw [ov_own hw] at ho; exact hst.hr.rows o obj ho
    · rw [ov_not hw] at ho
      have hn : F o ≠ none := by rw [ho]; simp
      exact (h.rows o obj ho).keep hag hDD (h.dom o hn).1 (hnot o hw hn)
  · by_cases hw : own r o
    · by_cases hw' : own r o'
      · exact hst.hr.inj o o' hw.2.2 hw'.2.2 he
      · rw [ov_not hw'] at h2; exact mixed o o' hw h2 he
    · rw [ov_not hw] at h1
      by_cases hw' : own r o'
      · exact (mixed o' o hw' h1 he.symm).symm
      · rw [ov_not hw'] at h2
        rw [(old o h1).1, (old o' h2).1] at he
        exact h.inj o o' h1 h2 he

section
variable {Φ : Fx} {P : Program} {E : Env} {call : CallF} {ops : Array Oper} {tm0 : List Value}

/-- In the middle of some order: 'ex' tells which operations have come up: memory. -/
structure OH (Φ : Fx) (P : Program) (ops : Array Oper) (R : Nat → Rec) (c0 : Ctx) (D0 : Nat → Prop) (H0 : Nat → Option AObj) (w0 : World) (n0 n1 m : Nat)
    (ex : Nat → Bool) (c : Ctx) (D : Nat → Prop) (F : Nat → Option AObj) (w : World) : Prop where
  hr : HRF Φ P c D F w
  form : ((∀ j, ex j = true → j < ops.toList.length → (R j).kind ≠ 3) ∧ ∀ p, F p = selTo R H0 ex ops.toList.length p) ∨
    ∃ t, t < ops.toList.length ∧ (R t).kind = 3 ∧ F = (R t).o.heap.get ∧ ∀ j, j < ops.toList.length → 2 ≤ (R j).kind → (ex j = true ↔ j ≤ t)
  fresh : ∀ k, k < ops.toList.length → ex k = false → 2 ≤ (R k).kind → ∀ o, (R k).i.next ≤ o → o < (R k).o.next → ¬D o
  agree : ∀ o, ¬(n0 ≤ o ∧ o < n1) → c.ρ o = c0.ρ o ∧ c.x o = c0.x o ∧ c.nv o = c0.nv o
  low : ∀ b, b < w0.heap.size → c.fz b = c0.fz b
  dom1 : ∀ o, D o → Dm D0 n0 n1 o
  dom2 : ∀ o, D0 o → D o
  os : w.os = w0.os
  tape : w.tape = w0.tape
  output : w.output = w0.output
  size : w0.heap.size ≤ w.heap.size
  far : ∀ b, b < w0.heap.size → (¬∃ o, m ≤ o ∧ H0 o ≠ none ∧ c0.ρ o = b) → w.heap[b]? = w0.heap[b]?
  live : ∀ o, F o ≠ none → H0 o ≠ none ∨ (n0 ≤ o ∧ o < n1 ∧ (w0.heap.size ≤ c.ρ o ∨ ∃ p, m ≤ p ∧ H0 p ≠ none ∧ c0.ρ p = c.ρ o))

/-- What is asked of the trace. -/
structure TI (P : Program) (E : Env) (call : CallF) (ops : Array Oper) (tm0 : List Value) (R : Nat → Rec) (D0 : Nat → Prop) (H0 : Nat → Option AObj) (n0 n1 m : Nat) : Prop where
  cr : ∀ k o, ops.toList[k]? = some o → CR P E call ops.toList (masks ops.toList []) tm0 H0 n0 R k o
  ok : opsOK (zId P) ops.toList = true
  pr : ∀ k o, ops.toList[k]? = some o → (∀ e ∈ o.after.toList, Region.binds .any e = true → e.on < k) ∧ ∀ i oi, i < k → ops.toList[i]? = some oi → ((masks ops.toList []).getD k 0).testBit i = true ∨ Oper.apart ops oi o = true
  hi : ∀ k, k < ops.toList.length → 2 ≤ (R k).kind → (R k).o.next ≤ n1
  mw : ∀ k, k < ops.toList.length → (R k).kind = 3 → m ≤ (R k).o.mw ∨ (R k).i.next ≤ (R k).o.mw
  h0 : ∀ o, H0 o ≠ none → o < n0
  step : ∀ k, k < ops.toList.length → 2 ≤ (R k).kind → (R k).i.next ≤ (R k).o.next
  d0 : ∀ o, n0 ≤ o → o < n1 → ¬D0 o
  z : zId P < n0


/-- Two ranges of a trace are apart. -/
theorem TI.apart {R : Nat → Rec} {D0 : Nat → Prop} {H0 : Nat → Option AObj} {n0 n1 m : Nat} (T : TI P E call ops tm0 R D0 H0 n0 n1 m) {j k : Nat} (hj : j < ops.toList.length) (hk : k < ops.toList.length)
    (h1 : 2 ≤ (R j).kind) (h2 : 2 ≤ (R k).kind) (hne : j ≠ k) (o : Nat) (hoj : (R j).i.next ≤ o ∧ o < (R j).o.next) : ¬((R k).i.next ≤ o ∧ o < (R k).o.next) := by
  rcases Nat.lt_or_ge j k with h | h
  · have := ((T.cr k _ (List.getElem?_eq_getElem hk)).k2 h2).2.2.2.2.2 j h h1
    omega
  · have := ((T.cr j _ (List.getElem?_eq_getElem hj)).k2 h1).2.2.2.2.2 k (by omega) h2
    omega

theorem mask_lt {R : Nat → Rec} {D0 : Nat → Prop} {H0 : Nat → Option AObj} {n0 n1 m : Nat} (T : TI P E call ops tm0 R D0 H0 n0 n1 m) : ∀ i, i < ops.toList.length → ∀ k, ((masks ops.toList []).getD i 0).testBit k = true → k < i := by
  intro i
  induction i using Nat.strongRecOn with
  | _ i ih =>
    intro hi k hk
    obtain ⟨e, he, hb, h4⟩ := mask_bits (List.getElem?_eq_getElem hi) hk
    have := (T.pr i _ (List.getElem?_eq_getElem hi)).1 e (by simpa using he) hb
    rcases h4 with rfl | h4
    · exact this
    · have := ih e.on this (by omega) k h4; omega

/-- Whoever sees a row that another one left waits for it, or is waited for. -/
theorem TI.sees {R : Nat → Rec} {D0 : Nat → Prop} {H0 : Nat → Option AObj} {n0 n1 m : Nat} (T : TI P E call ops tm0 R D0 H0 n0 n1 m) {i j : Nat} (hi : i < ops.toList.length) (hj : j < ops.toList.length)
    (h1 : (R i).kind = 2) (h2 : (R j).kind = 2) (hne : j ≠ i) {p : Nat} (ho : own (R j) p) (hs : (R i).i.heap.get p ≠ none) :
    ((masks ops.toList []).getD i 0).testBit j = true ∨ ((masks ops.toList []).getD j 0).testBit i = true := by
  have Ci := T.cr i _ (List.getElem?_eq_getElem hi)
  have Cj := T.cr j _ (List.getElem?_eq_getElem hj)
  rcases Nat.lt_or_ge j i with h | h
  · rcases (Ci.kr h1).2.2.2.2 j h h2 with h3 | ⟨h3, _⟩
    · exact .inl h3
    · exact absurd (h3 p ho) hs
  · rcases (Cj.kr h2).2.2.2.2 i (by omega) h1 with h3 | ⟨_, h3⟩
    · exact .inr h3
    · have hb := (Ci.k2 (by omega)).2.2.2.1.2 p hs
      have hn := (Cj.k2 (by omega)).2.2.2.2.2 i (by omega) (by omega)
      have hmono := (Ci.k2 (by omega))
      refine absurd (h3 p ?_ ho) hs
      have := T.step i hi (by omega)
      omega

/-- Two that left the same row. -/
theorem TI.both {R : Nat → Rec} {D0 : Nat → Prop} {H0 : Nat → Option AObj} {n0 n1 m : Nat} (T : TI P E call ops tm0 R D0 H0 n0 n1 m) {i j : Nat} (hi : i < ops.toList.length) (hj : j < ops.toList.length)
    (h1 : (R i).kind = 2) (h2 : (R j).kind = 2) (hne : j ≠ i) {p : Nat} (ho : own (R j) p) (ho' : own (R i) p) :
    ((masks ops.toList []).getD i 0).testBit j = true ∨ ((masks ops.toList []).getD j 0).testBit i = true := by
  have see : ∀ k, k < ops.toList.length → (R k).kind = 2 → own (R k) p → p < (R k).i.next → (R k).i.heap.get p ≠ none := fun k hk h2 ho hp e => by
    have C := T.cr k _ (List.getElem?_eq_getElem hk)
    have hlo : (R k).o.mw ≤ p := by have := ho.1; omega
    exact ho.2.2 (((C.kr h2).2.1 p hlo hp).1 e)
  rcases Nat.lt_or_ge p (R i).i.next with h3 | h3
  · exact T.sees hi hj h1 h2 hne ho (see i hi h1 ho' h3)
  · rcases Nat.lt_or_ge p (R j).i.next with h4 | h4
    · exact (T.sees hj hi h2 h1 (fun e => hne e.symm) ho' (see j hj h2 ho h4)).symm
    · exact absurd ⟨h3, ho'.2.1⟩ (T.apart hj hi (by omega) (by omega) hne p ⟨h4, ho.2.1⟩)

def exI (ex : Nat → Bool) (i : Nat) : Nat → Bool := fun j => ex j || decide (j = i)

theorem exI_of {ex : Nat → Bool} {i j : Nat} (h : ex j = true) : exI ex i j = true := by unfold exI; rw [h]; rfl
theorem exI_at {ex : Nat → Bool} {i : Nat} : exI ex i i = true := by unfold exI; simp
theorem exI_true {ex : Nat → Bool} {i j : Nat} (h : exI ex i j = true) : ex j = true ∨ j = i := by
  unfold exI at h; rw [Bool.or_eq_true] at h; exact h.imp id (by simp)
theorem exI_false {ex : Nat → Bool} {i j : Nat} (h : exI ex i j = false) : ex j = false ∧ j ≠ i := by
  unfold exI at h; rw [Bool.or_eq_false_iff] at h; exact ⟨h.1, by simpa using h.2⟩

/-- An operation that touches memory comes up. -/
theorem OH.touch {R : Nat → Rec} {c0 : Ctx} {D0 : Nat → Prop} {H0 : Nat → Option AObj} {w0 : World} {n0 n1 m : Nat} (T : TI P E call ops tm0 R D0 H0 n0 n1 m)
    {ex : Nat → Bool} {c : Ctx} {D : Nat → Prop} {F : Nat → Option AObj} {w : World} (I : OH Φ P ops R c0 D0 H0 w0 n0 n1 m ex c D F w) {i : Nat} {o : Oper} (hi : ops.toList[i]? = some o) (hex : ex i = false)
    (hmask : ∀ k, ((masks ops.toList []).getD i 0).testBit k = true → ex k = true) (hcl : ∀ j k, ex j = true → ((masks ops.toList []).getD j 0).testBit k = true → ex k = true) (h2 : 2 ≤ (R i).kind)
    (hmo : Mo (R i).i (R i).o) :
    HR Φ P c D (R i).i.heap w ∧ ∀ c' w', Step Φ P c c' D (R i).i.heap (R i).o.heap (R i).i.next (R i).o.next (R i).o.mw w w' →
      ∃ F', OH Φ P ops R c0 D0 H0 w0 n0 n1 m (exI ex i) c' (Dm D (R i).i.next (R i).o.next) F' w' := by
  have hil : i < ops.toList.length := (List.getElem?_eq_some_iff.1 hi).1
  have C := T.cr i o hi
  obtain ⟨_, _, _, hbd, hge, hnx⟩ := C.k2 h2
  have hh1 := T.hi i hil h2
  have hfr : ∀ p, (R i).i.next ≤ p → p < (R i).o.next → ¬D p := I.fresh i hil hex h2
  -- what is common to both kinds
  have fresh' : ∀ k, k < ops.toList.length → exI ex i k = false → 2 ≤ (R k).kind → ∀ p, (R k).i.next ≤ p → p < (R k).o.next → ¬Dm D (R i).i.next (R i).o.next p := by
    intro k hk hek hk2 p hp1 hp2 hp
    obtain ⟨e1, e2⟩ := exI_false hek
    rcases hp with hp | hp
    · exact I.fresh k hk e1 hk2 p hp1 hp2 hp
    · exact T.apart hk hil hk2 h2 e2 p ⟨hp1, hp2⟩ hp
  have dom1' : ∀ p, Dm D (R i).i.next (R i).o.next p → Dm D0 n0 n1 p := by
    rintro p (hp | hp)
    · exact I.dom1 p hp
    · exact .inr ⟨by omega, by omega⟩
  have agree' : ∀ {c' : Ctx}, (∀ p, ¬((R i).i.next ≤ p ∧ p < (R i).o.next) → c'.ρ p = c.ρ p ∧ c'.x p = c.x p ∧ c'.nv p = c.nv p) → ∀ p, ¬(n0 ≤ p ∧ p < n1) → c'.ρ p = c0.ρ p ∧ c'.x p = c0.x p ∧ c'.nv p = c0.nv p := by
    intro c' hag p hp
    have h1 := hag p (by omega)
    have h3 := I.agree p hp
    exact ⟨h1.1.trans h3.1, h1.2.1.trans h3.2.1, h1.2.2.trans h3.2.2⟩
  have hk : (R i).kind = 2 ∨ (R i).kind = 3 := by have := C.le; omega
  rcases hk with hk | hk
  · -- it reads
    obtain ⟨hmw, hkept, hno3, hview, _⟩ := C.kr hk
    have hform : (∀ j, ex j = true → j < ops.toList.length → (R j).kind ≠ 3) ∧ ∀ p, F p = selTo R H0 ex ops.toList.length p := by
      rcases I.form with h | ⟨t, ht, ht3, _, htj⟩
      · exact h
      · have : ¬ i ≤ t := fun h => by have := (htj i hil h2).2 h; rw [hex] at this; cases this
        exact absurd ht3 (hno3 t (by omega))
    obtain ⟨f1, f2⟩ := hform
    have hne : ∀ j, ex j = true → j ≠ i := fun j hj e => by rw [e, hex] at hj; cases hj
    have hnomask : ∀ j, ex j = true → ((masks ops.toList []).getD j 0).testBit i = true → False := fun j hj hm => by
      have := hcl j i hj hm; rw [hex] at this; cases this
    have hsub : ∀ p obj, (R i).i.heap.get p = some obj → F p = some obj := by
      intro p obj hp
      have hs : (R i).i.heap.get p ≠ none := by rw [hp]; simp
      have hv := hview p obj hp
      rw [f2, selTo_cut (k := i) p _ (Nat.le_of_lt hil), ← hv]
      · refine selTo_congr i p fun j hj hj2 ho => ?_
        cases hej : ex j with
        | true =>
          rcases T.sees hil (by omega) hk hj2 (by omega) ho hs with h3 | h3
          · exact h3.symm
          · exact absurd h3 fun h3 => hnomask j hej h3
        | false =>
          cases hmj : ((masks ops.toList []).getD i 0).testBit j with
          | false => rfl
          | true => rw [hmask j hmj] at hej; cases hej
      · intro j h1 h3 hj2 ho
        cases hej : ex j with
        | false => rfl
        | true =>
          exfalso
          rcases T.sees hil h3 hk hj2 (hne j hej) ho hs with h4 | h4
          · have := mask_lt T i hil j h4; omega
          · exact hnomask j hej h4
    refine ⟨I.hr.sub hsub, fun c' w' hst => ?_⟩
    obtain ⟨r1, r2, r3⟩ := I.hr.read hsub hst hbd hkept hfr
    have hlow : ∀ p, F p ≠ none → n0 ≤ p → ∀ b, b < w0.heap.size → c.ρ p = b → ∃ q, m ≤ q ∧ H0 q ≠ none ∧ c0.ρ q = b := by
      intro p hp hp0 b hb he
      rcases I.live p hp with h | ⟨_, _, h5 | ⟨q, h6, h7, h8⟩⟩
      · have := T.h0 p h; omega
      · omega
      · exact ⟨q, h6, h7, by rw [h8]; exact he⟩
    refine ⟨_, r2, .inl ⟨fun j hj hjl => ?_, fun p => ?_⟩, fresh', agree' hst.agree, fun b hb => (hst.low b (Nat.lt_of_lt_of_le hb I.size)).trans (I.low b hb), dom1', fun p hp => .inl (I.dom2 p hp), hst.os.trans I.os, hst.tape.trans I.tape, hst.output.trans I.output, Nat.le_trans I.size hst.size, fun b hb hno => ?_, fun p hp => ?_⟩
    · rcases exI_true hj with h | rfl
      · exact f1 j h hjl
      · omega
    · by_cases ho : own (R i) p
      · rw [ov_own ho, selTo_last hil hk exI_at ho]
        intro j h1 h3 hj2 hoj
        cases hej : exI ex i j with
        | false => rfl
        | true =>
          exfalso
          have hej' : ex j = true := by rcases exI_true hej with h | h; exact h; omega
          rcases T.both hil h3 hk hj2 (by omega) hoj ho with h4 | h4
          · have := mask_lt T i hil j h4; omega
          · exact hnomask j hej' h4
      · rw [ov_not ho, f2]
        refine selTo_congr _ p fun j hj hj2 hoj => ?_
        have hji : j ≠ i := fun e => ho (e ▸ hoj)
        unfold exI
        simp [hji]
    · rw [r1 b (Nat.lt_of_lt_of_le hb I.size) fun ⟨p, h1, h3, h4⟩ => hno (hlow p h3 (by omega) b hb h4)]
      exact I.far b hb hno
    · have back : F p ≠ none → (H0 p ≠ none ∨ (n0 ≤ p ∧ p < n1 ∧ (w0.heap.size ≤ c'.ρ p ∨ ∃ q, m ≤ q ∧ H0 q ≠ none ∧ c0.ρ q = c'.ρ p))) ∨ ((R i).i.next ≤ p ∧ p < (R i).o.next) := fun hFp => by
        by_cases hin : (R i).i.next ≤ p ∧ p < (R i).o.next
        · exact .inr hin
        · left
          rcases I.live p hFp with h | ⟨h3, h4, h5⟩
          · exact .inl h
          · refine .inr ⟨h3, h4, ?_⟩
            rw [(hst.agree p hin).1]; exact h5
      by_cases ho : own (R i) p
      · rcases Nat.lt_or_ge p (R i).i.next with h3 | h3
        · have hlo : (R i).o.mw ≤ p := by have := ho.1; omega
          have hFp : F p ≠ none := by
            have hs : (R i).i.heap.get p ≠ none := fun e => ho.2.2 ((hkept p hlo h3).1 e)
            obtain ⟨obj, hob⟩ := Option.ne_none_iff_exists'.1 hs
            rw [hsub p obj hob]; simp
          rcases back hFp with h | h
          · exact h
          · omega
        · exact .inr ⟨by omega, by have := ho.2.1; omega, .inl (Nat.le_trans I.size (r3 p h3 ho.2.1 ho.2.2))⟩
      · have hFp : F p ≠ none := by rwa [ov_not ho] at hp
        rcases back hFp with h | h
        · exact h
        · exact absurd (I.hr.dom p hFp).1 (hfr p h.1 h.2)
  · -- it stands in a row
    obtain ⟨hb3, hheap, _⟩ := C.k3 hk
    have hall : ∀ j, j < i → 2 ≤ (R j).kind → ex j = true := fun j hj hj2 => hmask j (hb3 j hj hj2)
    have hnone : ∀ j, j < ops.toList.length → i < j → 2 ≤ (R j).kind → ex j = false := by
      intro j hj hij hj2
      cases hej : ex j with
      | false => rfl
      | true =>
        exfalso
        have Cj := T.cr j _ (List.getElem?_eq_getElem hj)
        have hj3 : (R j).kind = 3 := by
          rcases (show (R j).kind = 2 ∨ (R j).kind = 3 by have := Cj.le; omega) with h | h
          · exact absurd hk ((Cj.kr h).2.2.1 i hij)
          · exact h
        have := hcl j i hej ((Cj.k3 hj3).1 i hij h2)
        rw [hex] at this; cases this
    have hF : F = (R i).i.heap.get := by
      rw [hheap]
      rcases I.form with ⟨f1, f2⟩ | ⟨t, ht, ht3, hFt, htj⟩
      · have hno3 : ∀ j, j < i → (R j).kind ≠ 3 := fun j hj h => f1 j (hall j hj (by omega)) (by omega) h
        funext p
        rw [f2, fullTo_sel i p hno3, selTo_cut (k := i) p _ (Nat.le_of_lt hil)]
        · exact selTo_congr i p fun j hj hj2 _ => hall j hj (by omega)
        · intro j h1 h3 hj2 _
          by_cases hji : j = i
          · rw [hji]; exact hex
          · exact hnone j h3 (by omega) (by omega)
      · -- the last of the row before
        have hti : t < i := by
          rcases Nat.lt_or_ge t i with h | h
          · exact h
          · have := (htj i hil h2).2 h; rw [hex] at this; cases this
        rw [hFt]
        have key : ∀ k, t < k → k ≤ i → fullTo R H0 k = (R t).o.heap.get := by
          intro k
          induction k with
          | zero => intro h; omega
          | succ k ih =>
            intro h1 h3
            unfold fullTo
            by_cases htk : t = k
            · subst htk
              rw [if_neg (by omega), if_pos ht3]
            · have hk2 : ¬ 2 ≤ (R k).kind := fun h => by
                have := (htj k (by omega) h).1 (hall k (by omega) h); omega
              rw [if_neg (by omega), if_neg (by omega)]
              exact ih (by omega) (by omega)
        rw [key i hti (Nat.le_refl _)]
    have hHR : HR Φ P c D (R i).i.heap w := HRF.toT (hF ▸ I.hr)
    refine ⟨hHR, fun c' w' hst => ?_⟩
    refine ⟨(R i).o.heap.get, hst.hr.toF, .inr ⟨i, hil, hk, rfl, fun j hj hj2 => ⟨fun h => ?_, fun h => ?_⟩⟩, fresh', agree' hst.agree, fun b hb => (hst.low b (Nat.lt_of_lt_of_le hb I.size)).trans (I.low b hb), dom1', fun p hp => .inl (I.dom2 p hp), hst.os.trans I.os, hst.tape.trans I.tape, hst.output.trans I.output, Nat.le_trans I.size hst.size, fun b hb hno => ?_, fun p hp => ?_⟩
    · rcases Nat.lt_or_ge i j with h3 | h3
      · have := hnone j hj h3 hj2
        rcases exI_true h with h4 | h4
        · rw [this] at h4; cases h4
        · omega
      · exact h3
    · by_cases hji : j = i
      · unfold exI; simp [hji]
      · unfold exI; rw [hall j (by omega) hj2]; rfl
    · rw [hst.far b (Nat.lt_of_lt_of_le hb I.size)]
      · exact I.far b hb hno
      · rintro ⟨p, hp1, hp2, hp3⟩
        have hpF : F p ≠ none := by rw [hF]; exact hp2
        have hpb := hbd.2 p hp2
        have hmp : m ≤ p := by
          rcases T.mw i hil hk with h | h <;> omega
        rcases I.live p hpF with h | ⟨h3, h4, h5 | ⟨q, h6, h7, h8⟩⟩
        · exact hno ⟨p, hmp, h, by rw [← (I.agree p (by have := T.h0 p h; omega)).1]; exact hp3⟩
        · omega
        · exact hno ⟨q, h6, h7, by rw [h8]; exact hp3⟩
    · rcases hst.live p hp with h | ⟨h3, h4, h5⟩
      · have hpF : F p ≠ none := by rw [hF]; exact h
        have hpb := hbd.2 p h
        rcases I.live p hpF with h6 | ⟨h7, h8, h9⟩
        · exact .inl h6
        · refine .inr ⟨h7, h8, ?_⟩
          rw [(hst.agree p (by omega)).1]; exact h9
      · refine .inr ⟨by omega, by omega, ?_⟩
        rcases h5 with h5 | ⟨q, h6, h7, h8⟩
        · exact .inl (Nat.le_trans I.size h5)
        · have hqF : F q ≠ none := by rw [hF]; exact h7
          have hqb := hbd.2 q h7
          have hmq : m ≤ q := by rcases T.mw i hil hk with h | h <;> omega
          rcases I.live q hqF with h9 | ⟨_, _, h9 | ⟨r, hr1, hr2, hr3⟩⟩
          · exact .inr ⟨q, hmq, h9, by rw [← (I.agree q (by have := T.h0 q h9; omega)).1]; exact h8⟩
          · exact .inl (by rw [← h8]; exact h9)
          · exact .inr ⟨r, hr1, hr2, by rw [hr3]; exact h8⟩
end
end Go.Proofs.Ytnfjdoeemnhkbaa.Canon

namespace Go.Proofs.Ytnfjdoeemnhkbaa.Canon
set_option linter.unusedVariables false
set_option linter.unusedSimpArgs false
open Go.RowKit
section
variable {Φ : Fx} {P : Program} {E : Env} {call : CallF} {ops : Array Oper} {tm0 : List Value}

theorem HR.dm {c : Ctx} {D D' : Nat → Prop} {H : T AObj} {w : World} (h : HR Φ P c D H w) (hD : ∀ o, D o → D' o) : HR Φ P c D' H w :=
  ⟨fun o ho => ⟨hD o (h.dom o ho).1, (h.dom o ho).2⟩, fun o obj ho => (h.rows o obj ho).keep (fun _ _ => ⟨rfl, rfl, rfl⟩) hD (h.dom o (by rw [ho]; simp)).1 rfl, h.inj, h.bel, h.up, h.nm, h.fz, h.fr, h.kn⟩

theorem cnt_set : ∀ (l : List Bool) (i : Nat), l[i]? = some false → (l.set i true).countP (fun b => !b) + 1 = l.countP (fun b => !b)
  | [], i, h => by simp at h
  | b :: l, 0, h => by simp at h; subst h; simp
  | b :: l, i + 1, h => by
    have := cnt_set l i (by simpa using h)
    simp only [List.set_cons_succ, List.countP_cons]
    omega

theorem looks_op {o : Oper} {t : Tmp} (h : (Operand.tmp t) ∈ o.op.operands) : t ∈ o.looksAt ops := by
  unfold Oper.looksAt
  exact List.mem_append_left _ (List.mem_filterMap.2 ⟨.tmp t, by simpa using h, rfl⟩)

/-- The temporaries that an operation looks at hold what they held in the runner's order. -/
theorem looks_same {R : Nat → Rec} {D0 : Nat → Prop} {H0 : Nat → Option AObj} {n0 n1 m : Nat} (T : TI P E call ops tm0 R D0 H0 n0 n1 m) {ex : Nat → Bool} {i : Nat} {o : Oper} (hi : ops.toList[i]? = some o) (hex : ex i = false)
    (hmask : ∀ k, ((masks ops.toList []).getD i 0).testBit k = true → ex k = true) (hcl : ∀ j k, ex j = true → ((masks ops.toList []).getD j 0).testBit k = true → ex k = true) {t : Tmp} (ht : t ∈ o.looksAt ops) :
    (tmSel R ex ops.toList 0 tm0)[t]? = (text ops.toList tm0 R i)[t]? := by
  refine tmSel_at ops.toList 0 tm0 tm0 rfl fun j oj hj hd => ?_
  rw [Nat.zero_add]
  rcases Nat.lt_trichotomy j i with h | h | h
  · rcases (T.pr i o hi).2 j oj h hj with h1 | h1
    · rw [hmask j h1]; simp [h]
    · exact absurd ht ((Oper.apart_spec h1).1 t hd)
  · rw [h, hex]; simp
  · rcases (T.pr j oj hj).2 i o h hi with h1 | h1
    · cases hej : ex j with
      | false => symm; simp; omega
      | true => have := hcl j i hej h1; rw [hex] at this; cases this
    · exact absurd ht ((Oper.apart_spec h1).2.2 t hd)

theorem aeval_same {Z : Nat} {tm tm' : List Value} {o : Oper} (h : ∀ t, t ∈ o.looksAt ops → tm[t]? = tm'[t]?) : ∀ x ∈ o.op.operands, aeval Z tm x = aeval Z tm' x := by
  intro x hx
  cases x with
  | tmp t => simp only [aeval, nth_eq, h t (looks_op hx)]
  | _ => rfl

theorem wanted_same {tm tm' : List Value} {o : Oper} (h : ∀ t, t ∈ o.looksAt ops → tm[t]? = tm'[t]?) : wanted ops.toList tm o = wanted ops.toList tm' o := by
  unfold wanted
  cases hg : o.guard with
  | none => rfl
  | some jw =>
    obtain ⟨j, want⟩ := jw
    simp only
    cases hd : dstOf ops.toList j with
    | none => rfl
    | some d =>
      have hl : d ∈ o.looksAt ops := by
        unfold Oper.looksAt
        refine List.mem_append_right _ ?_
        rw [hg]
        unfold dstOf at hd
        rw [nth_eq, Array.getElem?_toList] at hd
        cases hj : ops[j]? with
        | none => rw [hj] at hd; cases hd
        | some oj => rw [hj] at hd; simp only at hd; simp [hj, hd]
      simp only [nth_eq, h d hl]

theorem put_same {R : Nat → Rec} {D0 : Nat → Prop} {H0 : Nat → Option AObj} {n0 n1 m : Nat} (T : TI P E call ops tm0 R D0 H0 n0 n1 m) {ex : Nat → Bool} {i : Nat} {o : Oper} (hi : ops.toList[i]? = some o) (hex : ex i = false)
    (hcl : ∀ j k, ex j = true → ((masks ops.toList []).getD j 0).testBit k = true → ex k = true) : tmSel R (exI ex i) ops.toList 0 tm0 = putT (tmSel R ex ops.toList 0 tm0) o.dst (R i).v := by
  apply List.ext_getElem?
  intro t
  have h := tmSel_put (R := R) (sel := ex) (i := i) (t := t) (oi := o) ops.toList 0 tm0 (Nat.zero_le _) (by simpa using hi) (fun j oj hj hlt hd hd' => by
    rw [Nat.zero_add] at hlt ⊢
    rcases (T.pr j oj hj).2 i o hlt hi with h1 | h1
    · cases hej : ex j with
      | false => rfl
      | true => have := hcl j i hej h1; rw [hex] at this; cases this
    · exact absurd hd ((Oper.apart_spec h1).2.1 t hd'))
  have e : (fun j => ex j && !decide (j = i)) = ex := by
    funext j
    by_cases hji : j = i
    · rw [hji, hex]; simp
    · simp [hji]
  rw [e] at h
  exact h

theorem full_end {R : Nat → Rec} {H0 : Nat → Option AObj} {t : Nat} (ht3 : (R t).kind = 3) : ∀ n, t < n → (∀ j, j < n → 2 ≤ (R j).kind → j ≤ t) → fullTo R H0 n = (R t).o.heap.get
  | 0, h, _ => by omega
  | k + 1, h, hj => by
    unfold fullTo
    by_cases htk : t = k
    · subst htk; rw [if_neg (by omega), if_pos ht3]
    · have hk2 : ¬ 2 ≤ (R k).kind := fun h2 => by have := hj k (by omega) h2; omega
      rw [if_neg (by omega), if_neg (by omega)]
      exact full_end ht3 k (by omega) fun j hj' => hj j (by omega)

/-- Such a load, in whatever memory has these cells there. -/
theorem LoadsTo.congr {ev ev2 : Operand → Value} {o : Oper} {ad : Addr} {n : Nat} {cs : List Value} {v : Value} (h : LoadsTo P ev o ad n cs v) (he : ∀ x ∈ o.op.operands, ev2 x = ev x) : LoadsTo P ev2 o ad n cs v := by
  obtain ⟨t, a, h1, h2, h3⟩ := h
  exact ⟨t, a, h1, by rw [he a (by rw [h1]; simp [Op.operands])]; exact h2, h3⟩

theorem still_run {c : Ctx} {D : Nat → Prop} {F : Nat → Option AObj} {w : World} {ev ev' : Operand → Value} {o : Oper} {ad : Addr} {n : Nat} {cs : List Value} {v : Value} (h : HRF Φ P c D F w) (hF : cellsF F ad n = some cs)
    (hl : LoadsTo P ev o ad n cs v) (hev : ∀ x, VR (zId P) c D (ev x) (ev' x)) : ∃ v', VR (zId P) c D v v' ∧ (execOp ev' o).run P w = .ok (.value v') w := by
  obtain ⟨t, a, h1, h2, h3⟩ := hl
  have hH : ∃ H : T AObj, HR Φ P c D H w ∧ cellsAt H ad n = some cs := by
    have hF2 := hF
    unfold cellsF at hF2
    split at hF2
    · rename_i obj hob
      have hb : ad.block < 4000000 := (h.dom ad.block (by rw [hob]; simp)).2.2
      have hg : ∀ p, (T.set (some obj) deep (.leaf : T AObj) ad.block).get p = if p = ad.block then some obj else none := fun p => by
        rw [get_set _ _ _ _ _ (by unfold deep; omega), get_leaf]
      refine ⟨T.set (some obj) deep .leaf ad.block, h.sub fun p ob hp => ?_, ?_⟩
      · rw [hg] at hp
        by_cases e : p = ad.block
        · rw [if_pos e] at hp; rw [e, hob]; exact hp
        · rw [if_neg e] at hp; cases hp
      · unfold cellsAt
        rw [hg, if_pos rfl]; exact hF2
    · cases hF2
  obtain ⟨H, hH, hc⟩ := hH
  obtain ⟨ob, off, rfl, e3, hd⟩ := ptr_inv (h2 ▸ hev a)
  obtain ⟨l', r1, r2, r3, r4⟩ := read_cells hH hc
  rcases h3 with ⟨hag, hsz, rfl⟩ | ⟨hag, ⟨sz, hsz⟩, rfl, rfl⟩
  · refine ⟨_, VR.agg_of r1, ?_⟩
    unfold execOp
    rw [h1]
    simp only [Instr.loadAt, e3, Instr.sureAddr, loadVar, Sem.run_bind, Sem.run_pure, Result.andThen_ok, run_isAgg' hag, if_true, run_sizeOf' hsz]
    rw [run_cells (by rw [← r1.1, r2]) r3]
    rfl
  · obtain ⟨u', k1, k2⟩ := r1.at (i := 0) rfl
    refine ⟨u', k2, ?_⟩
    have := r3 0 u' k1
    rw [Nat.add_zero] at this
    unfold execOp
    rw [h1]
    simp only [Instr.loadAt, e3, Instr.sureAddr, loadVar, Sem.run_bind, Sem.run_pure, Result.andThen_ok, run_isAgg' hag, Bool.false_eq_true, if_false, run_load, this]

/-- Where operations have come up in some order, the rest may come up in any. -/
theorem any_order (hE : E.P = P) (hc : CallOK Φ P call) {R : Nat → Rec} {c0 : Ctx} {D0 : Nat → Prop} {H0 : Nat → Option AObj} {w0 : World} {n0 n1 m : Nat} (T : TI P E call ops tm0 R D0 H0 n0 n1 m) {a0 : Act} (hG0 : Glob (zId P) c0 D0)
    {Q : Exit → Act → World → Prop}
    (hQ : ∀ c D F a w, OH Φ P ops R c0 D0 H0 w0 n0 n1 m (fun j => decide (j < ops.toList.length)) c D F w → F = fullTo R H0 ops.toList.length → LR (zId P) c D (text ops.toList tm0 R ops.toList.length) a.tmps.toList → a.defers = a0.defers → Q .normal a w) :
    ∀ (fuel : Nat) (listed : Array Bool) (c : Ctx) (D : Nat → Prop) (F : Nat → Option AObj) (a : Act) (w : World), listed.size = ops.size → listed.toList.countP (fun b => !b) = fuel →
      (∀ j k, listed.getD j false = true → ((masks ops.toList []).getD j 0).testBit k = true → listed.getD k false = true) →
      OH Φ P ops R c0 D0 H0 w0 n0 n1 m (fun j => listed.getD j false) c D F w → LR (zId P) c D (tmSel R (fun j => listed.getD j false) ops.toList 0 tm0) a.tmps.toList → a.defers = a0.defers →
      wpAny P .any ops Q fuel listed a w := by
  -- all have come up
  have fin : ∀ (listed : Array Bool) (c : Ctx) (D : Nat → Prop) (F : Nat → Option AObj) (a : Act) (w : World), listed.size = ops.size → (∀ j, j < ops.size → listed.getD j false = true) →
      OH Φ P ops R c0 D0 H0 w0 n0 n1 m (fun j => listed.getD j false) c D F w → LR (zId P) c D (tmSel R (fun j => listed.getD j false) ops.toList 0 tm0) a.tmps.toList → a.defers = a0.defers → Q .normal a w := by
    intro listed c D F a w hs hall I hT hd
    have hlen : ops.toList.length = ops.size := Array.length_toList
    have hex : (fun j => listed.getD j false) = fun j => decide (j < ops.toList.length) := by
      funext j
      by_cases hj : j < ops.size
      · rw [hall j hj, hlen]; simp [hj]
      · rw [hlen, decide_eq_false hj, Array.getD_eq_getD_getElem?, Array.getElem?_eq_none (by omega)]; rfl
    rw [hex] at I hT
    refine hQ c D F a w I ?_ hT hd
    rcases I.form with ⟨f1, f2⟩ | ⟨t, ht, ht3, hFt, htj⟩
    · funext p
      rw [f2, fullTo_sel _ p fun j hj => f1 j (by simpa using hj) hj]
      exact selTo_congr _ p fun j hj _ _ => by simpa using hj
    · rw [hFt]
      exact (full_end ht3 _ ht fun j hj hj2 => (htj j hj hj2).1 (by simpa using hj)).symm
  intro fuel
  induction fuel with
  | zero =>
    intro listed c D F a w hs hcnt hcl I hT hd
    have hall : ∀ j, j < ops.size → listed.getD j false = true := by
      intro j hj
      have hj' : j < listed.toList.length := by rw [Array.length_toList]; omega
      have := List.countP_eq_zero.1 hcnt (listed.toList[j]) (List.getElem_mem hj')
      rw [Array.getD_eq_getD_getElem?, ← Array.getElem?_toList, List.getElem?_eq_getElem hj']
      simpa using this
    refine ⟨?_, fin listed c D F a w hs hall I hT hd⟩
    rw [List.eq_nil_iff_forall_not_mem]
    intro i hir
    obtain ⟨h1, oi, h2, _⟩ := mem_ready.1 hir
    have hlt : i < ops.size := (Array.getElem?_eq_some_iff.1 h2).1
    have := hall i hlt
    rw [Array.getD_eq_getD_getElem?, Array.getElem?_eq_getElem (by omega)] at this h1
    simp only [Option.getD_some] at this h1
    rw [h1] at this; cases this
  | succ fuel ih =>
    intro listed c D F a w hs hcnt hcl I hT hd
    have notlisted : ∀ j, j < ops.size → listed.getD j false = false → listed.getD j true = false := by
      intro j hj h
      rw [Array.getD_eq_getD_getElem?, Array.getElem?_eq_getElem (by omega)] at h ⊢
      exact h
    refine ⟨fun hnil => ?_, fun i hir => ?_⟩
    · exfalso
      -- the first that has not come up is ready
      have hex : ∃ j, j < ops.size ∧ listed.getD j false = false := by
        refine Classical.byContradiction fun hno => ?_
        have : listed.toList.countP (fun b => !b) = 0 := by
          rw [List.countP_eq_zero]
          intro b hb
          obtain ⟨j, hj⟩ := List.mem_iff_getElem?.1 hb
          have hjl : j < ops.size := by have := (List.getElem?_eq_some_iff.1 hj).1; rw [Array.length_toList] at this; omega
          cases b with
          | true => simp
          | false =>
            exfalso
            refine hno ⟨j, hjl, ?_⟩
            rw [Array.getD_eq_getD_getElem?, ← Array.getElem?_toList, hj]; rfl
        omega
      have least : ∀ k j, j ≤ k → j < ops.size → listed.getD j false = false → ∃ i, i < ops.size ∧ listed.getD i false = false ∧ ∀ q, q < i → listed.getD q false = true := by
        intro k
        induction k with
        | zero => intro j h1 h2 h3; exact ⟨j, h2, h3, fun q hq => by omega⟩
        | succ k ihk =>
          intro j h1 h2 h3
          by_cases hq : ∃ q, q < j ∧ listed.getD q false = false
          · obtain ⟨q, hq1, hq2⟩ := hq
            exact ihk q (by omega) (by omega) hq2
          · refine ⟨j, h2, h3, fun q hqj => ?_⟩
            cases hb : listed.getD q false with
            | true => rfl
            | false => exact absurd ⟨q, hqj, hb⟩ hq
      obtain ⟨j, hj1, hj2⟩ := hex
      obtain ⟨i, hi1, hi2, hi3⟩ := least j j (Nat.le_refl _) hj1 hj2
      have hmem : i ∈ Region.ready .any ops listed := by
        rw [mem_ready]
        refine ⟨notlisted i hi1 hi2, ops[i], Array.getElem?_eq_getElem hi1, fun e he hb => hi3 _ ?_⟩
        exact (T.pr i ops[i] (by rw [Array.getElem?_toList]; exact Array.getElem?_eq_getElem hi1)).1 e (by simpa using he) hb
      rw [hnil] at hmem; cases hmem
    · obtain ⟨h1, oi, h2, h3⟩ := mem_ready.1 hir
      have hlt : i < ops.size := (Array.getElem?_eq_some_iff.1 h2).1
      have hi : ops.toList[i]? = some oi := by rw [Array.getElem?_toList]; exact h2
      have hil : i < ops.toList.length := by rw [Array.length_toList]; exact hlt
      have hex : listed.getD i false = false := by
        rw [Array.getD_eq_getD_getElem?, Array.getElem?_eq_getElem (by omega)] at h1 ⊢
        exact h1
      have hmask : ∀ k, ((masks ops.toList []).getD i 0).testBit k = true → listed.getD k false = true := by
        intro k hk
        obtain ⟨e, he, hb, h4⟩ := mask_bits hi hk
        have := h3 e (by simpa using he) hb
        rcases h4 with rfl | h4
        · exact this
        · exact hcl _ _ this h4
      have hlook : ∀ t, t ∈ oi.looksAt ops → (tmSel R (fun j => listed.getD j false) ops.toList 0 tm0)[t]? = (text ops.toList tm0 R i)[t]? := fun t ht => looks_same T hi hex hmask hcl ht
      have hoo : opOK (zId P) oi = true := by
        have := T.ok
        unfold opsOK at this
        rw [allL_eq] at this
        exact this oi (List.mem_of_getElem? hi)
      have hG : Glob (zId P) c D := fun g hg => ⟨I.dom2 g (hG0 g hg).1, by rw [(I.agree g (by have := T.z; omega)).1]; exact (hG0 g hg).2⟩
      -- the next place
      have hset : ∀ j, (listed.setIfInBounds i true).getD j false = exI (fun j => listed.getD j false) i j := by
        intro j
        show _ = (listed.getD j false || decide (j = i))
        rw [Array.getD_eq_getD_getElem?, Array.getD_eq_getD_getElem?, Array.getElem?_setIfInBounds]
        by_cases hji : j = i
        · subst hji; rw [if_pos rfl, if_pos (by omega)]; simp
        · rw [if_neg (fun e => hji e.symm)]; simp [hji]
      have hsetf : (fun j => (listed.setIfInBounds i true).getD j false) = exI (fun j => listed.getD j false) i := funext hset
      have hcl' : ∀ j k, (listed.setIfInBounds i true).getD j false = true → ((masks ops.toList []).getD j 0).testBit k = true → (listed.setIfInBounds i true).getD k false = true := by
        intro j k hj hk
        rw [hset] at hj ⊢
        rcases exI_true hj with h | rfl
        · exact exI_of (hcl j k h hk)
        · exact exI_of (hmask k hk)
      have hcnt' : (listed.setIfInBounds i true).toList.countP (fun b => !b) = fuel := by
        rw [Array.toList_setIfInBounds]
        have hl : listed.toList[i]? = some false := by
          rw [Array.getD_eq_getD_getElem?, ← Array.getElem?_toList, List.getElem?_eq_getElem (by rw [Array.length_toList]; omega)] at hex
          rw [List.getElem?_eq_getElem (by rw [Array.length_toList]; omega)]
          simpa using hex
        have := cnt_set _ _ hl
        omega
      have hs' : (listed.setIfInBounds i true).size = ops.size := by simpa using hs
      have go : ∀ c' D' F' a' w', OH Φ P ops R c0 D0 H0 w0 n0 n1 m (exI (fun j => listed.getD j false) i) c' D' F' w' → LR (zId P) c' D' (putT (tmSel R (fun j => listed.getD j false) ops.toList 0 tm0) oi.dst (R i).v) a'.tmps.toList →
          a'.defers = a0.defers → wpAny P .any ops Q fuel (listed.setIfInBounds i true) a' w' := by
        intro c' D' F' a' w' I' hT' hd'
        refine ih _ c' D' F' a' w' hs' hcnt' hcl' ?_ ?_ hd'
        · rw [hsetf]; exact I'
        · rw [hsetf, put_same T hi hex hcl]; exact hT'
      -- no memory: the same memory
      have same : (R i).kind < 2 → OH Φ P ops R c0 D0 H0 w0 n0 n1 m (exI (fun j => listed.getD j false) i) c D F w := by
        intro hk
        refine ⟨I.hr, ?_, fun k hk1 hk2 => I.fresh k hk1 (exI_false hk2).1, I.agree, I.low, I.dom1, I.dom2, I.os, I.tape, I.output, I.size, I.far, I.live⟩
        rcases I.form with ⟨f1, f2⟩ | ⟨t, ht, ht3, hFt, htj⟩
        · refine .inl ⟨fun j hj hjl => ?_, fun p => ?_⟩
          · rcases exI_true hj with h | rfl
            · exact f1 j h hjl
            · omega
          · rw [f2]
            refine selTo_congr _ p fun j hj hj2 _ => ?_
            have hji : j ≠ i := fun e => by rw [e] at hj2; omega
            unfold exI
            simp [hji]
        · refine .inr ⟨t, ht, ht3, hFt, fun j hj hj2 => ⟨fun h => ?_, fun h => ?_⟩⟩
          · rcases exI_true h with h | rfl
            · exact (htj j hj hj2).1 h
            · omega
          · exact exI_of ((htj j hj hj2).2 h)
      have C := T.cr i oi hi
      unfold wpOp
      simp only [h2]
      rw [← wanted_eq hT ops oi, wanted_same hlook]
      by_cases hk0 : (R i).kind = 0
      · obtain ⟨k1, k2⟩ := C.k0 hk0
        rw [k1, if_neg (by simp)]
        refine go c D F _ w (same (by omega)) ?_ (by rw [← hd]; cases oi.dst <;> rfl)
        rw [k2]; exact hT.put .undef _
      · by_cases hk1 : (R i).kind = 1
        · obtain ⟨k1, k2⟩ := C.k1 hk1
          rw [k1, if_pos rfl]
          refine .inl ?_
          rcases k2 with k2 | ⟨ad, n, cs, q1, q2, q3, q4⟩
          · rw [pop_congr oi (fun x hx => (aeval_same hlook x hx).symm)] at k2
            obtain ⟨v', k3, k4⟩ := pop_sound (ev1_rel hT hG) oi _ k2
            unfold Oper.wp
            rw [ev1_op hoo, k4 w]
            exact go c D F _ w (same (by omega)) (hT.put k3 _) (by rw [← hd]; cases oi.dst <;> rfl)
          · -- a load that reads the same whenever it comes up
            have hF : cellsF F ad n = some cs := by
              rcases I.form with ⟨f1, f2⟩ | ⟨t, ht, ht3, hFt, htj⟩
              · have hFb : F ad.block = H0 ad.block := by
                  rw [f2]
                  rcases selTo_of (R := R) (H0 := H0) (sel := fun j => listed.getD j false) ops.toList.length ad.block with h | ⟨j, j1, j2, j3, j4⟩
                  · exact h
                  · exfalso
                    have Cj := T.cr j _ (List.getElem?_eq_getElem j1)
                    have b1 := (Cj.kr j2).1
                    have b2 := (Cj.k2 (by omega)).2.2.2.2.1
                    have := j4.1
                    omega
                rcases q4 with ⟨j, j1, j2, j3, _⟩ | ⟨q5, _⟩
                · exact absurd j2 (f1 j (hmask j j3) (by omega))
                · unfold cellsF at q5 ⊢; rw [hFb]; exact q5
              · rw [hFt]
                rcases Nat.lt_or_ge t i with hti | hti
                · rcases q4 with ⟨j, j1, j2, j3, j4⟩ | ⟨_, q5⟩
                  · exact j4 t ((htj j (by omega) (by omega)).1 (hmask j j3)) hti ht3
                  · exact q5 t hti ht3
                · have hne : i ≠ t := fun e => by rw [e] at hk1; omega
                  have Ct := T.cr t _ (List.getElem?_eq_getElem ht)
                  rcases (Ct.k3 ht3).2.2 i (by omega) ad n cs q1 with h | h
                  · have := hcl t i ((htj t ht (by omega)).2 (Nat.le_refl _)) h
                    rw [hex] at this; cases this
                  · exact h
            obtain ⟨v', k3, k4⟩ := still_run (ev' := ev1 (zId P) a) I.hr hF (q3.congr fun x hx => aeval_same hlook x hx) (ev1_rel hT hG)
            unfold Oper.wp
            rw [ev1_op hoo, k4]
            exact go c D F _ w (same (by omega)) (hT.put k3 _) (by rw [← hd]; cases oi.dst <;> rfl)
        · have hk2 : 2 ≤ (R i).kind := by omega
          obtain ⟨k1, k2, k3, k4, k5, _⟩ := C.k2 hk2
          rw [k1, if_pos rfl]
          refine .inl ?_
          have hz : zId P < (R i).i.next := by have := T.z; omega
          have hmo := doOp_mono hc k2 hz
          obtain ⟨hHR, hnext⟩ := I.touch T hi hex hmask hcl hk2 hmo
          rw [doOp_congr oi _ (fun x hx => (aeval_same hlook x hx).symm)] at k2
          have hfr := I.fresh i hil hex hk2
          refine doOp_sound hE hc k2 hz k4 hHR hG hfr (ev1_rel hT hG) (ev1_op hoo) fun c' v' w' hst hv => ?_
          obtain ⟨F', I'⟩ := hnext c' w' hst
          refine go c' _ F' _ w' I' ?_ (by rw [← hd]; cases oi.dst <;> rfl)
          exact (hT.mono (fun p hp => hst.agree p fun ⟨h5, h6⟩ => hfr p h5 h6 hp) (fun p hp => .inl hp)).put hv _
end
end Go.Proofs.Ytnfjdoeemnhkbaa.Canon

namespace Go.Proofs.Ytnfjdoeemnhkbaa.Canon
set_option linter.unusedVariables false
set_option linter.unusedSimpArgs false
open Go.RowKit
section
variable {Φ : Fx} {P : Program} {E : Env} {call : CallF}

theorem runDrawn_le (hc : CallOK Φ P call) {n0 : Nat} {ops : List Oper} : ∀ (rest : List Oper) (ms : List Nat) (i touched : Nat) (seq : Bool) (base : T AObj) (outs : List (Nat × T AObj)) (reads : List Rdg) (deltas : List Delta) (tm : List Value) (s : St) (tm' : List Value) (s' : St),
    runDrawn E call n0 ops rest ms i touched seq base outs reads deltas tm s = some (tm', s') → zId P < s.next → s.next ≤ s'.next ∧ s'.mw ≤ s.mw
  | [], ms, i, touched, seq, base, outs, reads, deltas, tm, s, tm', s', h, hZ => by
    simp only [runDrawn, Option.some.injEq, Prod.mk.injEq] at h
    obtain ⟨_, rfl⟩ := h
    exact ⟨Nat.le_refl _, Nat.le_refl _⟩
  | o :: rest, ms, i, touched, seq, base, outs, reads, deltas, tm, s, tm', s', h, hZ => by
    unfold runDrawn at h
    simp only at h
    cases hw : wanted ops tm o with
    | false => rw [hw, cond_false] at h; exact runDrawn_le hc rest _ _ _ _ _ _ _ _ _ _ _ _ h hZ
    | true =>
      rw [hw, cond_true] at h
      split at h
      · rw [fVal_eq] at h; exact runDrawn_le hc rest _ _ _ _ _ _ _ _ _ _ _ _ h hZ
      · split at h
        · rw [fVal_eq] at h; exact runDrawn_le hc rest _ _ _ _ _ _ _ _ _ _ _ _ h hZ
        obtain ⟨_, h⟩ := bif_not h
        split at h
        · rename_i v s1 hd
          rw [fVal_eq] at h
          obtain ⟨m1, m2, _⟩ := doOp_mono hc hd hZ
          dsimp only at m1 m2
          rcases bif_or h with ⟨_, h⟩ | ⟨_, h⟩
          · obtain ⟨h1, h2⟩ := runDrawn_le hc rest _ _ _ _ _ _ _ _ _ _ _ _ h (by dsimp only; omega)
            dsimp only at h1 h2
            exact ⟨by omega, Nat.le_trans h2 (Nat.min_le_left _ _)⟩
          · obtain ⟨_, h⟩ := bif_inv h
            obtain ⟨h1, h2⟩ := runDrawn_le hc rest _ _ _ _ _ _ _ _ _ _ _ _ h (by dsimp only; omega)
            dsimp only at h1 h2
            exact ⟨by omega, Nat.le_trans h2 (Nat.min_le_left _ _)⟩
        · cases h

theorem region_drawn (hE : E.P = P) (hc : CallOK Φ P call) (hmix : P.follows .mixedOrders = true) {ops : Array Oper} (hok : opsOK (zId P) ops.toList = true)
    (hdr : drawnOK ops [] ops.toList (masks ops.toList []) 0 = true) {tm tm' : List Value} {s s' : St}
    (h : runDrawn E call s.next ops.toList ops.toList (masks ops.toList []) 0 0 false s.heap [] [] [] tm s = some (tm', s')) (hZ : zId P < s.next) :
    Mo s s' ∧ ∀ (c : Ctx) (D : Nat → Prop) (w : World) (a : Act) (id : Nat) (Q : Exit → Act → World → Prop), Bd s → HR Φ P c D s.heap w → Glob (zId P) c D → (∀ o, s.next ≤ o → o < s'.next → ¬D o) → LR (zId P) c D tm a.tmps.toList →
      (∀ c' a' w', Step Φ P c c' D s.heap s'.heap s.next s'.next s'.mw w w' → LR (zId P) c' (Dm D s.next s'.next) tm' a'.tmps.toList → a'.defers = a.defers → Q .normal a' w') →
      (Code.region id ops true).wp P Q a w := by
  obtain ⟨le1, le2⟩ := runDrawn_le hc _ _ _ _ _ _ _ _ _ _ _ _ _ h hZ
  have tr : Bd s → Traced P E call ops.toList (masks ops.toList []) tm s.heap.get s.next 0 (fun _ => ⟨0, undef, s, s, none⟩) s tm' s' := fun hB => by
    refine drawn_trace hE hc ops.toList 0 _ 0 false s.heap [] [] [] tm s tm' s' (fun j => by rw [Nat.zero_add]) ?_ hZ ?_ (Nat.zero_le _)
    · rw [List.drop_zero]; exact h
    · refine ⟨?_, hB, rfl, Nat.le_refl _, fun j hj => by omega, fun j hj => by omega, fun _ => ⟨fun j hj => by omega, fun m p => rfl, fun d hd => (by cases hd), fun j hj => by omega⟩, hB.2, rfl, fun j hj => by omega, fun j hj => by omega⟩
      unfold text
      exact (tmSel_none _ _ _ fun j _ => by simp).symm
  refine ⟨⟨le1, le2, fun hB => ?_⟩, fun c D w a id Q hB hH hG hf hT hQ => ?_⟩
  · obtain ⟨R, _, _, _, _, _, _, b7, _, _, b10⟩ := tr hB
    exact ⟨b7, b10⟩
  · obtain ⟨R, b1, b2, b3, b4, b5, b6, b7, b8, b9, b10⟩ := tr hB
    refine wp_region_any hmix ?_
    have T : TI P E call ops tm R D s.heap.get s.next s'.next s'.mw := by
      refine ⟨fun k o ho => b2 k (Nat.zero_le _) o ho, hok, fun k o ho => ?_, fun k hk => b8 k (Nat.zero_le _) hk, fun k hk => b9 k (Nat.zero_le _) hk, hB.2, ?_, hf, hZ⟩
      rotate_left
      · intro k hk hk2
        have C := (b2 k (Nat.zero_le _) _ (List.getElem?_eq_getElem hk)).k2 hk2
        exact (doOp_mono hc C.2.1 (by have := C.2.2.2.2.1; omega)).1
      refine drawnOK_spec ops.toList 0 (fun q => by rw [Nat.zero_add]) (Nat.zero_le _) ?_ k (Nat.zero_le _) o ho
      rw [List.take_zero, List.drop_zero]; exact hdr
    have hrep : ∀ j, (Array.replicate ops.size false).getD j false = false := fun j => by
      rw [Array.getD_eq_getD_getElem?, Array.getElem?_replicate]; split <;> rfl
    have hrepf : (fun j => (Array.replicate ops.size false).getD j false) = fun _ => false := funext hrep
    refine any_order hE hc T hG (c0 := c) (w0 := w) (a0 := a) ?_ ops.size _ c D s.heap.get a _ (by simp) (by simp [List.countP_replicate]) (fun j k hj => by rw [hrep] at hj; cases hj) ?_ ?_ rfl
    · intro c' D' F a' w' I hF hT' hd'
      rw [hF, ← b4] at I
      rw [← b3] at hT'
      have hHR : HR Φ P c' (Dm D s.next s'.next) s'.heap w' := I.hr.toT.dm I.dom1
      refine hQ c' a' w' ⟨b5, I.agree, I.low, hHR, I.os, I.tape, I.output, I.size, I.far, I.live, fun p hp hl => b10 p hp (hB.2 p hl)⟩ (hT'.mono (fun _ _ => ⟨rfl, rfl, rfl⟩) I.dom1) hd'
    · rw [hrepf]
      refine ⟨(hH.drawn _).toF, .inl ⟨fun j hj => (by cases hj), fun p => (selTo_cut (k := 0) p _ (Nat.zero_le _) (fun _ _ _ _ _ => rfl)).symm⟩, fun k hk _ hk2 p hp1 hp2 => ?_, fun _ _ => ⟨rfl, rfl, rfl⟩, fun _ _ => rfl, fun p hp => .inl hp, fun p hp => hp, rfl, rfl, rfl, Nat.le_refl _, fun _ _ _ => rfl, fun p hp => .inl hp⟩
      have C := (T.cr k _ (List.getElem?_eq_getElem hk)).k2 hk2
      have := T.hi k hk hk2
      exact hf p (by have := C.2.2.2.2.1; omega) (by omega)
    · rw [hrepf, tmSel_none _ _ _ fun _ _ => rfl]; exact hT

def AExit.toExit : AExit → Exit
  | .normal => .normal
  | .exit id => .exit id
  | .ret => .ret

/-- A place of the runner and one of the model, behind a step. -/
def Behind (Φ : Fx) (P : Program) (c : Ctx) (D : Nat → Prop) (w : World) (s s' : St) (tm' : List Value) (a a' : Act) (w' : World) : Prop :=
  ∃ c', Step Φ P c c' D s.heap s'.heap s.next s'.next s'.mw w w' ∧ LR (zId P) c' (Dm D s.next s'.next) tm' a'.tmps.toList ∧ a'.defers = a.defers

theorem Behind.trans {c : Ctx} {D : Nat → Prop} {w w1 w2 : World} {s s1 s2 : St} {tm2 : List Value} {a a1 a2 : Act} {c1 : Ctx} (hH : HR Φ P c D s.heap w) (hf : ∀ o, s.next ≤ o → o < s2.next → ¬D o)
    (h1 : Step Φ P c c1 D s.heap s1.heap s.next s1.next s1.mw w w1) (hd : a1.defers = a.defers) (hm : s2.mw ≤ s1.mw)
    (h : Behind Φ P c1 (Dm D s.next s1.next) w1 s1 s2 tm2 a1 a2 w2) : Behind Φ P c D w s s2 tm2 a a2 w2 := by
  obtain ⟨c2, k1, k2, k3⟩ := h
  refine ⟨c2, (h1.weaken hm).trans (fun o ho hoo => hf o hoo.1 hoo.2 ho) hH k1, ?_, k3.trans hd⟩
  rw [Dm.trans h1.le k1.le] at k2
  exact k2

/-- What is promised of code. -/
def CodeOK (Φ : Fx) (P : Program) (code : Code) (tm : List Value) (s : St) (x : AExit) (tm' : List Value) (s' : St) : Prop :=
  Mo s s' ∧ ∀ (c : Ctx) (D : Nat → Prop) (w : World) (a : Act) (Q : Exit → Act → World → Prop), Bd s → HR Φ P c D s.heap w → Glob (zId P) c D → (∀ o, s.next ≤ o → o < s'.next → ¬D o) → LR (zId P) c D tm a.tmps.toList →
    (∀ a' w', Behind Φ P c D w s s' tm' a a' w' → Q x.toExit a' w') → code.wp P Q a w

theorem Behind.refl {c : Ctx} {D : Nat → Prop} {w : World} {s : St} {tm : List Value} {a : Act} (hH : HR Φ P c D s.heap w) (hT : LR (zId P) c D tm a.tmps.toList) : Behind Φ P c D w s s tm a a w :=
  ⟨c, .refl hH, by rw [Dm.nil]; exact hT, rfl⟩

theorem exec_sound (hE : E.P = P) (hc : CallOK Φ P call) (hmix : P.follows .mixedOrders = true) : ∀ (code : Code) (tm : List Value) (s : St) (x : AExit) (tm' : List Value) (s' : St),
    exec E call code tm s = some (x, tm', s') → zId P < s.next → CodeOK Φ P code tm s x tm' s' := by
  intro code
  induction code with
  | skip =>
    intro tm s x tm' s' h hZ
    simp only [exec, Option.some.injEq, Prod.mk.injEq] at h
    obtain ⟨rfl, rfl, rfl⟩ := h
    exact ⟨.refl _, fun c D w a Q hB hH hG hf hT hQ => wp_skip (hQ a w (.refl hH hT))⟩
  | region id ops draw =>
    intro tm s x tm' s' h hZ
    unfold exec at h
    rw [hE] at h
    obtain ⟨hok, h⟩ := bif_inv h
    cases draw with
    | true =>
      rw [cond_true] at h
      obtain ⟨hdr, h⟩ := bif_inv h
      split at h
      · rename_i tm1 s1 hr
        simp only [Option.some.injEq, Prod.mk.injEq] at h
        obtain ⟨rfl, rfl, rfl⟩ := h
        obtain ⟨h1, h2⟩ := region_drawn hE hc hmix hok hdr hr hZ
        exact ⟨h1, fun c D w a Q hB hH hG hf hT hQ => h2 c D w a id Q hB hH hG hf hT fun c' a' w' k1 k2 k3 => hQ a' w' ⟨c', k1, k2, k3⟩⟩
      · cases h
    | false =>
      rw [cond_false] at h
      split at h
      · rename_i tm1 s1 hr
        simp only [Option.some.injEq, Prod.mk.injEq] at h
        obtain ⟨rfl, rfl, rfl⟩ := h
        refine ⟨runOps_mono hc _ _ _ _ _ hr hZ, fun c D w a Q hB hH hG hf hT hQ => ?_⟩
        refine wp_region ?_
        have := runOps_sound hE hc hok (Q := Q) ops.toList 0 tm tm1 s s1 (fun j => by rw [Nat.zero_add, Array.getElem?_toList]) hr hZ c D w a hB hH hG hf hT fun c' a' w' k1 k2 k3 => hQ a' w' ⟨c', k1, k2, k3⟩
        rw [Array.length_toList] at this
        rw [List.range_eq_range']
        exact this
      · cases h
  | seq x y ihx ihy =>
    intro tm s e tm' s' h hZ
    unfold exec at h
    split at h
    · rename_i tm1 s1 h1
      obtain ⟨m1, k1⟩ := ihx tm s _ tm1 s1 h1 hZ
      obtain ⟨m2, k2⟩ := ihy tm1 s1 e tm' s' h (by have := m1.1; omega)
      refine ⟨m1.trans m2, fun c D w a Q hB hH hG hf hT hQ => wp_seq ?_⟩
      obtain ⟨f1, f2⟩ := fresh_sub hf m1.1 m2.1
      refine k1 c D w a _ hB hH hG f1 hT fun a1 w1 hb => ?_
      obtain ⟨c1, st1, l1, d1⟩ := hb
      exact k2 c1 (Dm D s.next s1.next) w1 a1 Q (m1.2.2 hB).1 st1.hr (hG.step st1 hZ) f2 l1 fun a2 w2 hb2 => hQ a2 w2 (.trans hH hf st1 d1 m2.2.1 hb2)
    · rename_i r hr
      obtain ⟨m1, k1⟩ := ihx tm s e tm' s' h hZ
      refine ⟨m1, fun c D w a Q hB hH hG hf hT hQ => wp_seq (k1 c D w a _ hB hH hG hf hT fun a' w' hb => ?_)⟩
      have := hQ a' w' hb
      cases e with
      | normal => exact absurd h (hr _ _)
      | exit id => exact this
      | ret => exact this
  | cond cn t e iht ihe =>
    intro tm s x tm' s' h hZ
    unfold exec at h
    have heval : ∀ (c : Ctx) (D : Nat → Prop) (a : Act) (b : Bool), Glob (zId P) c D → LR (zId P) c D tm a.tmps.toList → aeval (zId E.P) tm cn = .bool b → a.eval cn = .bool b := by
      intro c D a b hG hT hb
      rw [hE] at hb
      have := ev1_rel hT hG cn
      rw [hb] at this
      have h2 := kept_bool this
      cases cn with
      | const v =>
        simp only [aeval] at hb
        cases hv : ground2 v with
        | false => rw [hv] at hb; cases hb
        | true => rw [hv] at hb; exact hb
      | global g =>
        simp only [aeval] at hb
        cases hv : Nat.blt g (zId P) <;> rw [hv] at hb <;> cases hb
      | tmp t => exact h2
      | func f => exact h2
    split at h
    · rename_i hb
      obtain ⟨m1, k1⟩ := iht tm s x tm' s' h hZ
      exact ⟨m1, fun c D w a Q hB hH hG hf hT hQ => wp_cond_true (heval c D a true hG hT hb) (k1 c D w a Q hB hH hG hf hT hQ)⟩
    · rename_i hb
      obtain ⟨m1, k1⟩ := ihe tm s x tm' s' h hZ
      exact ⟨m1, fun c D w a Q hB hH hG hf hT hQ => wp_cond_false (heval c D a false hG hT hb) (k1 c D w a Q hB hH hG hf hT hQ)⟩
    · cases h
  | block id b ih =>
    intro tm s x tm' s' h hZ
    unfold exec at h
    split at h
    · rename_i k tm1 s1 h1
      obtain ⟨m1, k1⟩ := ih tm s _ tm1 s1 h1 hZ
      cases hk : Nat.beq k id with
      | true =>
        rw [hk, cond_true] at h
        simp only [Option.some.injEq, Prod.mk.injEq] at h
        obtain ⟨rfl, rfl, rfl⟩ := h
        rw [Nat.beq_eq] at hk
        subst hk
        exact ⟨m1, fun c D w a Q hB hH hG hf hT hQ => wp_block (k1 c D w a _ hB hH hG hf hT fun a' w' hb => by
          show (if k = k then Q .normal a' w' else _)
          rw [if_pos rfl]; exact hQ a' w' hb)⟩
      | false =>
        rw [hk, cond_false] at h
        simp only [Option.some.injEq, Prod.mk.injEq] at h
        obtain ⟨rfl, rfl, rfl⟩ := h
        have hne : k ≠ id := fun e => by rw [e, nbeq_yes rfl] at hk; cases hk
        exact ⟨m1, fun c D w a Q hB hH hG hf hT hQ => wp_block (k1 c D w a _ hB hH hG hf hT fun a' w' hb => by
          show (if k = id then _ else Q (.exit k) a' w')
          rw [if_neg hne]; exact hQ a' w' hb)⟩
    · rename_i r hr
      obtain ⟨m1, k1⟩ := ih tm s x tm' s' h hZ
      refine ⟨m1, fun c D w a Q hB hH hG hf hT hQ => wp_block (k1 c D w a _ hB hH hG hf hT fun a' w' hb => ?_)⟩
      have := hQ a' w' hb
      cases x with
      | normal => exact this
      | exit k => exact absurd h (hr _ _ _)
      | ret => exact this
  | loop body ih =>
    intro tm s x tm' s' h hZ
    unfold exec at h
    -- rounds
    have key : ∀ (n : Nat) (tm : List Value) (s : St), iter (fun tm s => exec E call body tm s) n tm s = some (x, tm', s') → zId P < s.next →
        Mo s s' ∧ ∀ (c : Ctx) (D : Nat → Prop) (w : World) (a : Act) (Q : Exit → Act → World → Prop), Bd s → HR Φ P c D s.heap w → Glob (zId P) c D → (∀ o, s.next ≤ o → o < s'.next → ¬D o) → LR (zId P) c D tm a.tmps.toList →
          (∀ a' w', Behind Φ P c D w s s' tm' a a' w' → Q x.toExit a' w') → ∀ b k cs, ∃ e a' w', Q e a' w' ∧ Arrives P (lone (b.at a (.code body :: .inLoop body :: k)) cs w) b k cs e a' w' := by
      intro n
      induction n with
      | zero => intro tm s h; cases h
      | succ n ihn =>
        intro tm s h hZ
        unfold iter at h
        split at h
        · rename_i tm1 s1 h1
          obtain ⟨m1, k1⟩ := ih tm s _ tm1 s1 h1 hZ
          obtain ⟨m2, k2⟩ := ihn tm1 s1 h (by have := m1.1; omega)
          refine ⟨m1.trans m2, fun c D w a Q hB hH hG hf hT hQ b k cs => ?_⟩
          obtain ⟨f1, f2⟩ := fresh_sub hf m1.1 m2.1
          obtain ⟨e, a1, w1, ⟨rfl, hb⟩, harr⟩ := k1 c D w a (fun e a' w' => e = .normal ∧ Behind Φ P c D w s s1 tm1 a a' w') hB hH hG f1 hT (fun a' w' hb => ⟨rfl, hb⟩) b (.inLoop body :: k) cs
          obtain ⟨c1, st1, l1, d1⟩ := hb
          obtain ⟨e2, a2, w2, hq2, harr2⟩ := k2 c1 (Dm D s.next s1.next) w1 a1 Q (m1.2.2 hB).1 st1.hr (hG.step st1 hZ) f2 l1 (fun a2 w2 hb2 => hQ a2 w2 (.trans hH hf st1 d1 m2.2.1 hb2)) b k cs
          exact ⟨e2, a2, w2, hq2, .of_steps (Steps.trans harr (.one step_inLoop)) harr2⟩
        · rename_i r hr
          obtain ⟨m1, k1⟩ := ih tm s x tm' s' h hZ
          refine ⟨m1, fun c D w a Q hB hH hG hf hT hQ b k cs => ?_⟩
          obtain ⟨e, a1, w1, ⟨rfl, hq⟩, harr⟩ := k1 c D w a (fun e a' w' => e = x.toExit ∧ Q x.toExit a' w') hB hH hG hf hT (fun a' w' hb => ⟨rfl, hQ a' w' hb⟩) b (.inLoop body :: k) cs
          cases x with
          | normal => exact absurd h (hr _ _)
          | exit id => exact ⟨_, a1, w1, hq, .pass (x := .inLoop body) rfl (fun _ _ => .inl (by simp [AExit.toExit])) harr⟩
          | ret => exact ⟨_, a1, w1, hq, .pass (x := .inLoop body) rfl (fun _ _ => .inl (by simp [AExit.toExit])) harr⟩
    obtain ⟨m1, k1⟩ := key rounds tm s h hZ
    refine ⟨m1, fun c D w a Q hB hH hG hf hT hQ b k cs => ?_⟩
    obtain ⟨e, a', w', hq, harr⟩ := k1 c D w a Q hB hH hG hf hT hQ b k cs
    exact ⟨e, a', w', hq, .of_steps (.one step_loop) harr⟩
  | exit id =>
    intro tm s x tm' s' h hZ
    simp only [exec, Option.some.injEq, Prod.mk.injEq] at h
    obtain ⟨rfl, rfl, rfl⟩ := h
    exact ⟨.refl _, fun c D w a Q hB hH hG hf hT hQ => wp_exit (hQ a w (.refl hH hT))⟩
  | ret =>
    intro tm s x tm' s' h hZ
    simp only [exec, Option.some.injEq, Prod.mk.injEq] at h
    obtain ⟨rfl, rfl, rfl⟩ := h
    exact ⟨.refl _, fun c D w a Q hB hH hG hf hT hQ => wp_ret (hQ a w (.refl hH hT))⟩
  | _ => intro tm s x tm' s' h; cases h
end
end Go.Proofs.Ytnfjdoeemnhkbaa.Canon

namespace Go.Proofs.Ytnfjdoeemnhkbaa.Canon
set_option linter.unusedVariables false
set_option linter.unusedSimpArgs false
open Go.RowKit
section
variable {Φ : Fx} {P : Program} {E : Env}

def resF (tmps : Array Value) : ResultVar → Sem Value
  | .tmp t => pure (tmps.getD t undef)
  | .cell a t => do loadVar t (← asAddr (tmps.getD a undef))

theorem tmp_rel {c : Ctx} {D : Nat → Prop} {Z : Nat} {tm : List Value} {tmps : Array Value} (h : LR Z c D tm tmps.toList) (t : Nat) : VR Z c D (match nth tm t with | some v => v | none => undef) (tmps.getD t undef) := by
  rw [nth_eq]
  cases ht : tm[t]? with
  | none =>
    have : tmps.toList[t]? = none := by rw [List.getElem?_eq_none]; rw [← h.1]; exact List.getElem?_eq_none_iff.1 ht
    have : tmps.getD t undef = undef := by
      rw [Array.getElem?_toList] at this
      simp [this]
    rw [this]; exact .undef
  | some v =>
    obtain ⟨v', h1, h2⟩ := h.at ht
    have : tmps.getD t undef = v' := by
      rw [Array.getElem?_toList] at h1
      simp [h1]
    rw [this]; exact h2

theorem resultsOf_run {c : Ctx} {D : Nat → Prop} {w : World} {s : St} (h : HR Φ P c D s.heap w) {tm : List Value} {tmps : Array Value} (hT : LR (zId P) c D tm tmps.toList) :
    ∀ (rs : List ResultVar) (l : List Value), resultsOf P tm s rs = some l → ∃ l', LR (zId P) c D l l' ∧
      (rs.mapM (resF tmps)).run P w = .ok l' w
  | [], l, hr => by
    simp only [resultsOf, Option.some.injEq] at hr
    subst hr
    exact ⟨[], .nil, rfl⟩
  | .tmp t :: rs, l, hr => by
    unfold resultsOf at hr
    split at hr
    · rename_i l1 h1
      simp only [Option.some.injEq] at hr
      subst hr
      obtain ⟨l', k1, k2⟩ := resultsOf_run h hT rs l1 h1
      refine ⟨_ :: l', .cons (tmp_rel hT t) k1, ?_⟩
      have hx : (resF tmps (.tmp t)).run P w = .ok (tmps.getD t undef) w := rfl
      rw [List.mapM_cons]
      simp only [Sem.run_bind, hx, Sem.run_pure, Result.andThen_ok, k2]
    · cases hr
  | .cell a t :: rs, l, hr => by
    unfold resultsOf at hr
    split at hr
    · rename_i ad sz l1 ha hag hsz h1
      split at hr
      · rename_i cs hcs
        simp only [Option.some.injEq] at hr
        subst hr
        obtain ⟨l', k1, k2⟩ := resultsOf_run h hT rs l1 h1
        rw [nth_eq] at ha
        obtain ⟨v', q1, q2⟩ := hT.at ha
        obtain ⟨o, off, rfl, e3, hd⟩ := ptr_inv q2
        have e4 : tmps.getD a undef = .pointer (some ⟨c.ρ o, off, none⟩) := by
          rw [Array.getElem?_toList] at q1; rw [Array.getD_eq_getD_getElem?, q1, e3]; rfl
        obtain ⟨l2, r1, r2, r3, r4⟩ := read_cells h hcs
        refine ⟨_ :: l', .cons (VR.agg_of r1) k1, ?_⟩
        have hx : (resF tmps (.cell a t)).run P w = .ok (.agg l2.toArray) w := by
          simp only [resF, Sem.run_bind, e4, asAddr, Sem.run_pure, Result.andThen_ok, loadVar, run_isAgg' hag, if_true, run_sizeOf' hsz]
          rw [run_cells (by rw [← r1.1, r2]) r3]
          rfl
        rw [List.mapM_cons]
        simp only [Sem.run_bind, hx, Sem.run_pure, Result.andThen_ok, k2]
      · cases hr
    · rename_i ad sz l1 ha hag hsz h1
      split at hr
      · rename_i u hcs
        simp only [Option.some.injEq] at hr
        subst hr
        obtain ⟨l', k1, k2⟩ := resultsOf_run h hT rs l1 h1
        rw [nth_eq] at ha
        obtain ⟨v', q1, q2⟩ := hT.at ha
        obtain ⟨o, off, rfl, e3, hd⟩ := ptr_inv q2
        have e4 : tmps.getD a undef = .pointer (some ⟨c.ρ o, off, none⟩) := by
          rw [Array.getElem?_toList] at q1; rw [Array.getD_eq_getD_getElem?, q1, e3]; rfl
        obtain ⟨l2, r1, r2, r3, r4⟩ := read_cells h hcs
        obtain ⟨u', p1, p2⟩ := r1.at (i := 0) rfl
        have := r3 0 u' p1
        rw [Nat.add_zero] at this
        refine ⟨u' :: l', .cons p2 k1, ?_⟩
        have hx : (resF tmps (.cell a t)).run P w = .ok u' w := by
          simp only [resF, Sem.run_bind, e4, asAddr, Sem.run_pure, Result.andThen_ok, loadVar, run_isAgg' hag, Bool.false_eq_true, if_false, run_load, this]
        rw [List.mapM_cons]
        simp only [Sem.run_bind, hx, Sem.run_pure, Result.andThen_ok, k2]
      · cases hr
    · cases hr

theorem one_rel {c : Ctx} {D : Nat → Prop} {l l' : List Value} (h : LR (zId P) c D l l') : VR (zId P) c D (one l) (if h : l'.toArray.size = 1 then l'.toArray[0] else .tuple l'.toArray) := by
  unfold one
  split
  · rename_i v
    obtain ⟨v', r', rfl, h1, h2⟩ := h.inv_cons
    rw [h2.inv_nil]
    exact h1
  · rename_i l2 hn
    rw [dif_neg]
    · exact VR.tuple_of h
    · intro hs
      rw [List.size_toArray, ← h.1] at hs
      obtain ⟨x, hx⟩ := List.length_eq_one_iff.1 hs
      exact hn x hx

theorem results_run {c : Ctx} {D : Nat → Prop} {w : World} {s : St} (h : HR Φ P c D s.heap w) {tm : List Value} {tmps : Array Value} (hT : LR (zId P) c D tm tmps.toList) {fn : Func} {l : List Value}
    (hl : resultsOf P tm s fn.results.toList = some l) : ∃ v', VR (zId P) c D (one l) v' ∧ (results fn tmps).run P w = .ok v' w := by
  obtain ⟨l', k1, k2⟩ := resultsOf_run h hT _ _ hl
  refine ⟨_, one_rel k1, ?_⟩
  have e : results fn tmps = (do
      let vs ← fn.results.mapM (resF tmps)
      pure (if h : vs.size = 1 then vs[0] else .tuple vs)) := rfl
  rw [e, Array.mapM_eq_mapM_toList]
  simp only [Sem.run_bind, Sem.run_map, k2, Result.andThen_ok, Sem.run_pure]

theorem undefs_eq : ∀ n, undefs n = List.replicate n undef
  | 0 => rfl
  | n + 1 => by rw [undefs, undefs_eq n]; rfl

theorem LR.undefs {c : Ctx} {D : Nat → Prop} {Z : Nat} : ∀ n, LR Z c D (Canon.undefs n) (List.replicate n undef)
  | 0 => .nil
  | n + 1 => .cons .undef (LR.undefs n)

theorem reach_get {n0 : Nat} {h : T AObj} (hb : ∀ o, h.get o ≠ none → o < 4000000) : ∀ (f : Nat) (vs : List Value) (acc : T AObj) (o : Nat),
    (reach n0 h f vs acc).get o = acc.get o ∨ (n0 ≤ o ∧ (reach n0 h f vs acc).get o = h.get o)
  | 0, vs, acc, o => .inl (by unfold reach; rfl)
  | f + 1, [], acc, o => .inl (by unfold reach; rfl)
  | f + 1, v :: vs, acc, o => by
    have block : ∀ (b : Nat) (vs : List Value),
        (bif Nat.blt b n0 then reach n0 h f vs acc
          else match acc.get b with
            | some _ => reach n0 h f vs acc
            | none => match h.get b with
              | none => reach n0 h f vs acc
              | some ob => reach n0 h f (bif allL ground0 ob.cells then vs else app ob.cells vs) (T.set (some ob) deep acc b)).get o = acc.get o ∨
        (n0 ≤ o ∧ (bif Nat.blt b n0 then reach n0 h f vs acc
          else match acc.get b with
            | some _ => reach n0 h f vs acc
            | none => match h.get b with
              | none => reach n0 h f vs acc
              | some ob => reach n0 h f (bif allL ground0 ob.cells then vs else app ob.cells vs) (T.set (some ob) deep acc b)).get o = h.get o) := by
      intro b vs
      cases hlt : Nat.blt b n0 with
      | true => exact reach_get hb f vs acc o
      | false =>
        rw [cond_false]
        have hge : n0 ≤ b := by
          rw [nblt] at hlt; simpa using hlt
        split
        · exact reach_get hb f vs acc o
        · split
          · exact reach_get hb f vs acc o
          · rename_i ob hob
            have hbb := hb b (by rw [hob]; simp)
            rcases reach_get hb f (bif allL ground0 ob.cells then vs else app ob.cells vs) (T.set (some ob) deep acc b) o with h1 | h1
            · rw [h1, get_set _ _ _ _ _ (by unfold deep; omega)]
              by_cases hob2 : o = b
              · rw [if_pos hob2]; exact .inr ⟨by omega, by rw [hob2, hob]⟩
              · rw [if_neg hob2]; exact .inl rfl
            · exact .inr h1
    unfold reach
    split
    · exact block _ _
    · exact block _ _
    · exact reach_get hb f _ acc o
    · exact reach_get hb f _ acc o
    · exact reach_get hb f _ acc o
    · exact reach_get hb f _ acc o
    · exact reach_get hb f _ acc o

/-- A call that wrote nothing of what was there: what is new may be forgotten. -/
theorem Step.quiet {c c' : Ctx} {D : Nat → Prop} {s s' : St} {w w' : World} (h : Step Φ P c c' D s.heap s'.heap s.next s'.next s'.mw w w') (hB : Bd s) (hr : s.next ≤ s'.mw) {H : T AObj} (m : Nat)
    (h1 : ∀ o obj, H.get o = some obj → s'.heap.get o = some obj) (h2 : ∀ o, o < s.next → H.get o = s.heap.get o) : Step Φ P c c' D s.heap H s.next s'.next m w w' := by
  have hno : ¬∃ p, s'.mw ≤ p ∧ s.heap.get p ≠ none := fun ⟨p, h3, h4⟩ => by have := hB.2 p h4; omega
  have hn : ∀ o, H.get o ≠ none → s'.heap.get o ≠ none := fun o ho => by
    obtain ⟨obj, hob⟩ := Option.ne_none_iff_exists'.1 ho
    rw [h1 o obj hob]; simp
  refine ⟨h.le, h.agree, h.low, h.hr.sub h1, h.os, h.tape, h.output, h.size, fun b hb _ => h.far b hb fun ⟨p, h3, h4, _⟩ => hno ⟨p, h3, h4⟩, fun o ho => ?_, fun o _ hl => h2 o (hB.2 o hl)⟩
  rcases h.live o (hn o ho) with h3 | ⟨h3, h4, h5 | ⟨p, h6, h7, _⟩⟩
  · exact .inl h3
  · exact .inr ⟨h3, h4, .inl h5⟩
  · exact absurd ⟨p, h6, h7⟩ hno

theorem kept_u64 {c : Ctx} {D : Nat → Prop} {Z n : Nat} {v : Value} (h : VR Z c D (.int .u64 (.ofNat n)) v) : v = .int .u64 (.ofNat n) := kept_int h

theorem byteList_run {c : Ctx} {D : Nat → Prop} {w : World} {H : T AObj} (h : HR Φ P c D H w) {v v' : Value} (hv : VR (zId P) c D v v') {r : List UInt8} (hr : byteList H v = some r) :
    (Extern.Bytes.bytesOf v').run P w = .ok ⟨r.toArray⟩ w := by
  unfold byteList at hr
  split at hr
  · simp only [Option.some.injEq] at hr
    subst hr
    rw [kept_str hv]
    rfl
  · simp only [Option.some.injEq] at hr
    subst hr
    cases hv; rfl
  · rename_i a n cap
    rcases bif_or hr with ⟨h1, h2⟩ | ⟨_, h2⟩
    · rw [Nat.beq_eq] at h1
      subst h1
      simp only [Option.some.injEq] at h2
      subst h2
      cases hv <;> rfl
    · split at h2
      · rename_i l hl
        obtain ⟨ns, k1, k2⟩ := toBytes_eq l r h2
        obtain ⟨o, off, sp⟩ := a
        have hlive : H.get o ≠ none := by
          unfold cellsAt at hl
          split at hl
          · rename_i obj ho; dsimp only at ho; rw [ho]; simp
          · cases hl
        cases hv with
        | sl o off l2 cp hd hz2 =>
          obtain ⟨l', r1, r2, r3, r4⟩ := read_cells h hl
          have g : allL Canon.ground0 l = true := by
            rw [k1, allL_eq]; intro y hy
            obtain ⟨z, _, rfl⟩ := List.mem_map.1 hy
            rfl
          have e : l' = l := r1.ground0 g
          have hn : ns.length = n := by rw [← r2, k1]; simp
          have := Lib.run_loadBytesX (P := P) (w := w) ns ⟨c.ρ o, off, none⟩ .empty (fun j x hj => by
            rw [addr_add]
            refine r3 j _ ?_
            rw [e, k1, List.getElem?_map, hj]; rfl)
          rw [hn] at this
          refine this.trans ?_
          rw [k2]
          simp [Lib.bytesOf, UInt8.ofNat]
        | z0 a2 => exact absurd rfl (h.dom _ hlive).2.1
        | z1 a2 cp => exact absurd rfl (h.dom _ hlive).2.1
      · cases h2
  · cases hr

theorem ext_sound {f : FuncId} {fn : Func} (hfn : P.funcs[f]? = some fn) (hb : fn.body = none) (hname : (fn.name == "runtime.NumGoroutine") = false) (ho : fn.origin = "") {args : List Value} {s : St} {v : Value}
    (h : ext fn.name args s = some v) : ∃ fn row, P.funcs[f]? = some fn ∧ fn.body.isNone = true ∧ (fn.name == "runtime.NumGoroutine") = false ∧ Extern.findNext fn = none ∧ Extern.find fn = some row ∧
    ∀ c D w args', HR Φ P c D s.heap w → LR (zId P) c D args args' → ∃ v', VR (zId P) c D v v' ∧ (row args'.toArray).run P w = .ok v' w := by
  unfold ext at h
  rcases bif_or h with ⟨h1, h⟩ | ⟨_, h⟩
  · have hn : fn.name = "math/bits.Add64" := by simpa using h1
    split at h
    · rename_i x y k hold
      obtain ⟨g1, g2⟩ := bif_inv h
      simp only [Option.some.injEq] at g2
      subst g2
      rw [Nat.ble_eq] at g1
      refine ⟨fn, (Extern.MathBitsCarry.rows[0]'(by decide)).2, hfn, by rw [hb]; rfl, hname, ?_, ?_, fun c D w args' hH hA => ?_⟩
      · unfold Extern.findNext; rw [hn, ho]; rfl
      · unfold Extern.find; rw [hn]; rfl
      · obtain ⟨v1, r1, rfl, a1, a2⟩ := hA.inv_cons
        obtain ⟨v2, r2, rfl, a3, a4⟩ := a2.inv_cons
        obtain ⟨v3, r3, rfl, a5, a6⟩ := a4.inv_cons
        rw [kept_int a1, kept_int a3, kept_int a5, a6.inv_nil]
        refine ⟨_, .tuple_of (LR.cons (.int _ _) (LR.cons (.int _ _) LR.nil)), ?_⟩
        have h3 : (Extern.MathBitsCarry.three "Add64" #[.int .u64 (.ofNat x), .int .u64 (.ofNat y), .int .u64 (.ofNat k)]).run P w = .ok (x, y, k) w := by
          have : k = 0 ∨ k = 1 := by omega
          rcases this with rfl | rfl <;> rfl
        show (Extern.MathBitsCarry.three "Add64" _ >>= _).run P w = _
        rw [Sem.run_bind, h3, Result.andThen_ok]
        rfl
    · cases h
  · rcases bif_or h with ⟨h1, h⟩ | ⟨_, h⟩
    · have hn : fn.name = "internal/bytealg.Compare" := by simpa using h1
      split at h
      · rename_i a b
        split at h
        · rename_i x y hx hy
          simp only [Option.some.injEq] at h
          subst h
          refine ⟨fn, Extern.BytealgCompare.compare, hfn, by rw [hb]; rfl, hname, ?_, ?_, fun c D w args' hH hA => ?_⟩
          · unfold Extern.findNext; rw [hn, ho]; rfl
          · unfold Extern.find; rw [hn]; rfl
          · obtain ⟨v1, r1, rfl, a1, a2⟩ := hA.inv_cons
            obtain ⟨v2, r2, rfl, a3, a4⟩ := a2.inv_cons
            rw [a4.inv_nil]
            refine ⟨_, .int _ _, ?_⟩
            show (do pure (goInt (Extern.BytealgCompare.cmp (← Extern.Bytes.bytesOf v1) (← Extern.Bytes.bytesOf v2))) : Sem Value).run P w = _
            simp only [Sem.run_bind, byteList_run hH a1 hx, byteList_run hH a3 hy, Result.andThen_ok, Sem.run_pure]
            rw [Lib.cmp_eq]
            rfl
        · cases h
      · cases h
    · cases h

/-- A call that turned nothing of what was there, with new names. -/
theorem Step.of_named {c : Ctx} {D : Nat → Prop} {H : T AObj} {n n' m : Nat} {w w' : World} {nl : Nat → List Value} {fz : Nat → Option Obj} (h : HR Φ P c D H w) (hle : n ≤ n') (hf : ∀ o, n ≤ o → o < n' → ¬D o) (hb : Below w.heap.size w w') (hn : Named Φ c n n' nl fz w w') :
    Step Φ P c ⟨c.ρ, c.x, nl, fz⟩ D H H n n' m w w' where
  le := hle
  agree := fun o ho => ⟨rfl, rfl, hn.old o ho⟩
  low := hn.low
  hr := by
    refine ⟨fun o ho => ⟨.inl (h.dom o ho).1, (h.dom o ho).2⟩, fun o obj ho => ?_, h.inj, h.belOf hb.os hb.tape hb.output hb.size (fun b hb' => hb.block b (Nat.lt_of_lt_of_le hb' h.bel.size)), h.up, h.nm, hn.at_, fun o ho => ?_, fun o ho => ?_⟩
    · have hr := h.rows o obj ho
      obtain ⟨cs, fr, k1, k2, k3, k4⟩ := hr.row
      refine ⟨hr.ex, cs, fr, by rw [hb.block _ hr.lt]; exact k1, k2, k3, ?_⟩
      exact k4.mono (fun o ho => ⟨rfl, rfl, hn.old o fun ⟨a, b⟩ => hf o a b ho⟩) fun o ho => .inl ho
    · exact (hn.low _ (h.lt ho)).trans (h.fr o ho)
    · by_cases ho2 : n ≤ o ∧ o < n'
      · exact hn.kn o ho2.1 ho2.2 ho
      · dsimp only at ho ⊢
        rw [hn.old o ho2] at ho ⊢
        exact Φ.mono o _ _ _ hn.more (h.kn o ho)
  os := hb.os
  tape := hb.tape
  output := hb.output
  size := hb.size
  far := fun b hlt _ => hb.block b hlt
  live := fun o ho => .inl ho
  same := fun _ _ _ => rfl

theorem Step.of_below {c : Ctx} {D : Nat → Prop} {H : T AObj} {n m : Nat} {w w' : World} (h : HR Φ P c D H w) (hb : Below w.heap.size w w') : Step Φ P c c D H H n n m w w' :=
  Step.of_named (nl := c.nv) (fz := c.fz) h (Nat.le_refl _) (fun o h1 h2 => by omega) hb ⟨fun _ _ => rfl, fun _ _ hx => hx, fun b x hx => (hb.block b (Array.getElem?_eq_some_iff.1 (h.fz b x hx)).1).trans (h.fz b x hx), fun _ _ => rfl, fun o h1 h2 => by omega⟩

theorem callN_sound (hE : E.P = P) (hEo : EnvOK Φ E) : ∀ d, CallOK Φ P (callN E d)
  | 0 => fun f args s v s' h => by cases h
  | d + 1 => by
    intro f args s v s' h hZ
    unfold callN at h
    split at h
    · cases h
    · rename_i fn hfn
      have hfn' := hEo.fn f fn hfn
      rw [hE] at hfn'
      split at h
      · rename_i hbody
        obtain ⟨ho, h⟩ := bif_inv h
        split at h
        · rename_i v1 hx
          simp only [Option.some.injEq, Prod.mk.injEq] at h
          obtain ⟨rfl, rfl⟩ := h
          exact ⟨.refl _, .inr ⟨rfl, ext_sound hfn' hbody (hEo.name f fn hfn) (by simpa using ho) hx⟩⟩
        · cases h
      · rename_i code hbody
        rcases bif_or h with ⟨hk, h⟩ | ⟨_, h⟩
        · simp only [Option.some.injEq, Prod.mk.injEq] at h
          obtain ⟨rfl, rfl⟩ := h
          have hk1 : E.known f = true := by
            cases hkf : E.known f with
            | true => rfl
            | false => rw [hkf] at hk; cases hk
          have hk2 : noArg args = true := by rw [hk1] at hk; exact hk
          refine ⟨.refl _, .inl ⟨⟨fn, hfn', by rw [hbody]; rfl, hEo.name f fn hfn⟩, fun c D w args' hB hH hG hf hA => ?_⟩⟩
          have ha : args = [] := by cases args with
            | nil => rfl
            | cons _ _ => cases hk2
          subst ha
          rw [hA.inv_nil]
          have := hEo.known f hk1 w
          rw [hE] at this
          exact this.mono fun e w' hp => ⟨c, .bool true, hp.1, Step.of_below hH hp.2, .bool true⟩
        cases hor : E.orc f args s with
        | some u =>
          rw [hor] at h
          simp only [Option.some.injEq] at h
          subst h
          obtain ⟨o1, o2, o3, o4, o5⟩ := hEo.orc f args _ _ _ hor
          refine ⟨⟨o3, by rw [o2]; exact Nat.le_refl _, fun hB => ⟨⟨o4 hB.1, fun o ho => ?_⟩, fun o _ _ => by rw [o1]⟩⟩, .inl ⟨⟨fn, hfn', by rw [hbody]; rfl, hEo.name f fn hfn⟩, fun c D w args' hB hH hG hf hA => ?_⟩⟩
          · rw [o1] at ho; have := hB.2 o ho; omega
          have := o5 c D w args' (by rw [hE]; exact hH) hf (by rw [hE]; exact hA)
          rw [hE] at this
          exact this.mono fun e w' ⟨nl, fz, v', h1, h2, h3, h4⟩ => ⟨_, v', h1, by rw [o1, o2]; exact Step.of_named hH o3 hf h2 h3, h4⟩
        | none =>
        rw [hor] at h
        simp only at h
        split at h
        · rename_i x tm' s1 hex
          obtain ⟨m1, k1⟩ := exec_sound hE (callN_sound hE hEo d) (by rw [← hE]; exact hEo.mixed) code _ _ x tm' s1 hex hZ
          have hnx : ∀ id, x ≠ .exit id := by
            rintro id rfl
            cases h
          have h' : (match resultsOf E.P tm' s1 fn.results.toList with
            | some l =>
              let v := one l
              bif Nat.ble s.next s1.mw then
                (bif ground2 v then some (v, { next := s1.next, mw := s.mw, heap := s.heap })
                else some (v, { next := s1.next, mw := s.mw, heap := reach s.next s1.heap 1000000 [v] s.heap }))
              else some (v, { next := s1.next, mw := Nat.min s.mw s1.mw, heap := s1.heap })
            | none => none : Option (Value × St)) = some (v, s') := by
            cases x with
            | exit id => exact absurd rfl (hnx id)
            | normal => exact h
            | ret => exact h
          clear h
          split at h'
          · rename_i l hl
            rw [hE] at hl
            -- what is left of memory
            have hfinal : v = one l ∧ Mo s s' ∧ s'.next = s1.next ∧ ∀ c c' D w w', Bd s → Step Φ P c c' D s.heap s1.heap s.next s1.next s1.mw w w' → Step Φ P c c' D s.heap s'.heap s.next s'.next s'.mw w w' := by
              simp only at h'
              cases hr : Nat.ble s.next s1.mw with
              | true =>
                rw [hr, cond_true] at h'
                rw [Nat.ble_eq] at hr
                have quiet : ∀ H : T AObj, (Bd s → (∀ o obj, H.get o = some obj → s1.heap.get o = some obj) ∧ ∀ o, o < s.next → H.get o = s.heap.get o) →
                    Mo s ⟨s1.next, s.mw, H⟩ ∧ ∀ c c' D w w', Bd s → Step Φ P c c' D s.heap s1.heap s.next s1.next s1.mw w w' → Step Φ P c c' D s.heap H s.next s1.next s.mw w w' := by
                  intro H hH
                  refine ⟨⟨m1.1, Nat.le_refl _, fun hB => ?_⟩, fun c c' D w w' hB hst => ?_⟩
                  · obtain ⟨q1, q2⟩ := hH hB
                    have b1 := (m1.2.2 hB).1
                    refine ⟨⟨b1.1, fun o ho => ?_⟩, fun o _ h2 => q2 o h2⟩
                    obtain ⟨obj, hob⟩ := Option.ne_none_iff_exists'.1 ho
                    exact b1.2 o (by rw [q1 o obj hob]; simp)
                  · obtain ⟨q1, q2⟩ := hH hB
                    exact Step.quiet (s := s) (s' := s1) hst hB hr s.mw q1 q2
                cases hg : ground2 (one l) with
                | true =>
                  rw [hg, cond_true] at h'
                  simp only [Option.some.injEq, Prod.mk.injEq] at h'
                  obtain ⟨rfl, rfl⟩ := h'
                  obtain ⟨q1, q2⟩ := quiet s.heap fun hB => ⟨fun o obj ho => by
                    have hlt := hB.2 o (by rw [ho]; simp)
                    rw [(m1.2.2 hB).2 o (by omega) hlt]; exact ho, fun _ _ => rfl⟩
                  exact ⟨rfl, q1, rfl, q2⟩
                | false =>
                  rw [hg, cond_false] at h'
                  simp only [Option.some.injEq, Prod.mk.injEq] at h'
                  obtain ⟨rfl, rfl⟩ := h'
                  obtain ⟨q1, q2⟩ := quiet (reach s.next s1.heap 1000000 [one l] s.heap) fun hB => by
                    have b1 := (m1.2.2 hB).1
                    have hrg := reach_get (n0 := s.next) (h := s1.heap) (fun o ho => by have := b1.2 o ho; have := b1.1; omega) 1000000 [one l] s.heap
                    refine ⟨fun o obj ho => ?_, fun o ho => ?_⟩
                    · rcases hrg o with h1 | ⟨_, h1⟩
                      · rw [h1] at ho
                        have hlt := hB.2 o (by rw [ho]; simp)
                        rw [(m1.2.2 hB).2 o (by omega) hlt]; exact ho
                      · rw [← h1]; exact ho
                    · rcases hrg o with h1 | ⟨h2, _⟩
                      · exact h1
                      · omega
                  exact ⟨rfl, q1, rfl, q2⟩
              | false =>
                rw [hr, cond_false] at h'
                simp only [Option.some.injEq, Prod.mk.injEq] at h'
                obtain ⟨rfl, rfl⟩ := h'
                refine ⟨rfl, ⟨m1.1, Nat.min_le_left _ _, fun hB => ?_⟩, rfl, fun c c' D w w' hB hst => hst.weaken (Nat.min_le_right _ _)⟩
                obtain ⟨b1, b2⟩ := m1.2.2 hB
                exact ⟨b1, fun o h1 h2 => b2 o (Nat.lt_of_lt_of_le h1 (Nat.min_le_right _ _)) h2⟩
            obtain ⟨rfl, hmo, hnext, hstep⟩ := hfinal
            refine ⟨hmo, .inl ⟨⟨fn, hfn', by rw [hbody]; rfl, hEo.name f fn hfn⟩, fun c D w args' hB hH hG hf hA => ?_⟩⟩
            refine calls_of_wp hfn' hbody ?_
            have hT : LR (zId P) c D (app args (undefs (fn.ntmps - lenN args 0))) (args'.toArray ++ Array.replicate (fn.ntmps - args'.toArray.size) undef).toList := by
              rw [app_eq, lenN_eq, Nat.add_zero, Array.toList_append, Array.toList_replicate, List.size_toArray, ← hA.1]
              exact hA.append (LR.undefs _)
            refine k1 c D w _ _ hB hH hG (by rw [← hnext]; exact hf) hT fun a' w' hb => ?_
            obtain ⟨c', st, l1, d1⟩ := hb
            obtain ⟨v', p1, p2⟩ := results_run st.hr l1 hl
            have hpost : a'.defers = [] ∧ ∃ v, (results fn a'.tmps).run P w' = .ok v w' ∧ ∃ c' v', Ending.returned v = .returned v' ∧ Step Φ P c c' D s.heap s'.heap s.next s'.next s'.mw w w' ∧ VR (zId P) c' (Dm D s.next s'.next) (one l) v' :=
              ⟨d1, v', p2, c', v', rfl, hstep c c' D w w' hB st, by rw [hnext]; exact p1⟩
            cases x with
            | exit id => exact absurd rfl (hnx id)
            | normal => exact hpost
            | ret => exact hpost
          · cases h'
        · cases h

end
end Go.Proofs.Ytnfjdoeemnhkbaa.Canon

namespace Go.Proofs.Ytnfjdoeemnhkbaa.Canon
set_option linter.unusedVariables false
set_option linter.unusedSimpArgs false
open Go.RowKit
section
variable {Φ : Fx} {P : Program} {E : Env}

/-- Such a function is Go text. -/
def hasBody (P : Program) (f : FuncId) : Bool := match P.funcs[f]? with | some fn => fn.body.isSome | none => false

/-- What the runner answers without an address, called with such values, the model answers, in whatever memory, on whatever tape. -/
theorem closed_to (hE : E.P = P) (hEo : ∀ Φ, EnvOK Φ E) (hz : base P < 4000000) {d : Nat} {f : FuncId} (hbody : hasBody P f = true) {args args' : List Value} {v : Value} {s' : St}
    (h : callN E d f args ⟨base P, base P, .leaf⟩ = some (v, s')) (ha : ∀ c, LR (zId P) c (fun o => o < zId P) args args') (hv : ground2 v = true) (w : World) :
    Calls P f args'.toArray w fun e w' => e = .returned v ∧ Below w.heap.size w w' := by
  have hZ : zId P < base P := by unfold zId base; omega
  obtain ⟨m1, ⟨_, k1⟩ | ⟨_, fn, row, h6, h7, _⟩⟩ := callN_sound (Φ := ⟨w, fun _ => 0, fun _ _ _ => True, fun _ _ _ _ _ _ => trivial⟩) hE (hEo _) d f args _ v s' h hZ
  rotate_left
  · exfalso
    unfold hasBody at hbody
    rw [h6] at hbody
    simp only at hbody
    cases hf : fn.body with
    | none => rw [hf] at hbody; cases hbody
    | some _ => rw [hf] at h7; cases h7
  let c : Ctx := ⟨fun o => o, fun _ => 0, fun _ => [], fun _ => none⟩
  let D : Nat → Prop := fun o => o < zId P
  have hH : HR ⟨w, fun _ => 0, fun _ _ _ => True, fun _ _ _ _ _ _ => trivial⟩ P c D (T.leaf : T AObj) w := ⟨fun o ho => absurd (get_leaf o) ho, fun o obj ho => (by rw [get_leaf] at ho; cases ho), fun o o' ho => absurd (get_leaf o) ho, Below.refl _ _, fun o ho => absurd (get_leaf o) ho, fun _ _ => rfl, fun b x hx => (by cases hx), fun o ho => absurd (get_leaf o) ho, fun o ho => trivial⟩
  have hB : Bd ⟨base P, base P, .leaf⟩ := ⟨by dsimp only; omega, fun o ho => absurd (get_leaf o) ho⟩
  refine (k1 c D w args' hB hH (fun g hg => ⟨hg, rfl⟩) (fun o h1 _ h2 => by dsimp only at h1; have h2' : o < zId P := h2; omega) (ha c)).mono fun e w' hp => ?_
  obtain ⟨c', v', rfl, st, hvv⟩ := hp
  refine ⟨by rw [hvv.ground2 hv], ⟨st.os, st.tape, st.output, st.size, fun b hb => st.far b hb fun ⟨o, _, h2, _⟩ => absurd (get_leaf o) h2⟩⟩

/-- Where a run starts. -/
def start (P : Program) : St := ⟨base P, base P, .leaf⟩
def isTrue : Option (Value × St) → Bool
  | some (.bool b, _) => b
  | _ => false
theorem isTrue_some {r : Option (Value × St)} (h : isTrue r = true) : ∃ s', r = some (.bool true, s') := by
  unfold isTrue at h
  split at h
  · rename_i b s; exact ⟨s, by rw [h]⟩
  · cases h

/-- The program, looked up. -/
def envOf (P : Program) : Env := ⟨P, fun f => P.funcs[f]?, fun _ => false, fun _ _ _ => none⟩
/-- .. where function a is known to answer true. -/
def envK (P : Program) (a : FuncId) : Env := ⟨P, fun f => P.funcs[f]?, fun f => Nat.beq f a, fun _ _ _ => none⟩

/-- No function of the program is the one whose answer nobody knows. -/
def namesOK : List Func → Bool
  | [] => true
  | f :: l => bif f.name == "runtime.NumGoroutine" then false else namesOK l
theorem namesOK_spec : ∀ {l : List Func}, namesOK l = true → ∀ f ∈ l, (f.name == "runtime.NumGoroutine") = false
  | f :: l, h, g, hg => by
    unfold namesOK at h
    cases hf : f.name == "runtime.NumGoroutine" with
    | true => rw [hf, cond_true] at h; cases h
    | false =>
      rw [hf, cond_false] at h
      rcases List.mem_cons.1 hg with rfl | hg
      · exact hf
      · exact namesOK_spec h g hg

/-- What is asked of a program. -/
structure Fit (P : Program) : Prop where
  names : namesOK P.funcs.toList = true
  mixed : P.follows .mixedOrders = true
  small : Nat.blt (base P) 4000000 = true

theorem Fit.env (h : Fit P) (Φ : Fx) : EnvOK Φ (envOf P) :=
  ⟨fun f fn hf => hf, fun f fn hf => namesOK_spec h.names fn (List.mem_of_getElem? (by rw [Array.getElem?_toList]; exact hf)), h.mixed, fun f hf => (by cases hf), fun f args s v s2 ho => (by cases ho)⟩

/-- A function without an argument that answers true. -/
def Plain (P : Program) (a : FuncId) : Prop := ∀ w, Calls P a #[] w fun e w' => e = .returned (.bool true) ∧ Below w.heap.size w w'

theorem Fit.envK (h : Fit P) {a : FuncId} (ha : Plain P a) (Φ : Fx) : EnvOK Φ (envK P a) :=
  ⟨fun f fn hf => hf, fun f fn hf => namesOK_spec h.names fn (List.mem_of_getElem? (by rw [Array.getElem?_toList]; exact hf)), h.mixed, fun f hf => by
    have e : f = a := Nat.eq_of_beq_eq_true hf
    subst e
    exact ha, fun f args s v s2 ho => by cases ho⟩

/-- A call without an argument that the runner answers with true. -/
theorem Fit.plain (h : Fit P) {d : Nat} {f : FuncId} (hb : hasBody P f = true) (ht : isTrue (callN (envOf P) d f [] (start P)) = true) (w : World) :
    Calls P f #[] w fun e w' => e = .returned (.bool true) ∧ Below w.heap.size w w' := by
  obtain ⟨s', hs⟩ := isTrue_some ht
  have hz : base P < 4000000 := by have := h.small; rwa [nblt, decide_eq_true_eq] at this
  exact closed_to (P := P) (E := envOf P) rfl h.env hz hb hs (fun c => LR.nil) rfl w

/-- The row k of l of a call with one number. -/
def RowOK (P : Program) (d : Nat) (f : FuncId) (l k : Nat) : Prop := isTrue (callN (envOf P) d f [.complex .f64 l k] (start P)) = true
theorem none_ok {p : Nat → Prop} : ∀ k, k < 0 → p k := fun k h => absurd h (Nat.not_lt_zero k)
theorem next_ok {p : Nat → Prop} {n : Nat} (h : ∀ k, k < n → p k) (hn : p n) : ∀ k, k < n + 1 → p k := fun k hk => by
  rcases Nat.lt_or_ge k n with h1 | h1
  · exact h k h1
  · rw [show k = n by omega]; exact hn

/-- A call with one number, of which nothing is asked but which row of l its last eight bits name. -/
theorem Fit.form (h : Fit P) {d : Nat} {f : FuncId} (hb : hasBody P f = true) (l : Nat) (hl : 0 < l) (ht : ∀ k, k < l → RowOK P d f l k) (a : Int) (w : World) :
    Calls P f #[.int .i64 a] w fun e w' => e = .returned (.bool true) ∧ Below w.heap.size w w' := by
  have hk : a % 256 % (l : Int) = ((a % 256 % (l : Int)).toNat : Int) := by
    have : 0 ≤ a % 256 % (l : Int) := Int.emod_nonneg _ (by omega)
    omega
  have hlt : (a % 256 % (l : Int)).toNat < l := by
    have := Int.emod_lt_of_pos (a % 256) (b := (l : Int)) (by omega)
    omega
  obtain ⟨s', hs⟩ := isTrue_some (ht _ hlt)
  have hz : base P < 4000000 := by have := h.small; rwa [nblt, decide_eq_true_eq] at this
  exact closed_to (P := P) (E := envOf P) rfl h.env hz hb hs (fun c => LR.cons (.symA l _ a hk) LR.nil) rfl w

/-- What is left of a number's last eight bits when l share them. -/
theorem sym_int (a : Int) (l : Nat) (hl : 0 < l) : ∃ k, k < l ∧ ∀ Z c D, VR Z c D (.complex .f64 l k) (.int .i64 a) := by
  have h0 : 0 ≤ a % 256 % (l : Int) := Int.emod_nonneg _ (by omega)
  have h1 : a % 256 % (l : Int) < (l : Int) := Int.emod_lt_of_pos _ (by omega)
  exact ⟨(a % 256 % (l : Int)).toNat, by omega, fun Z c D => .symA l _ a (by omega)⟩

/-- A call with what such values stand for. -/
theorem Fit.args (h : Fit P) {d : Nat} {f : FuncId} (hb : hasBody P f = true) {args args' : List Value} (ha : ∀ c, LR (zId P) c (fun o => o < zId P) args args')
    (ht : isTrue (callN (envOf P) d f args (Canon.start P)) = true) (w : World) : Calls P f args'.toArray w fun e w' => e = .returned (.bool true) ∧ Below w.heap.size w w' := by
  obtain ⟨s', hs⟩ := isTrue_some ht
  have hz : base P < 4000000 := by have := h.small; rwa [nblt, decide_eq_true_eq] at this
  exact closed_to (P := P) (E := envOf P) rfl h.env hz hb hs ha rfl w

theorem Fit.small' (h : Fit P) : base P < 4000000 := by have := h.small; rwa [nblt, decide_eq_true_eq] at this

/-- .. with a function that is known. -/
theorem Fit.argsK (h : Fit P) {a : FuncId} (hk : Plain P a) {d : Nat} {f : FuncId} (hb : hasBody P f = true) {args args' : List Value} (ha : ∀ c, LR (zId P) c (fun o => o < zId P) args args')
    (ht : isTrue (callN (Canon.envK P a) d f args (Canon.start P)) = true) (w : World) : Calls P f args'.toArray w fun e w' => e = .returned (.bool true) ∧ Below w.heap.size w w' := by
  obtain ⟨s', hs⟩ := isTrue_some ht
  exact closed_to (P := P) (E := Canon.envK P a) rfl (h.envK hk) h.small' hb hs ha rfl w

/-! Numbers that bear a name. -/
def symCtx (vals : Nat → Nat) : Ctx := ⟨fun o => o, fun o => if 5000000 ≤ o then vals (o - 5000000) else 0, fun _ => [], fun _ => none⟩
def symDom (P : Program) (o : Nat) : Prop := o < zId P ∨ 5000000 ≤ o

theorem sym_named {P : Program} {vals : Nat → Nat} {id k : Nat} {lo hi n : Int} (hv : (vals id : Int) = n + 9223372036854775808) (hk : kId k = id ∧ kLo k = lo ∧ kHi k = hi ∧ kA k = 1 ∧ kB k = 0) (h : lo ≤ n ∧ n ≤ hi) :
    VR (zId P) (symCtx vals) (symDom P) (.chan (some k)) (.int .i64 n) := by
  obtain ⟨h1, h2, h3, h4, h5⟩ := hk
  refine .symC k n n (.inr (by omega)) ?_ (by rw [h2, h3]; exact h) (by rw [h4, h5]; omega)
  rw [h1]
  show ((if 5000000 ≤ 5000000 + id then vals (5000000 + id - 5000000) else 0 : Nat) : Int) = _
  rw [if_pos (by omega), Nat.add_sub_cancel_left]
  exact hv

/-- A call with numbers that bear names; function a is known. -/
theorem Fit.symK (h : Fit P) {a : FuncId} (hk : Plain P a) {d : Nat} {f : FuncId} (hbody : hasBody P f = true) {args args' : List Value} (vals : Nat → Nat) (ha : LR (zId P) (symCtx vals) (symDom P) args args')
    (ht : isTrue (callN (Canon.envK P a) d f args (Canon.start P)) = true) (w : World) : Calls P f args'.toArray w fun e w' => e = .returned (.bool true) ∧ Below w.heap.size w w' := by
  obtain ⟨s', hs⟩ := isTrue_some ht
  have hz := h.small'
  have hZ : zId P < base P := by unfold zId base; omega
  obtain ⟨m1, ⟨_, k1⟩ | ⟨_, fn, row, h6, h7, _⟩⟩ := callN_sound (Φ := ⟨w, (symCtx vals).x, fun _ _ _ => True, fun _ _ _ _ _ _ => trivial⟩) (P := P) rfl (h.envK hk _) d f args _ _ s' hs hZ
  rotate_left
  · exfalso
    unfold hasBody at hbody
    rw [h6] at hbody
    simp only at hbody
    cases hf : fn.body with
    | none => rw [hf] at hbody; cases hbody
    | some _ => rw [hf] at h7; cases h7
  have hH : HR ⟨w, (symCtx vals).x, fun _ _ _ => True, fun _ _ _ _ _ _ => trivial⟩ P (symCtx vals) (symDom P) (T.leaf : T AObj) w := ⟨fun o ho => absurd (get_leaf o) ho, fun o obj ho => (by rw [get_leaf] at ho; cases ho), fun o o' ho => absurd (get_leaf o) ho, Below.refl _ _, fun o ho => absurd (get_leaf o) ho, fun _ _ => rfl, fun b x hx => (by cases hx), fun o ho => absurd (get_leaf o) ho, fun o ho => trivial⟩
  have hB : Bd (Canon.start P) := ⟨by show base P ≤ 4000000; omega, fun o ho => absurd (get_leaf o) ho⟩
  have hB' := ((m1.2.2 hB).1).1
  refine (k1 (symCtx vals) (symDom P) w args' hB hH (fun g hg => ⟨.inl hg, rfl⟩) (fun o h1 h3 h2 => ?_) ha).mono fun e w' hp => ?_
  · have h1' : base P ≤ o := h1
    rcases h2 with h2 | h2 <;> omega
  · obtain ⟨c', v', rfl, st, hvv⟩ := hp
    refine ⟨by rw [hvv.ground2 rfl], ⟨st.os, st.tape, st.output, st.size, fun b hb => st.far b hb fun ⟨o, _, h2, _⟩ => absurd (get_leaf o) h2⟩⟩

end
end Go.Proofs.Ytnfjdoeemnhkbaa.Canon
