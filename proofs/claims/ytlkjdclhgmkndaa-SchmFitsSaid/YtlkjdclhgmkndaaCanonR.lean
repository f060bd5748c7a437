/-
  A region that draws its order: whatever order is drawn.
-/
import Derived.Test.YtlkjdclhgmkndaaCanonQ
namespace Go.Proofs.Ytlkjdclhgmkndaa.Canon
set_option linter.unusedVariables false
set_option linter.unusedSimpArgs false
open Go.RowKit

/-- The relation of memory, for a memory told as a function. -/
structure HRF (Φ : Fx) (P : Program) (c : Ctx) (D : Nat → Prop) (F : Nat → Option AObj) (w : World) : Prop where
  dom : ∀ o, F o ≠ none → D o ∧ o ≠ zId P ∧ o < 4000000
  rows : ∀ o obj, F o = some obj → Row (zId P) P c D o obj w
  inj : ∀ o o', F o ≠ none → F o' ≠ none → c.ρ o = c.ρ o' → o = o'
  bel : Below Φ.w0.heap.size Φ.w0 w
  up : ∀ o, F o ≠ none → Φ.w0.heap.size ≤ c.ρ o
  nm : ∀ o, 5000000 ≤ o → c.x o = Φ.nm o

theorem HR.toF {Φ : Fx} {P : Program} {c : Ctx} {D : Nat → Prop} {H : T AObj} {w : World} (h : HR Φ P c D H w) : HRF Φ P c D H.get w := ⟨h.dom, h.rows, h.inj, h.bel, h.up, h.nm⟩
theorem HRF.toT {Φ : Fx} {P : Program} {c : Ctx} {D : Nat → Prop} {H : T AObj} {w : World} (h : HRF Φ P c D H.get w) : HR Φ P c D H w := ⟨h.dom, h.rows, h.inj, h.bel, h.up, h.nm⟩
theorem HRF.sub {Φ : Fx} {P : Program} {c : Ctx} {D : Nat → Prop} {F : Nat → Option AObj} {H : T AObj} {w : World} (h : HRF Φ P c D F w) (hs : ∀ o obj, H.get o = some obj → F o = some obj) : HR Φ P c D H w := by
  have hn : ∀ o, H.get o ≠ none → F o ≠ none := fun o ho => by
    obtain ⟨obj, hob⟩ := Option.ne_none_iff_exists'.1 ho
    rw [hs o obj hob]; simp
  exact ⟨fun o ho => h.dom o (hn o ho), fun o obj ho => h.rows o obj (hs o obj ho), fun o o' h1 h2 he => h.inj o o' (hn o h1) (hn o' h2) he, h.bel, fun o ho => h.up o (hn o ho), h.nm⟩

theorem Row.keep {Z : Nat} {P : Program} {c c' : Ctx} {D D' : Nat → Prop} {o : Nat} {obj : AObj} {w w' : World} (h : Row Z P c D o obj w) (hc : ∀ p, D p → c'.ρ p = c.ρ p ∧ c'.x p = c.x p) (hD : ∀ p, D p → D' p)
    (ho : D o) (hw : w'.heap[c.ρ o]? = w.heap[c.ρ o]?) : Row Z P c' D' o obj w' := by
  obtain ⟨cs, fr, h1, h2, h3, h4⟩ := h.row
  exact ⟨fun he => by rw [(hc o ho).2]; exact h.ex he, cs, fr, by rw [(hc o ho).1, hw]; exact h1, h2, by rw [(hc o ho).2]; exact h3, h4.mono hc hD⟩

/-- A part of memory is seen, some of it written, and new rows are made: the rest stays. -/
theorem HRF.read {Φ : Fx} {P : Program} {c c' : Ctx} {D : Nat → Prop} {F : Nat → Option AObj} {w w' : World} {r : Rec} (h : HRF Φ P c D F w) (hsub : ∀ o obj, r.i.heap.get o = some obj → F o = some obj)
    (hst : Step Φ P c c' D r.i.heap r.o.heap r.i.next r.o.next r.o.mw w w') (hbd : Bd r.i) (hkept : ∀ p, r.o.mw ≤ p → p < r.i.next → (r.i.heap.get p = none ↔ r.o.heap.get p = none)) (hf : ∀ o, r.i.next ≤ o → o < r.o.next → ¬D o) :
    (∀ b, b < w.heap.size → (¬∃ p, r.o.mw ≤ p ∧ F p ≠ none ∧ c.ρ p = b) → w'.heap[b]? = w.heap[b]?) ∧
    HRF Φ P c' (Dm D r.i.next r.o.next) (fun p => ov r p (F p)) w' ∧
    ∀ o, r.i.next ≤ o → o < r.o.next → r.o.heap.get o ≠ none → w.heap.size ≤ c'.ρ o := by
  have hs : ∀ p, r.i.heap.get p ≠ none → F p ≠ none := fun p hp => by
    obtain ⟨obj, hob⟩ := Option.ne_none_iff_exists'.1 hp
    rw [hsub p obj hob]; simp
  have hfar : ∀ b, b < w.heap.size → (¬∃ p, r.o.mw ≤ p ∧ r.i.heap.get p ≠ none ∧ c.ρ p = b) → w'.heap[b]? = w.heap[b]? := fun b hb hno => hst.far b hb hno
  have hag : ∀ p, D p → c'.ρ p = c.ρ p ∧ c'.x p = c.x p := fun p hp => hst.agree p fun ⟨h1, h2⟩ => hf p h1 h2 hp
  have hDD : ∀ p, D p → Dm D r.i.next r.o.next p := fun p hp => .inl hp
  have hnew : ∀ o, r.i.next ≤ o → o < r.o.next → r.o.heap.get o ≠ none → w.heap.size ≤ c'.ρ o := fun o h1 h2 h3 => by
    rcases hst.live o h3 with h4 | ⟨_, _, h5 | ⟨p, h6, h7, h8⟩⟩
    · have := hbd.2 o h4; omega
    · exact h5
    · have hp := hbd.2 p h7
      have h9 : r.o.heap.get p ≠ none := fun e => h7 ((hkept p h6 hp).2 e)
      have : c'.ρ p = c'.ρ o := by rw [(hst.agree p (by omega)).1]; exact h8
      have := hst.hr.inj p o h9 h3 this
      omega
  have hnot : ∀ p, ¬own r p → F p ≠ none → w'.heap[c.ρ p]? = w.heap[c.ρ p]? := fun p ho hp => by
    obtain ⟨obj, hob⟩ := Option.ne_none_iff_exists'.1 hp
    refine hfar _ (h.rows p obj hob).lt ?_
    rintro ⟨q, h1, h2, h3⟩
    have := h.inj q p (hs q h2) hp h3
    subst this
    have hq := hbd.2 q h2
    have := hst.le
    exact ho ⟨.inl h1, by omega, fun e => h2 ((hkept q h1 hq).2 e)⟩
  have old : ∀ q, F q ≠ none → c'.ρ q = c.ρ q ∧ c.ρ q < w.heap.size := fun q hq => by
    obtain ⟨obj, hob⟩ := Option.ne_none_iff_exists'.1 hq
    exact ⟨(hag q (h.dom q hq).1).1, (h.rows q obj hob).lt⟩
  have mixed : ∀ p q, own r p → F q ≠ none → c'.ρ p = c'.ρ q → p = q := fun p q ho hq he => by
    obtain ⟨o1, o2⟩ := old q hq
    rcases Nat.lt_or_ge p r.i.next with h1 | h1
    · have h2 : r.o.mw ≤ p := by have := ho.1; omega
      have h3 : F p ≠ none := hs p fun e => ho.2.2 ((hkept p h2 h1).1 e)
      refine h.inj p q h3 hq ?_
      rw [← (old p h3).1, he, o1]
    · have := hnew p h1 ho.2.1 ho.2.2
      omega
  refine ⟨fun b hb hno => hfar b hb fun ⟨p, h1, h2, h3⟩ => hno ⟨p, h1, hs p h2, h3⟩, ⟨fun o ho => ?_, fun o obj ho => ?_, fun o o' h1 h2 he => ?_, hst.hr.bel, fun o ho => ?_, hst.hr.nm⟩, hnew⟩
  rotate_right 1
  · by_cases hw : own r o
    · exact hst.hr.up o hw.2.2
    · rw [ov_not hw] at ho
      rw [(old o ho).1]; exact h.up o ho
  · by_cases hw : own r o
    · exact hst.hr.dom o hw.2.2
    · rw [ov_not hw] at ho
      have := h.dom o ho; exact ⟨.inl this.1, this.2⟩
  · by_cases hw : own r o
    · rw [ov_own hw] at ho; exact hst.hr.rows o obj ho
    · rw [ov_not hw] at ho
      have hn : F o ≠ none := by rw [ho]; simp
      exact (h.rows o obj ho).keep hag hDD (h.dom o hn).1 (hnot o hw hn)
  · by_cases hw : own r o
    · by_cases hw' : own r o'
      · exact hst.hr.inj o o' hw.2.2 hw'.2.2 he
      · rw [ov_not hw'] at h2; exact mixed o o' hw h2 he
    · rw [ov_not hw] at h1
      by_cases hw' : own r o'
      · exact (mixed o' o hw' h1 he.symm).symm
      · rw [ov_not hw'] at h2
        rw [(old o h1).1, (old o' h2).1] at he
        exact h.inj o o' h1 h2 he

section
variable {Φ : Fx} {P : Program} {E : Env} {call : CallF} {ops : Array Oper} {tm0 : List Value}

/-- In the middle of some order: 'ex' tells which operations have come up: memory. -/
structure OH (Φ : Fx) (P : Program) (ops : Array Oper) (R : Nat → Rec) (c0 : Ctx) (D0 : Nat → Prop) (H0 : Nat → Option AObj) (w0 : World) (n0 n1 m : Nat)
    (ex : Nat → Bool) (c : Ctx) (D : Nat → Prop) (F : Nat → Option AObj) (w : World) : Prop where
  hr : HRF Φ P c D F w
  form : ((∀ j, ex j = true → j < ops.toList.length → (R j).kind ≠ 3) ∧ ∀ p, F p = selTo R H0 ex ops.toList.length p) ∨
    ∃ t, t < ops.toList.length ∧ (R t).kind = 3 ∧ F = (R t).o.heap.get ∧ ∀ j, j < ops.toList.length → 2 ≤ (R j).kind → (ex j = true ↔ j ≤ t)
  fresh : ∀ k, k < ops.toList.length → ex k = false → 2 ≤ (R k).kind → ∀ o, (R k).i.next ≤ o → o < (R k).o.next → ¬D o
  agree : ∀ o, ¬(n0 ≤ o ∧ o < n1) → c.ρ o = c0.ρ o ∧ c.x o = c0.x o
  dom1 : ∀ o, D o → Dm D0 n0 n1 o
  dom2 : ∀ o, D0 o → D o
  os : w.os = w0.os
  tape : w.tape = w0.tape
  output : w.output = w0.output
  size : w0.heap.size ≤ w.heap.size
  far : ∀ b, b < w0.heap.size → (¬∃ o, m ≤ o ∧ H0 o ≠ none ∧ c0.ρ o = b) → w.heap[b]? = w0.heap[b]?
  live : ∀ o, F o ≠ none → H0 o ≠ none ∨ (n0 ≤ o ∧ o < n1 ∧ (w0.heap.size ≤ c.ρ o ∨ ∃ p, m ≤ p ∧ H0 p ≠ none ∧ c0.ρ p = c.ρ o))

/-- What is asked of the trace. -/
structure TI (P : Program) (E : Env) (call : CallF) (ops : Array Oper) (tm0 : List Value) (R : Nat → Rec) (D0 : Nat → Prop) (H0 : Nat → Option AObj) (n0 n1 m : Nat) : Prop where
  cr : ∀ k o, ops.toList[k]? = some o → CR P E call ops.toList (masks ops.toList []) tm0 H0 n0 R k o
  ok : opsOK (zId P) ops.toList = true
  pr : ∀ k o, ops.toList[k]? = some o → (∀ e ∈ o.after.toList, Region.binds .any e = true → e.on < k) ∧ ∀ i oi, i < k → ops.toList[i]? = some oi → ((masks ops.toList []).getD k 0).testBit i = true ∨ Oper.apart ops oi o = true
  hi : ∀ k, k < ops.toList.length → 2 ≤ (R k).kind → (R k).o.next ≤ n1
  mw : ∀ k, k < ops.toList.length → (R k).kind = 3 → m ≤ (R k).o.mw ∨ (R k).i.next ≤ (R k).o.mw
  h0 : ∀ o, H0 o ≠ none → o < n0
  step : ∀ k, k < ops.toList.length → 2 ≤ (R k).kind → (R k).i.next ≤ (R k).o.next
  d0 : ∀ o, n0 ≤ o → o < n1 → ¬D0 o
  z : zId P < n0


/-- Two ranges of a trace are apart. -/
theorem TI.apart {R : Nat → Rec} {D0 : Nat → Prop} {H0 : Nat → Option AObj} {n0 n1 m : Nat} (T : TI P E call ops tm0 R D0 H0 n0 n1 m) {j k : Nat} (hj : j < ops.toList.length) (hk : k < ops.toList.length)
    (h1 : 2 ≤ (R j).kind) (h2 : 2 ≤ (R k).kind) (hne : j ≠ k) (o : Nat) (hoj : (R j).i.next ≤ o ∧ o < (R j).o.next) : ¬((R k).i.next ≤ o ∧ o < (R k).o.next) := by
  rcases Nat.lt_or_ge j k with h | h
  · have := ((T.cr k _ (List.getElem?_eq_getElem hk)).k2 h2).2.2.2.2.2 j h h1
    omega
  · have := ((T.cr j _ (List.getElem?_eq_getElem hj)).k2 h1).2.2.2.2.2 k (by omega) h2
    omega

theorem mask_lt {R : Nat → Rec} {D0 : Nat → Prop} {H0 : Nat → Option AObj} {n0 n1 m : Nat} (T : TI P E call ops tm0 R D0 H0 n0 n1 m) : ∀ i, i < ops.toList.length → ∀ k, ((masks ops.toList []).getD i 0).testBit k = true → k < i := by
  intro i
  induction i using Nat.strongRecOn with
  | _ i ih =>
    intro hi k hk
    obtain ⟨e, he, hb, h4⟩ := mask_bits (List.getElem?_eq_getElem hi) hk
    have := (T.pr i _ (List.getElem?_eq_getElem hi)).1 e (by simpa using he) hb
    rcases h4 with rfl | h4
    · exact this
    · have := ih e.on this (by omega) k h4; omega

/-- Whoever sees a row that another one left waits for it, or is waited for. -/
theorem TI.sees {R : Nat → Rec} {D0 : Nat → Prop} {H0 : Nat → Option AObj} {n0 n1 m : Nat} (T : TI P E call ops tm0 R D0 H0 n0 n1 m) {i j : Nat} (hi : i < ops.toList.length) (hj : j < ops.toList.length)
    (h1 : (R i).kind = 2) (h2 : (R j).kind = 2) (hne : j ≠ i) {p : Nat} (ho : own (R j) p) (hs : (R i).i.heap.get p ≠ none) :
    ((masks ops.toList []).getD i 0).testBit j = true ∨ ((masks ops.toList []).getD j 0).testBit i = true := by
  have Ci := T.cr i _ (List.getElem?_eq_getElem hi)
  have Cj := T.cr j _ (List.getElem?_eq_getElem hj)
  rcases Nat.lt_or_ge j i with h | h
  · rcases (Ci.kr h1).2.2.2.2 j h h2 with h3 | ⟨h3, _⟩
    · exact .inl h3
    · exact absurd (h3 p ho) hs
  · rcases (Cj.kr h2).2.2.2.2 i (by omega) h1 with h3 | ⟨_, h3⟩
    · exact .inr h3
    · have hb := (Ci.k2 (by omega)).2.2.2.1.2 p hs
      have hn := (Cj.k2 (by omega)).2.2.2.2.2 i (by omega) (by omega)
      have hmono := (Ci.k2 (by omega))
      refine absurd (h3 p ?_ ho) hs
      have := T.step i hi (by omega)
      omega

/-- Two that left the same row. -/
theorem TI.both {R : Nat → Rec} {D0 : Nat → Prop} {H0 : Nat → Option AObj} {n0 n1 m : Nat} (T : TI P E call ops tm0 R D0 H0 n0 n1 m) {i j : Nat} (hi : i < ops.toList.length) (hj : j < ops.toList.length)
    (h1 : (R i).kind = 2) (h2 : (R j).kind = 2) (hne : j ≠ i) {p : Nat} (ho : own (R j) p) (ho' : own (R i) p) :
    ((masks ops.toList []).getD i 0).testBit j = true ∨ ((masks ops.toList []).getD j 0).testBit i = true := by
  have see : ∀ k, k < ops.toList.length → (R k).kind = 2 → own (R k) p → p < (R k).i.next → (R k).i.heap.get p ≠ none := fun k hk h2 ho hp e => by
    have C := T.cr k _ (List.getElem?_eq_getElem hk)
    have hlo : (R k).o.mw ≤ p := by have := ho.1; omega
    exact ho.2.2 (((C.kr h2).2.1 p hlo hp).1 e)
  rcases Nat.lt_or_ge p (R i).i.next with h3 | h3
  · exact T.sees hi hj h1 h2 hne ho (see i hi h1 ho' h3)
  · rcases Nat.lt_or_ge p (R j).i.next with h4 | h4
    · exact (T.sees hj hi h2 h1 (fun e => hne e.symm) ho' (see j hj h2 ho h4)).symm
    · exact absurd ⟨h3, ho'.2.1⟩ (T.apart hj hi (by omega) (by omega) hne p ⟨h4, ho.2.1⟩)

def exI (ex : Nat → Bool) (i : Nat) : Nat → Bool := fun j => ex j || decide (j = i)

theorem exI_of {ex : Nat → Bool} {i j : Nat} (h : ex j = true) : exI ex i j = true := by unfold exI; rw [h]; rfl
theorem exI_at {ex : Nat → Bool} {i : Nat} : exI ex i i = true := by unfold exI; simp
theorem exI_true {ex : Nat → Bool} {i j : Nat} (h : exI ex i j = true) : ex j = true ∨ j = i := by
  unfold exI at h; rw [Bool.or_eq_true] at h; exact h.imp id (by simp)
theorem exI_false {ex : Nat → Bool} {i j : Nat} (h : exI ex i j = false) : ex j = false ∧ j ≠ i := by
  unfold exI at h; rw [Bool.or_eq_false_iff] at h; exact ⟨h.1, by simpa using h.2⟩

/-- An operation that touches memory comes up. -/
theorem OH.touch {R : Nat → Rec} {c0 : Ctx} {D0 : Nat → Prop} {H0 : Nat → Option AObj} {w0 : World} {n0 n1 m : Nat} (T : TI P E call ops tm0 R D0 H0 n0 n1 m)
    {ex : Nat → Bool} {c : Ctx} {D : Nat → Prop} {F : Nat → Option AObj} {w : World} (I : OH Φ P ops R c0 D0 H0 w0 n0 n1 m ex c D F w) {i : Nat} {o : Oper} (hi : ops.toList[i]? = some o) (hex : ex i = false)
    (hmask : ∀ k, ((masks ops.toList []).getD i 0).testBit k = true → ex k = true) (hcl : ∀ j k, ex j = true → ((masks ops.toList []).getD j 0).testBit k = true → ex k = true) (h2 : 2 ≤ (R i).kind)
    (hmo : Mo (R i).i (R i).o) :
    HR Φ P c D (R i).i.heap w ∧ ∀ c' w', Step Φ P c c' D (R i).i.heap (R i).o.heap (R i).i.next (R i).o.next (R i).o.mw w w' →
      ∃ F', OH Φ P ops R c0 D0 H0 w0 n0 n1 m (exI ex i) c' (Dm D (R i).i.next (R i).o.next) F' w' := by
  have hil : i < ops.toList.length := (List.getElem?_eq_some_iff.1 hi).1
  have C := T.cr i o hi
  obtain ⟨_, _, _, hbd, hge, hnx⟩ := C.k2 h2
  have hh1 := T.hi i hil h2
  have hfr : ∀ p, (R i).i.next ≤ p → p < (R i).o.next → ¬D p := I.fresh i hil hex h2
  -- what is common to both kinds
  have fresh' : ∀ k, k < ops.toList.length → exI ex i k = false → 2 ≤ (R k).kind → ∀ p, (R k).i.next ≤ p → p < (R k).o.next → ¬Dm D (R i).i.next (R i).o.next p := by
    intro k hk hek hk2 p hp1 hp2 hp
    obtain ⟨e1, e2⟩ := exI_false hek
    rcases hp with hp | hp
    · exact I.fresh k hk e1 hk2 p hp1 hp2 hp
    · exact T.apart hk hil hk2 h2 e2 p ⟨hp1, hp2⟩ hp
  have dom1' : ∀ p, Dm D (R i).i.next (R i).o.next p → Dm D0 n0 n1 p := by
    rintro p (hp | hp)
    · exact I.dom1 p hp
    · exact .inr ⟨by omega, by omega⟩
  have agree' : ∀ {c' : Ctx}, (∀ p, ¬((R i).i.next ≤ p ∧ p < (R i).o.next) → c'.ρ p = c.ρ p ∧ c'.x p = c.x p) → ∀ p, ¬(n0 ≤ p ∧ p < n1) → c'.ρ p = c0.ρ p ∧ c'.x p = c0.x p := by
    intro c' hag p hp
    have h1 := hag p (by omega)
    have h3 := I.agree p hp
    exact ⟨h1.1.trans h3.1, h1.2.trans h3.2⟩
  have hk : (R i).kind = 2 ∨ (R i).kind = 3 := by have := C.le; omega
  rcases hk with hk | hk
  · -- it reads
    obtain ⟨hmw, hkept, hno3, hview, _⟩ := C.kr hk
    have hform : (∀ j, ex j = true → j < ops.toList.length → (R j).kind ≠ 3) ∧ ∀ p, F p = selTo R H0 ex ops.toList.length p := by
      rcases I.form with h | ⟨t, ht, ht3, _, htj⟩
      · exact h
      · have : ¬ i ≤ t := fun h => by have := (htj i hil h2).2 h; rw [hex] at this; cases this
        exact absurd ht3 (hno3 t (by omega))
    obtain ⟨f1, f2⟩ := hform
    have hne : ∀ j, ex j = true → j ≠ i := fun j hj e => by rw [e, hex] at hj; cases hj
    have hnomask : ∀ j, ex j = true → ((masks ops.toList []).getD j 0).testBit i = true → False := fun j hj hm => by
      have := hcl j i hj hm; rw [hex] at this; cases this
    have hsub : ∀ p obj, (R i).i.heap.get p = some obj → F p = some obj := by
      intro p obj hp
      have hs : (R i).i.heap.get p ≠ none := by rw [hp]; simp
      have hv := hview p obj hp
      rw [f2, selTo_cut (k := i) p _ (Nat.le_of_lt hil), ← hv]
      · refine selTo_congr i p fun j hj hj2 ho => ?_
        cases hej : ex j with
        | true =>
          rcases T.sees hil (by omega) hk hj2 (by omega) ho hs with h3 | h3
          · exact h3.symm
          · exact absurd h3 fun h3 => hnomask j hej h3
        | false =>
          cases hmj : ((masks ops.toList []).getD i 0).testBit j with
          | false => rfl
          | true => rw [hmask j hmj] at hej; cases hej
      · intro j h1 h3 hj2 ho
        cases hej : ex j with
        | false => rfl
        | true =>
          exfalso
          rcases T.sees hil h3 hk hj2 (hne j hej) ho hs with h4 | h4
          · have := mask_lt T i hil j h4; omega
          · exact hnomask j hej h4
    refine ⟨I.hr.sub hsub, fun c' w' hst => ?_⟩
    obtain ⟨r1, r2, r3⟩ := I.hr.read hsub hst hbd hkept hfr
    have hlow : ∀ p, F p ≠ none → n0 ≤ p → ∀ b, b < w0.heap.size → c.ρ p = b → ∃ q, m ≤ q ∧ H0 q ≠ none ∧ c0.ρ q = b := by
      intro p hp hp0 b hb he
      rcases I.live p hp with h | ⟨_, _, h5 | ⟨q, h6, h7, h8⟩⟩
      · have := T.h0 p h; omega
      · omega
      · exact ⟨q, h6, h7, by rw [h8]; exact he⟩
    refine ⟨_, r2, .inl ⟨fun j hj hjl => ?_, fun p => ?_⟩, fresh', agree' hst.agree, dom1', fun p hp => .inl (I.dom2 p hp), hst.os.trans I.os, hst.tape.trans I.tape, hst.output.trans I.output, Nat.le_trans I.size hst.size, fun b hb hno => ?_, fun p hp => ?_⟩
    · rcases exI_true hj with h | rfl
      · exact f1 j h hjl
      · omega
    · by_cases ho : own (R i) p
      · rw [ov_own ho, selTo_last hil hk exI_at ho]
        intro j h1 h3 hj2 hoj
        cases hej : exI ex i j with
        | false => rfl
        | true =>
          exfalso
          have hej' : ex j = true := by rcases exI_true hej with h | h; exact h; omega
          rcases T.both hil h3 hk hj2 (by omega) hoj ho with h4 | h4
          · have := mask_lt T i hil j h4; omega
          · exact hnomask j hej' h4
      · rw [ov_not ho, f2]
        refine selTo_congr _ p fun j hj hj2 hoj => ?_
        have hji : j ≠ i := fun e => ho (e ▸ hoj)
        unfold exI
        simp [hji]
    · rw [r1 b (Nat.lt_of_lt_of_le hb I.size) fun ⟨p, h1, h3, h4⟩ => hno (hlow p h3 (by omega) b hb h4)]
      exact I.far b hb hno
    · have back : F p ≠ none → (H0 p ≠ none ∨ (n0 ≤ p ∧ p < n1 ∧ (w0.heap.size ≤ c'.ρ p ∨ ∃ q, m ≤ q ∧ H0 q ≠ none ∧ c0.ρ q = c'.ρ p))) ∨ ((R i).i.next ≤ p ∧ p < (R i).o.next) := fun hFp => by
        by_cases hin : (R i).i.next ≤ p ∧ p < (R i).o.next
        · exact .inr hin
        · left
          rcases I.live p hFp with h | ⟨h3, h4, h5⟩
          · exact .inl h
          · refine .inr ⟨h3, h4, ?_⟩
            rw [(hst.agree p hin).1]; exact h5
      by_cases ho : own (R i) p
      · rcases Nat.lt_or_ge p (R i).i.next with h3 | h3
        · have hlo : (R i).o.mw ≤ p := by have := ho.1; omega
          have hFp : F p ≠ none := by
            have hs : (R i).i.heap.get p ≠ none := fun e => ho.2.2 ((hkept p hlo h3).1 e)
            obtain ⟨obj, hob⟩ := Option.ne_none_iff_exists'.1 hs
            rw [hsub p obj hob]; simp
          rcases back hFp with h | h
          · exact h
          · omega
        · exact .inr ⟨by omega, by have := ho.2.1; omega, .inl (Nat.le_trans I.size (r3 p h3 ho.2.1 ho.2.2))⟩
      · have hFp : F p ≠ none := by rwa [ov_not ho] at hp
        rcases back hFp with h | h
        · exact h
        · exact absurd (I.hr.dom p hFp).1 (hfr p h.1 h.2)
  · -- it stands in a row
    obtain ⟨hb3, hheap, _⟩ := C.k3 hk
    have hall : ∀ j, j < i → 2 ≤ (R j).kind → ex j = true := fun j hj hj2 => hmask j (hb3 j hj hj2)
    have hnone : ∀ j, j < ops.toList.length → i < j → 2 ≤ (R j).kind → ex j = false := by
      intro j hj hij hj2
      cases hej : ex j with
      | false => rfl
      | true =>
        exfalso
        have Cj := T.cr j _ (List.getElem?_eq_getElem hj)
        have hj3 : (R j).kind = 3 := by
          rcases (show (R j).kind = 2 ∨ (R j).kind = 3 by have := Cj.le; omega) with h | h
          · exact absurd hk ((Cj.kr h).2.2.1 i hij)
          · exact h
        have := hcl j i hej ((Cj.k3 hj3).1 i hij h2)
        rw [hex] at this; cases this
    have hF : F = (R i).i.heap.get := by
      rw [hheap]
      rcases I.form with ⟨f1, f2⟩ | ⟨t, ht, ht3, hFt, htj⟩
      · have hno3 : ∀ j, j < i → (R j).kind ≠ 3 := fun j hj h => f1 j (hall j hj (by omega)) (by omega) h
        funext p
        rw [f2, fullTo_sel i p hno3, selTo_cut (k := i) p _ (Nat.le_of_lt hil)]
        · exact selTo_congr i p fun j hj hj2 _ => hall j hj (by omega)
        · intro j h1 h3 hj2 _
          by_cases hji : j = i
          · rw [hji]; exact hex
          · exact hnone j h3 (by omega) (by omega)
      · -- the last of the row before
        have hti : t < i := by
          rcases Nat.lt_or_ge t i with h | h
          · exact h
          · have := (htj i hil h2).2 h; rw [hex] at this; cases this
        rw [hFt]
        have key : ∀ k, t < k → k ≤ i → fullTo R H0 k = (R t).o.heap.get := by
          intro k
          induction k with
          | zero => intro h; omega
          | succ k ih =>
            intro h1 h3
            unfold fullTo
            by_cases htk : t = k
            · subst htk
              rw [if_neg (by omega), if_pos ht3]
            · have hk2 : ¬ 2 ≤ (R k).kind := fun h => by
                have := (htj k (by omega) h).1 (hall k (by omega) h); omega
              rw [if_neg (by omega), if_neg (by omega)]
              exact ih (by omega) (by omega)
        rw [key i hti (Nat.le_refl _)]
    have hHR : HR Φ P c D (R i).i.heap w := HRF.toT (hF ▸ I.hr)
    refine ⟨hHR, fun c' w' hst => ?_⟩
    refine ⟨(R i).o.heap.get, hst.hr.toF, .inr ⟨i, hil, hk, rfl, fun j hj hj2 => ⟨fun h => ?_, fun h => ?_⟩⟩, fresh', agree' hst.agree, dom1', fun p hp => .inl (I.dom2 p hp), hst.os.trans I.os, hst.tape.trans I.tape, hst.output.trans I.output, Nat.le_trans I.size hst.size, fun b hb hno => ?_, fun p hp => ?_⟩
    · rcases Nat.lt_or_ge i j with h3 | h3
      · have := hnone j hj h3 hj2
        rcases exI_true h with h4 | h4
        · rw [this] at h4; cases h4
        · omega
      · exact h3
    · by_cases hji : j = i
      · unfold exI; simp [hji]
      · unfold exI; rw [hall j (by omega) hj2]; rfl
    · rw [hst.far b (Nat.lt_of_lt_of_le hb I.size)]
      · exact I.far b hb hno
      · rintro ⟨p, hp1, hp2, hp3⟩
        have hpF : F p ≠ none := by rw [hF]; exact hp2
        have hpb := hbd.2 p hp2
        have hmp : m ≤ p := by
          rcases T.mw i hil hk with h | h <;> omega
        rcases I.live p hpF with h | ⟨h3, h4, h5 | ⟨q, h6, h7, h8⟩⟩
        · exact hno ⟨p, hmp, h, by rw [← (I.agree p (by have := T.h0 p h; omega)).1]; exact hp3⟩
        · omega
        · exact hno ⟨q, h6, h7, by rw [h8]; exact hp3⟩
    · rcases hst.live p hp with h | ⟨h3, h4, h5⟩
      · have hpF : F p ≠ none := by rw [hF]; exact h
        have hpb := hbd.2 p h
        rcases I.live p hpF with h6 | ⟨h7, h8, h9⟩
        · exact .inl h6
        · refine .inr ⟨h7, h8, ?_⟩
          rw [(hst.agree p (by omega)).1]; exact h9
      · refine .inr ⟨by omega, by omega, ?_⟩
        rcases h5 with h5 | ⟨q, h6, h7, h8⟩
        · exact .inl (Nat.le_trans I.size h5)
        · have hqF : F q ≠ none := by rw [hF]; exact h7
          have hqb := hbd.2 q h7
          have hmq : m ≤ q := by rcases T.mw i hil hk with h | h <;> omega
          rcases I.live q hqF with h9 | ⟨_, _, h9 | ⟨r, hr1, hr2, hr3⟩⟩
          · exact .inr ⟨q, hmq, h9, by rw [← (I.agree q (by have := T.h0 q h9; omega)).1]; exact h8⟩
          · exact .inl (by rw [← h8]; exact h9)
          · exact .inr ⟨r, hr1, hr2, by rw [hr3]; exact h8⟩
end
end Go.Proofs.Ytlkjdclhgmkndaa.Canon
