/-
  Reading, writing and making rows: the model's own steps.
-/
import Derived.Test.YtlkjdclhgmkndaaCanonC
namespace Go.Proofs.Ytlkjdclhgmkndaa.Canon
set_option linter.unusedVariables false
set_option linter.unusedSimpArgs false
open Go.RowKit

theorem oneCell_eq (v : Value) : oneCell v = v.oneCell' := by cases v <;> rfl

theorem VR.oneCell {Z : Nat} {c : Ctx} {D : Nat → Prop} {v v' : Value} (h : VR Z c D v v') (g : Canon.oneCell v = true) : v'.oneCell' = true := by
  cases h <;> first | rfl | (simp [Canon.oneCell] at g; done) | (unfold nslV; split <;> rfl)

theorem cell_row {w : World} {b : Nat} {cs : Array Value} {e : TypeId} {fr : Nat × Nat} (h : w.heap[b]? = some (.cells cs e fr)) (i : Nat) :
    w.cell? ⟨b, i, none⟩ = cs[i]? := by
  unfold World.cell?; rw [h]; rfl

theorem frozen_row {w : World} {b : Nat} {cs : Array Value} {e : TypeId} {fr : Nat × Nat} (h : w.heap[b]? = some (.cells cs e fr)) (i : Nat)
    (hf : ¬(fr.1 ≤ i ∧ i < fr.2)) : w.frozen? ⟨b, i, none⟩ = false := by
  unfold World.frozen?; rw [h]; simpa using hf

/-- What stands at an address is read. -/
theorem read_cells {Φ : Fx} {P : Program} {c : Ctx} {D : Nat → Prop} {H : T AObj} {w : World} (h : HR Φ P c D H w) {o off n : Nat} {l : List Value}
    (hc : cellsAt H ⟨o, off, none⟩ n = some l) :
    ∃ l', LR (zId P) c D l l' ∧ l.length = n ∧ (∀ j v, l'[j]? = some v → w.cell? ⟨c.ρ o, off + j, none⟩ = some v) ∧ H.get o ≠ none := by
  unfold cellsAt at hc
  split at hc
  · rename_i obj ho
    dsimp only at ho hc
    obtain ⟨h1, h2⟩ := takeN_eq _ _ _ hc
    rw [dropN_eq] at h1 h2
    obtain ⟨cs, fr, hr, hfz, hsz, hl⟩ := (h.rows o obj ho).row
    rw [List.length_drop] at h2
    refine ⟨(((cs.toList.take obj.cells.length).drop off).take n), ?_, ?_, ?_, by rw [ho]; simp⟩
    · rw [h1]; exact (hl.drop off).take n
    · rw [h1]; simp; omega
    · intro j v hv
      rw [cell_row hr]
      rw [List.getElem?_take] at hv
      split at hv
      · rw [List.getElem?_drop, List.getElem?_take] at hv
        split at hv
        · simpa using hv
        · cases hv
      · cases hv
  · cases hc

theorem run_cells {P : Program} {w : World} {b off n : Nat} {l' : List Value} (hn : l'.length = n) (h : ∀ j v, l'[j]? = some v → w.cell? ⟨b, off + j, none⟩ = some v) :
    (loadCells ⟨b, off, none⟩ n).run P w = .ok l'.toArray w := by
  subst hn
  exact run_loadCells_list w _ l' (fun j v hv => by rw [addr_add]; exact h j v hv)

/-- One row of another world is written, no more. -/
structure Wrote (w w' : World) (b : Nat) (cs : Array Value) (e : TypeId) (fr : Nat × Nat) : Prop where
  os : w'.os = w.os
  tape : w'.tape = w.tape
  output : w'.output = w.output
  size : w'.heap.size = w.heap.size
  at_ : w'.heap[b]? = some (.cells cs e fr)
  far : ∀ k, k ≠ b → w'.heap[k]? = w.heap[k]?

theorem run_storeCells (P : Program) {b off : Nat} {e : TypeId} {fr : Nat × Nat} : ∀ (vs : List Value) (i : Nat) (cs : Array Value) (w : World),
    w.heap[b]? = some (.cells cs e fr) → (∀ j, j < cs.size → ¬(fr.1 ≤ j ∧ j < fr.2)) → (∀ v ∈ vs, v.oneCell' = true) → off + i + vs.length ≤ cs.size →
    ∃ w' cs', (storeCells ⟨b, off, none⟩ vs i).run P w = .ok () w' ∧ Wrote w w' b cs' e fr ∧ cs'.size = cs.size ∧
      ∀ j, cs'[j]? = if off + i ≤ j ∧ j < off + i + vs.length then vs[j - (off + i)]? else cs[j]?
  | [], i, cs, w, hb, hf, h1, hl => ⟨w, cs, by simp [storeCells], ⟨rfl, rfl, rfl, rfl, hb, fun _ _ => rfl⟩, rfl, fun j => by rw [if_neg (by simp)]⟩
  | v :: vs, i, cs, w, hb, hf, h1, hl => by
    simp only [List.length_cons] at hl
    have hi : off + i < cs.size := by omega
    have hcell : w.cell? ⟨b, off + i, none⟩ = some cs[off + i] := by rw [cell_row hb]; simp [hi]
    have hfz := frozen_row hb (off + i) (hf _ hi)
    have hv := h1 v (List.mem_cons_self)
    let w1 := w.setCell ⟨b, off + i, none⟩ v
    have hlt : b < w.heap.size := (Array.getElem?_eq_some_iff.1 hb).1
    have hb1 : w1.heap[b]? = some (.cells (cs.setIfInBounds (off + i) v) e fr) := by
      simp only [w1, World.setCell, Array.getElem?_modify, if_true, hb, Option.map_some]
      simp
    obtain ⟨w', cs', e1, e2, e3, e4⟩ := run_storeCells P (off := off) vs (i + 1) (cs.setIfInBounds (off + i) v) w1 hb1 (by simpa using hf) (fun u hu => h1 u (List.mem_cons_of_mem _ hu)) (by rw [Array.size_setIfInBounds]; omega)
    refine ⟨w', cs', ?_, ⟨e2.os, e2.tape, e2.output, ?_, e2.at_, ?_⟩, ?_, ?_⟩
    · simp only [storeCells, Sem.run_bind, addr_add, run_store P w _ v .plain hv, hcell, hfz]
      simpa using e1
    · rw [e2.size]; simp [w1, World.setCell]
    · intro k hk
      rw [e2.far k hk]
      simp only [w1, World.setCell, Array.getElem?_modify]
      rw [if_neg (fun h => hk h.symm)]
    · rw [e3]; simp
    · intro j
      rw [e4 j]
      by_cases hj : j = off + i
      · subst hj
        rw [if_neg (by omega), if_pos (by simp), Nat.sub_self]
        simp [hi]
      · by_cases hj2 : off + (i + 1) ≤ j ∧ j < off + (i + 1) + vs.length
        · rw [if_pos hj2, if_pos (by simp; omega), show j - (off + i) = j - (off + (i + 1)) + 1 by omega]; simp
        · rw [if_neg hj2, if_neg (by simp; omega)]
          simp [Array.getElem?_setIfInBounds]; omega

theorem LR.overlay {Z : Nat} {c : Ctx} {D : Nat → Prop} {a b r r' l' : List Value} {n : Nat} (h : LR Z c D a b) (hr : LR Z c D r r')
    (ha : overlay a n r = some l') {d : List Value} (hd : ∀ i, d[i]? = if n ≤ i ∧ i < n + r'.length then r'[i - n]? else b[i]?) (hdl : d.length = b.length) : LR Z c D l' d := by
  obtain ⟨h1, h2, h3⟩ := overlay_eq a n r l' ha
  refine ⟨by rw [h1, hdl, h.1], fun i v v' e1 e2 => ?_⟩
  rw [h3] at e1
  rw [hd, ← hr.1] at e2
  split at e1
  · rename_i hi; rw [if_pos hi] at e2; exact hr.2 _ v v' e1 e2
  · rename_i hi; rw [if_neg hi] at e2; exact h.2 _ v v' e1 e2

theorem step_write {Φ : Fx} {P : Program} {c : Ctx} {D : Nat → Prop} {w : World} {s s' : St} (h : HR Φ P c D s.heap w) {o off : Nat} {vs vs' : List Value} (hv : LR (zId P) c D vs vs')
    (hw : writeAt s ⟨o, off, none⟩ vs = some s') (n : Nat) :
    s'.next = s.next ∧ s'.mw ≤ s.mw ∧ D o ∧ o ≠ zId P ∧ ∃ w', (storeCells ⟨c.ρ o, off, none⟩ vs').run P w = .ok () w' ∧ Step Φ P c c D s.heap s'.heap n n s'.mw w w' := by
  unfold writeAt at hw
  dsimp only at hw
  split at hw
  · rename_i obj ho
    cases hfu : full vs with
    | false => rw [hfu] at hw; cases hw
    | true =>
    rw [hfu, cond_true] at hw
    have hnil : vs ≠ [] := by rintro rfl; cases hfu
    cases hone : allL oneCell vs with
    | false => rw [hone] at hw; cases hw
    | true =>
    rw [hone, cond_true] at hw
    rw [allL_eq] at hone
    split at hw
    · rename_i cs2 hov
      simp only [Option.some.injEq] at hw
      subst hw
      have hlive : s.heap.get o ≠ none := by rw [ho]; simp
      obtain ⟨hdo, hz, hlt4⟩ := h.dom o hlive
      have hR := h.rows o obj ho
      obtain ⟨cs, fr, hr, hfz, hsz, hl⟩ := hR.row
      obtain ⟨q1, q2, q3⟩ := overlay_eq _ _ _ _ hov
      have hlen : off + 0 + vs'.length ≤ cs.size := by
        rw [← hv.1]
        have := q2 hnil; omega
      have h1' : ∀ v ∈ vs', v.oneCell' = true := by
        intro v hmem
        obtain ⟨i, hi⟩ := List.mem_iff_getElem?.1 hmem
        have hlt : i < vs.length := by rw [hv.1]; exact (List.getElem?_eq_some_iff.1 hi).1
        exact (hv.2 i _ v (List.getElem?_eq_getElem hlt) hi).oneCell (hone _ (List.getElem_mem hlt))
      obtain ⟨w', cs', e1, e2, e3, e4⟩ := run_storeCells P (b := c.ρ o) (off := off) vs' 0 cs w hr hfz.use h1' hlen
      have hget : ∀ p, (T.set (some ⟨cs2, obj.elem, obj.exact⟩) deep s.heap o).get p = if p = o then some ⟨cs2, obj.elem, obj.exact⟩ else s.heap.get p :=
        fun p => get_set _ _ _ _ _ (by unfold deep; omega)
      refine ⟨rfl, Nat.min_le_left _ _, hdo, hz, w', e1, ?_⟩
      have hlv : ∀ p, (T.set (some ⟨cs2, obj.elem, obj.exact⟩) deep s.heap o).get p ≠ none → s.heap.get p ≠ none := by
        intro p hp; rw [hget] at hp; split at hp
        · rename_i hpo; rw [hpo]; exact hlive
        · exact hp
      refine ⟨Nat.le_refl _, fun _ _ => ⟨rfl, rfl⟩, ?_, e2.os, e2.tape, e2.output, by rw [e2.size]; exact Nat.le_refl _, ?_, fun p hp => .inl (hlv p hp), ?_⟩
      · have e : (fun o => D o ∨ (n ≤ o ∧ o < n)) = D := by funext o; simp; omega
        rw [e]
        refine ⟨fun p hp => h.dom p (hlv p hp), fun p ob hp => ?_, fun p q hp hq => h.inj p q (hlv p hp) (hlv q hq), h.belOf e2.os e2.tape e2.output (by rw [e2.size]; exact Nat.le_refl _) (fun b hb => e2.far b fun he => by have := h.up o hlive; omega), fun p hp => h.up p (hlv p hp), h.nm⟩
        rw [hget] at hp
        split at hp
        · rename_i hpo
          subst hpo
          simp only [Option.some.injEq] at hp
          subst hp
          refine ⟨hR.ex, cs', fr, e2.at_, by rw [e3]; exact hfz, by dsimp only; rw [e3, q1]; exact hsz, ?_⟩
          dsimp only
          refine LR.overlay hl hv hov (fun i => ?_) (by simp [e3, q1])
          rw [q1, List.getElem?_take, List.getElem?_take]
          have := e4 i
          rw [Nat.add_zero] at this
          by_cases hi : i < obj.cells.length
          · rw [if_pos hi, if_pos hi, Array.getElem?_toList, Array.getElem?_toList, this]; split <;> simp
          · rw [if_neg hi, if_neg hi]
            split
            · rename_i h5
              have := q2 hnil; rw [hv.1] at this; omega
            · rfl
        · rename_i hpo
          have hRp := h.rows p ob hp
          obtain ⟨ds, fr', k1, k2, k3, k4⟩ := hRp.row
          refine ⟨hRp.ex, ds, fr', ?_, k2, k3, k4⟩
          rw [e2.far _ (fun he => hpo (h.inj p o (by rw [hp]; simp) hlive he))]
          exact k1
      · intro b hb hno
        rw [e2.far]
        intro hbo
        exact hno ⟨o, Nat.min_le_right _ _, hlive, hbo.symm⟩
      · intro p hp hl'
        rw [hget, if_neg]
        have : Nat.min s.mw o ≤ o := Nat.min_le_right _ _
        simp only at hp
        omega
    · cases hw
  · cases hw

/-- A new row. -/
theorem step_alloc {Φ : Fx} {P : Program} {c : Ctx} {D : Nat → Prop} {H : T AObj} {w w' : World} (h : HR Φ P c D H w) {n x : Nat} (hn : ¬D n) (hz : n ≠ zId P) (hs : n < 4000000)
    {l : List Value} {e : TypeId} {ex : Bool} {cs : Array Value} {fr : Nat × Nat} (hx : ex = true → x = 0) (hsz : cs.size = l.length + x * P.cellsOf e)
    (hl : LR (zId P) c D l (cs.toList.take l.length)) (hfr : Thaw cs.size fr)
    (w1 : w'.os = w.os) (w2 : w'.tape = w.tape) (w3 : w'.output = w.output) (w4 : w'.heap.size = w.heap.size + 1)
    (w5 : w'.heap[w.heap.size]? = some (.cells cs e fr)) (w6 : ∀ b, b < w.heap.size → w'.heap[b]? = w.heap[b]?) (m : Nat) :
    Step Φ P c ⟨fun o => if o = n then w.heap.size else c.ρ o, fun o => if o = n then x else c.x o⟩ D H (T.set (some ⟨l, e, ex⟩) deep H n) n (n + 1) m w w' := by
  have hget : ∀ p, (T.set (some ⟨l, e, ex⟩) deep H n).get p = if p = n then some ⟨l, e, ex⟩ else H.get p := fun p => get_set _ _ _ _ _ (by unfold deep; omega)
  have hno : ∀ p, H.get p ≠ none → p ≠ n := fun p hp hpn => hn (hpn ▸ (h.dom p hp).1)
  have hc : ∀ o, D o → (if o = n then w.heap.size else c.ρ o) = c.ρ o ∧ (if o = n then x else c.x o) = c.x o := by
    intro o ho
    have : o ≠ n := fun e => hn (e ▸ ho)
    rw [if_neg this, if_neg this]; exact ⟨rfl, rfl⟩
  have hD : ∀ o, D o → (D o ∨ (n ≤ o ∧ o < n + 1)) := fun o ho => .inl ho
  have hlv : ∀ p, (T.set (some ⟨l, e, ex⟩) deep H n).get p ≠ none → p = n ∨ (p ≠ n ∧ H.get p ≠ none) := by
    intro p hp; rw [hget] at hp
    by_cases hpn : p = n
    · exact .inl hpn
    · rw [if_neg hpn] at hp; exact .inr ⟨hpn, hp⟩
  refine ⟨by omega, fun o ho => ?_, ⟨fun p hp => ?_, fun p ob hp => ?_, fun p q hp hq he => ?_, h.belOf w1 w2 w3 (by omega) (fun b hb => w6 b (Nat.lt_of_lt_of_le hb h.bel.size)),
    (fun p hp => by dsimp only; rcases hlv p hp with rfl | ⟨h1, h2⟩; · rw [if_pos rfl]; exact h.bel.size
                    · rw [if_neg h1]; exact h.up p h2),
    fun p hp => by dsimp only; rw [if_neg (by omega)]; exact h.nm p hp⟩, w1, w2, w3, by omega, fun b hb _ => w6 b hb, fun p hp => ?_, fun p hp hl' => ?_⟩
  · have : o ≠ n := by omega
    dsimp only; rw [if_neg this, if_neg this]; exact ⟨rfl, rfl⟩
  · rcases hlv p hp with rfl | ⟨h1, h2⟩
    · exact ⟨.inr ⟨Nat.le_refl _, by omega⟩, hz, hs⟩
    · have := h.dom p h2; exact ⟨.inl this.1, this.2⟩
  · rw [hget] at hp
    by_cases hpn : p = n
    · rw [if_pos hpn] at hp
      simp only [Option.some.injEq] at hp
      subst hp hpn
      refine ⟨fun he => by dsimp only; rw [if_pos rfl]; exact hx he, cs, fr, by dsimp only; rw [if_pos rfl]; exact w5, hfr, by dsimp only; rw [if_pos rfl]; exact hsz, hl.mono hc hD⟩
    · rw [if_neg hpn] at hp
      have hR := h.rows p ob hp
      obtain ⟨ds, fr', k1, k2, k3, k4⟩ := hR.row
      have hlt := hR.lt
      refine ⟨fun he => by dsimp only; rw [if_neg hpn]; exact hR.ex he, ds, fr', by dsimp only; rw [if_neg hpn, w6 _ hlt]; exact k1, k2, by dsimp only; rw [if_neg hpn]; exact k3, k4.mono hc hD⟩
  · dsimp only at he
    rcases hlv p hp with rfl | ⟨h1, h2⟩ <;> rcases hlv q hq with rfl | ⟨h3, h4⟩
    · rfl
    · rw [if_pos rfl, if_neg h3] at he; have := h.lt h4; omega
    · rw [if_pos rfl, if_neg h1] at he; have := h.lt h2; omega
    · rw [if_neg h1, if_neg h3] at he; exact h.inj p q h2 h4 he
  · rcases hlv p hp with rfl | ⟨h1, h2⟩
    · exact .inr ⟨Nat.le_refl _, by omega, .inl (by dsimp only; rw [if_pos rfl]; exact Nat.le_refl _)⟩
    · exact .inl h2
  · rw [hget, if_neg (hno p hl')]

/-- A row is forgotten, and written as another one. -/
theorem step_turn {Φ : Fx} {P : Program} {c : Ctx} {D : Nat → Prop} {H : T AObj} {w w' : World} (h : HR Φ P c D H w) {n x o : Nat} (hn : ¬D n) (hz : n ≠ zId P) (hs : n < 4000000) (hlive : H.get o ≠ none)
    {l : List Value} {e : TypeId} {cs : Array Value} {fr : Nat × Nat} (hsz : cs.size = l.length + x * P.cellsOf e)
    (hl : LR (zId P) c D l (cs.toList.take l.length)) (hfr : Thaw cs.size fr) (hw : Wrote w w' (c.ρ o) cs e fr) (m : Nat) (hm : m ≤ o) :
    Step Φ P c ⟨fun p => if p = n then c.ρ o else c.ρ p, fun p => if p = n then x else c.x p⟩ D H (T.set (some ⟨l, e, false⟩) deep (T.set none deep H o) n) n (n + 1) m w w' := by
  have ho4 := (h.dom o hlive).2.2
  have hget : ∀ p, (T.set (some ⟨l, e, false⟩) deep (T.set none deep H o) n).get p = if p = n then some ⟨l, e, false⟩ else if p = o then none else H.get p := fun p => by
    rw [get_set _ _ _ _ _ (by unfold deep; omega)]
    split
    · rfl
    · exact get_set _ _ _ _ _ (by unfold deep; omega)
  have hno : ∀ p, H.get p ≠ none → p ≠ n := fun p hp hpn => hn (hpn ▸ (h.dom p hp).1)
  have hc : ∀ p, D p → (if p = n then c.ρ o else c.ρ p) = c.ρ p ∧ (if p = n then x else c.x p) = c.x p := by
    intro p ho
    have : p ≠ n := fun e => hn (e ▸ ho)
    rw [if_neg this, if_neg this]; exact ⟨rfl, rfl⟩
  have hD : ∀ p, D p → (D p ∨ (n ≤ p ∧ p < n + 1)) := fun p ho => .inl ho
  have hlv : ∀ p, (T.set (some ⟨l, e, false⟩) deep (T.set none deep H o) n).get p ≠ none → p = n ∨ (p ≠ n ∧ p ≠ o ∧ H.get p ≠ none) := by
    intro p hp; rw [hget] at hp
    by_cases hpn : p = n
    · exact .inl hpn
    · rw [if_neg hpn] at hp
      by_cases hpo : p = o
      · rw [if_pos hpo] at hp; exact absurd rfl hp
      · rw [if_neg hpo] at hp; exact .inr ⟨hpn, hpo, hp⟩
  refine ⟨by omega, fun p ho => ?_, ⟨fun p hp => ?_, fun p ob hp => ?_, fun p q hp hq he => ?_, h.belOf hw.os hw.tape hw.output (by rw [hw.size]; exact Nat.le_refl _) (fun b hb => hw.far b fun he => by have := h.up o hlive; omega),
    (fun p hp => by dsimp only; rcases hlv p hp with rfl | ⟨h1, h2, h3⟩; · rw [if_pos rfl]; exact h.up o hlive
                    · rw [if_neg h1]; exact h.up p h3),
    fun p hp => by dsimp only; rw [if_neg (by omega)]; exact h.nm p hp⟩, hw.os, hw.tape, hw.output, by rw [hw.size]; exact Nat.le_refl _, fun b hb hno => ?_, fun p hp => ?_, fun p hp hl' => ?_⟩
  · have : p ≠ n := by omega
    dsimp only; rw [if_neg this, if_neg this]; exact ⟨rfl, rfl⟩
  · rcases hlv p hp with rfl | ⟨h1, h2, h3⟩
    · exact ⟨.inr ⟨Nat.le_refl _, by omega⟩, hz, hs⟩
    · have := h.dom p h3; exact ⟨.inl this.1, this.2⟩
  · rw [hget] at hp
    by_cases hpn : p = n
    · rw [if_pos hpn] at hp
      simp only [Option.some.injEq] at hp
      subst hp hpn
      refine ⟨fun he => (by cases he), cs, fr, by dsimp only; rw [if_pos rfl]; exact hw.at_, hfr, by dsimp only; rw [if_pos rfl]; exact hsz, hl.mono hc hD⟩
    · rw [if_neg hpn] at hp
      by_cases hpo : p = o
      · rw [if_pos hpo] at hp; cases hp
      · rw [if_neg hpo] at hp
        have hR := h.rows p ob hp
        obtain ⟨ds, fr', k1, k2, k3, k4⟩ := hR.row
        have hne : c.ρ p ≠ c.ρ o := fun he => hpo (h.inj p o (by rw [hp]; simp) hlive he)
        refine ⟨fun he => by dsimp only; rw [if_neg hpn]; exact hR.ex he, ds, fr', by dsimp only; rw [if_neg hpn, hw.far _ hne]; exact k1, k2, by dsimp only; rw [if_neg hpn]; exact k3, k4.mono hc hD⟩
  · dsimp only at he
    rcases hlv p hp with rfl | ⟨h1, h2, h2'⟩ <;> rcases hlv q hq with rfl | ⟨h3, h4, h4'⟩
    · rfl
    · rw [if_pos rfl, if_neg h3] at he; exact absurd (h.inj o q hlive h4' he).symm h4
    · rw [if_pos rfl, if_neg h1] at he; exact absurd (h.inj p o h2' hlive he) h2
    · rw [if_neg h1, if_neg h3] at he; exact h.inj p q h2' h4' he
  · rw [hw.far]
    intro hbo
    exact hno ⟨o, hm, hlive, hbo.symm⟩
  · rcases hlv p hp with rfl | ⟨h1, h2, h3⟩
    · exact .inr ⟨Nat.le_refl _, by omega, .inr ⟨o, hm, hlive, by dsimp only; rw [if_pos rfl]⟩⟩
    · exact .inl h3
  · rw [hget, if_neg (hno p hl'), if_neg (by omega)]

end Go.Proofs.Ytlkjdclhgmkndaa.Canon
