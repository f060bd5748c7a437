/-
  Operations that touch memory.
-/
import Derived.Test.YtlkjdclhgmkndaaCanonG
namespace Go.Proofs.Ytlkjdclhgmkndaa.Canon
set_option linter.unusedVariables false
set_option linter.unusedSimpArgs false
open Go.RowKit

/-- What the model does where the runner gives a value. -/
structure Val (Φ : Fx) (P : Program) (c : Ctx) (D : Nat → Prop) (s s' : St) (v : Value) (w : World) (run : Result Next) : Prop where
  mw : s'.mw ≤ s.mw
  ex : ∃ c' v' w', (run = .ok (.value v') w' ∨ (run = .ok .skip w' ∧ v' = undef)) ∧ Step Φ P c c' D s.heap s'.heap s.next s'.next s'.mw w w' ∧
    VR (zId P) c' (fun o => D o ∨ (s.next ≤ o ∧ o < s'.next)) v v'

section
variable {Φ : Fx} {c : Ctx} {D : Nat → Prop} {P : Program} {w : World} {s s' : St} {v : Value}

theorem alloc_inv {e : TypeId} {cells : List Value} {ex : Bool} {k : Nat → St → Option (ANext × St)} {r : ANext × St} (h : alloc e cells ex s k = some r) :
    s.next < 4000000 ∧ k s.next ⟨s.next + 1, s.mw, T.set (some ⟨cells, e, ex⟩) deep s.heap s.next⟩ = some r := by
  unfold alloc at h
  rw [fNat_eq] at h
  obtain ⟨h1, h2⟩ := bif_inv h
  rw [Nat.blt_eq] at h1
  exact ⟨h1, h2⟩

theorem dom_nil (D : Nat → Prop) (n : Nat) : (fun o => D o ∨ (n ≤ o ∧ o < n)) = D := by funext o; simp; omega

theorem run_newObj' (o : Obj) : (newObj o).run P w = .ok w.heap.size { w with heap := w.heap.push o } := rfl

/-- A row that the call makes: all of it. -/
theorem val_new (h : HR Φ P c D s.heap w) (hz : zId P < s.next) (hn : s.next < 4000000) (hf : ¬D s.next) {l : List Value} {e : TypeId} {ex : Bool} {cs : Array Value} {x : Nat} {run : Result Next}
    {mk mk' : Value} (hx : ex = true → x = 0) (hsz : cs.size = l.length + x * P.cellsOf e) (hl : LR (zId P) c D l (cs.toList.take l.length))
    (hs' : s' = ⟨s.next + 1, s.mw, T.set (some ⟨l, e, ex⟩) deep s.heap s.next⟩)
    (w' : World) (fr : Nat × Nat) (hfr : Thaw cs.size fr) (w1 : w'.os = w.os) (w2 : w'.tape = w.tape) (w3 : w'.output = w.output) (w4 : w'.heap.size = w.heap.size + 1)
    (w5 : w'.heap[w.heap.size]? = some (.cells cs e fr)) (w6 : ∀ b, b < w.heap.size → w'.heap[b]? = w.heap[b]?)
    (hrun : run = .ok (.value mk') w')
    (hv : VR (zId P) ⟨fun o => if o = s.next then w.heap.size else c.ρ o, fun o => if o = s.next then x else c.x o⟩ (fun o => D o ∨ (s.next ≤ o ∧ o < s.next + 1)) mk mk') :
    Val Φ P c D s s' mk w run := by
  subst hs'
  exact ⟨Nat.le_refl _, _, mk', w', .inl hrun, step_alloc h hf (by omega) hn hx hsz hl hfr w1 w2 w3 w4 w5 w6 _, hv⟩

theorem push_last (w : World) (o : Obj) : ({ w with heap := w.heap.push o } : World).heap[w.heap.size]? = some o := by simp
theorem push_old (w : World) (o : Obj) (b : Nat) (hb : b < w.heap.size) : ({ w with heap := w.heap.push o } : World).heap[b]? = w.heap[b]? := by
  simp only [Array.getElem?_push]; rw [if_neg (by omega)]

/-- A row exactly as told, by a push. -/
theorem val_push (h : HR Φ P c D s.heap w) (hz : zId P < s.next) (hn : s.next < 4000000) (hf : ¬D s.next) {l l' : List Value} {e : TypeId} {run : Result Next}
    {mk mk' : Value} (hl : LR (zId P) c D l l') (hs' : s' = ⟨s.next + 1, s.mw, T.set (some ⟨l, e, true⟩) deep s.heap s.next⟩)
    (hrun : run = .ok (.value mk') { w with heap := w.heap.push (.cells l'.toArray e) })
    (hv : VR (zId P) ⟨fun o => if o = s.next then w.heap.size else c.ρ o, fun o => if o = s.next then 0 else c.x o⟩ (fun o => D o ∨ (s.next ≤ o ∧ o < s.next + 1)) mk mk') :
    Val Φ P c D s s' mk w run :=
  val_new h hz hn hf (x := 0) (cs := l'.toArray) (fun _ => rfl) (by simp [hl.1]) (by rw [List.take_of_length_le (by simp [hl.1])]; exact hl) hs' { w with heap := w.heap.push (.cells l'.toArray e) } (0, 0) (.inl rfl) rfl rfl rfl (by simp) (push_last _ _) (fun b hb => push_old _ _ b hb) hrun hv

theorem new_ptr {n b x : Nat} : VR (zId P) ⟨fun o => if o = n then b else c.ρ o, fun o => if o = n then x else c.x o⟩ (fun o => D o ∨ (n ≤ o ∧ o < n + 1)) (.pointer (some ⟨n, 0, none⟩)) (.pointer (some ⟨b, 0, none⟩)) := by
  have := VR.ptr (Z := zId P) (c := ⟨fun o => if o = n then b else c.ρ o, fun o => if o = n then x else c.x o⟩) (D := fun o => D o ∨ (n ≤ o ∧ o < n + 1)) n 0 (.inr ⟨Nat.le_refl _, by omega⟩)
  simpa using this
theorem new_slice {n b x len cap : Nat} (hz : n ≠ zId P) : VR (zId P) ⟨fun o => if o = n then b else c.ρ o, fun o => if o = n then x else c.x o⟩ (fun o => D o ∨ (n ≤ o ∧ o < n + 1))
    (.slice (some ⟨n, 0, none⟩) len cap) (.slice (some ⟨b, 0, none⟩) len (cap + x)) := by
  have := VR.sl (Z := zId P) (c := ⟨fun o => if o = n then b else c.ρ o, fun o => if o = n then x else c.x o⟩) (D := fun o => D o ∨ (n ≤ o ∧ o < n + 1)) n 0 len cap (.inr ⟨Nat.le_refl _, by omega⟩) hz
  simpa using this

theorem zero_run {t : TypeId} {z : List Value} (h : zero? P t = some z) : ∃ u, u.cells.toList = z ∧ (P.info? t).bind (·.zero) = some u ∧ ∀ w, (zeroValue t).run P w = .ok u w := by
  unfold zero? at h
  split at h
  · rename_i i hi
    split at h
    · rename_i u hu
      simp only [Option.some.injEq] at h
      have e : (P.info? t).bind (·.zero) = some u := by rw [hi]; exact hu
      exact ⟨u, h, e, fun w => run_of_prun (by rw [prun_zeroValue, e]) w⟩
    · cases h
  · cases h

theorem firstOf_run (h : HR Φ P c D s.heap w) {size n : Nat} {x x' : Value} {l : List Value} (hx : VR (zId P) c D x x') (hl : firstOf s.heap size n x = some l) (hn : 0 < n) :
    ∃ l', LR (zId P) c D l l' ∧ ∀ d, (Builtin.firstCells size n x').run P { w with drawn := d } = .ok l'.toArray { w with drawn := d } := by
  unfold firstOf at hl
  split at hl
  · rename_i a len cap
    rw [nbeq_no (by omega), cond_false] at hl
    cases hx with
    | sl o off l cp hd hz =>
      obtain ⟨l', h1, h2, h3, h4⟩ := read_cells h hl
      refine ⟨l', h1, fun d => ?_⟩
      unfold Builtin.firstCells
      exact run_cells (by rw [← h1.1, h2]) h3
    | z0 a =>
      obtain ⟨l', h1, h2, h3, h4⟩ := read_cells h hl
      exact absurd rfl (h.dom _ h4).2.1
    | z1 a cp =>
      obtain ⟨l', h1, h2, h3, h4⟩ := read_cells h hl
      exact absurd rfl (h.dom _ h4).2.1
  · rw [nbeq_no (by omega), cond_false] at hl; cases hl
  · rename_i b
    split at hl
    · rename_i r hr
      simp only [Option.some.injEq] at hl
      subst hl
      obtain ⟨r1, r2⟩ := takeN_eq _ _ _ hr
      rw [kept_str hx]
      have g : allL Canon.ground0 (r.map fun b => Value.int .u8 (.ofNat b.toNat)) = true := by
        rw [allL_eq]; intro x hx
        obtain ⟨y, _, rfl⟩ := List.mem_map.1 hx
        rfl
      refine ⟨_, .of_ground0 g, fun d => ?_⟩
      unfold Builtin.firstCells
      simp only [Sem.run_pure]
      congr 1
      apply Array.toList_inj.1
      have e3 : (b.extract 0 n).data = b.data.extract 0 n := ByteArray.data_extract
      simp only [Array.toList_map, e3, Array.toList_extract, List.extract_eq_take_drop, r1]
      simp
    · cases hl
  · cases hl


theorem val_same (h : HR Φ P c D s.heap w) {v v' : Value} {run : Result Next} (hv : VR (zId P) c D v v') (hr : run = .ok (.value v') w) : Val Φ P c D s s v w run :=
  ⟨Nat.le_refl _, c, v', w, .inl hr, .refl h, by rw [dom_nil]; exact hv⟩

/-- A store into one row. -/
theorem val_write (h : HR Φ P c D s.heap w) {s2 : St} {o off : Nat} {vs vs' : List Value} (hw : writeAt s ⟨o, off, none⟩ vs = some s2) (hv : LR (zId P) c D vs vs') {v v' : Value} {run : Result Next}
    (hvv : VR (zId P) c D v v')
    (hr : ∀ w', (storeCells ⟨c.ρ o, off, none⟩ vs').run P w = .ok () w' → run = .ok (.value v') w' ∨ (run = .ok .skip w' ∧ v' = undef)) : Val Φ P c D s s2 v w run := by
  obtain ⟨e1, e2, e3, e4, w', e5, e6⟩ := step_write h hv hw s.next
  refine ⟨e2, c, v', w', hr w' e5, ?_, ?_⟩
  · rw [e1]; exact e6
  · rw [e1, dom_nil]; exact hvv

theorem range_map_at (z : Array Value) (n i : Nat) (hi : i < n) : ((Array.range n).map (fun j => z[j % z.size]!))[i]? = some (z[i % z.size]!) := by
  simp [hi]

theorem reps_range (z : Array Value) (n : Nat) : (reps z.toList n).toArray = (Array.range (n * z.size)).map (fun j => z[j % z.size]!) := by
  apply Array.toList_inj.1
  apply List.ext_getElem?
  intro i
  have hl : z.toList.length = z.size := Array.length_toList
  by_cases hi : i < n * z.size
  · have hz : 0 < z.size := by
      rcases Nat.eq_zero_or_pos z.size with h | h
      · rw [h] at hi; omega
      · exact h
    have h1 : ((Array.range (n * z.size)).map (fun j => z[j % z.size]!)).toList[i]? = some (z[i % z.size]!) := by
      rw [Array.getElem?_toList]; exact range_map_at z _ i hi
    show (reps z.toList n)[i]? = _
    rw [h1]
    have h2 := reps_at z.toList n i (by rw [hl]; exact hi)
    rw [h2, hl]
    have hm : i % z.size < z.size := Nat.mod_lt _ hz
    rw [Array.getElem?_toList, Array.getElem?_eq_getElem hm, getElem!_pos z _ hm]
  · show (reps z.toList n)[i]? = _
    rw [List.getElem?_eq_none (by rw [reps_len, hl]; omega), List.getElem?_eq_none (by simp; omega)]

theorem zeroCells_reps (z : Array Value) (n : Nat) : Builtin.zeroCells z n = (reps z.toList n).toArray := (reps_range z n).symm

theorem reps_ground {z : List Value} (h : allL Canon.ground0 z = true) : ∀ n, allL Canon.ground0 (reps z n) = true
  | 0 => rfl
  | n + 1 => by
    rw [allL_eq] at *
    intro x hx
    rw [reps, app_eq, List.mem_append] at hx
    rcases hx with hx | hx
    · exact h x hx
    · exact (allL_eq _ _).1 (reps_ground ((allL_eq _ _).2 h) n) x hx


theorem toBytes_eq : ∀ (l : List Value) (r : List UInt8), toBytes l = some r → ∃ ns : List Int, l = ns.map (Value.int .u8) ∧ r = ns.map (fun n => UInt8.ofNat n.toNat)
  | [], r, h => by simp only [toBytes, Option.some.injEq] at h; subst h; exact ⟨[], rfl, rfl⟩
  | v :: l, r, h => by
    unfold toBytes at h
    split at h
    · rename_i e; cases e
    · rename_i n l' e
      simp only [List.cons.injEq] at e
      obtain ⟨rfl, rfl⟩ := e
      split at h
      · rename_i r' hr
        simp only [Option.some.injEq] at h
        subst h
        obtain ⟨ns, h1, h2⟩ := toBytes_eq l r' hr
        exact ⟨n :: ns, by rw [h1]; rfl, by rw [h2]; rfl⟩
      · cases h
    · cases h

theorem bytes_loop (P : Program) (w : World) {f : Value → ByteArray → Sem (ForInStep ByteArray)} (hf : ∀ n b, f (.int .u8 n) b = pure (ForInStep.yield (b.push (UInt8.ofNat n.toNat)))) : ∀ (ns : List Int) (b : ByteArray),
    (forIn (m := Sem) (ns.map (Value.int .u8)) b f).run P w = .ok ⟨(b.data.toList ++ ns.map (fun n => UInt8.ofNat n.toNat)).toArray⟩ w
  | [], b => by
    simp only [List.map_nil, List.forIn_nil, Sem.run_pure, List.append_nil]
  | n :: ns, b => by
    simp only [List.map_cons, List.forIn_cons, hf, pure_bind]
    have := bytes_loop P w hf ns (b.push (UInt8.ofNat n.toNat))
    rw [this]
    congr 2
    simp [ByteArray.push]


/-- A row is marked as one of a string's bytes. -/
theorem val_mark (h : HR Φ P c D s.heap w) {o : Nat} {obj : AObj} (ho : s.heap.get o = some obj) {v' : Value} (hv : VR (zId P) c D v v') {run : Result Next}
    (hrun : ∀ n, w.shape? (c.ρ o) = some (obj.elem, n) → run = .ok (.value v') (w.freeze ⟨c.ρ o, n, none⟩ 1)) :
    Val Φ P c D s ⟨s.next, Nat.min s.mw o, s.heap⟩ v w run := by
  have hlive : s.heap.get o ≠ none := by rw [ho]; simp
  obtain ⟨cs, fr, r1, r2, r3, r4⟩ := (h.rows o obj ho).row
  have hlt : c.ρ o < w.heap.size := (Array.getElem?_eq_some_iff.1 r1).1
  have hsh : w.shape? (c.ρ o) = some (obj.elem, cs.size) := by unfold World.shape?; rw [r1]
  obtain ⟨fr', hfr', hat⟩ : ∃ fr', Thaw cs.size fr' ∧ (w.freeze ⟨c.ρ o, cs.size, none⟩ 1).heap[c.ρ o]? = some (.cells cs obj.elem fr') := by
    obtain ⟨lo, hi⟩ := fr
    refine ⟨if lo == hi then (cs.size, cs.size + 1) else (min lo cs.size, max hi (cs.size + 1)), ?_, ?_⟩
    · by_cases hlh : lo = hi
      · simp [hlh, Thaw]
      · have : cs.size ≤ lo := by
          rcases r2 with h5 | h5
          · exact absurd h5 hlh
          · exact h5
        rw [if_neg (by simpa using hlh)]
        refine .inr ?_
        show cs.size ≤ min lo cs.size
        omega
    · unfold World.freeze
      rw [if_neg (by decide)]
      simp only [Array.getElem?_modify, if_pos, r1, Option.map_some]
  have hfar : ∀ k, k ≠ c.ρ o → (w.freeze ⟨c.ρ o, cs.size, none⟩ 1).heap[k]? = w.heap[k]? := fun k hk => by
    unfold World.freeze
    rw [if_neg (by decide)]
    simp only [Array.getElem?_modify]
    rw [if_neg (fun e => hk e.symm)]
  have hsame : (w.freeze ⟨c.ρ o, cs.size, none⟩ 1).os = w.os ∧ (w.freeze ⟨c.ρ o, cs.size, none⟩ 1).tape = w.tape ∧ (w.freeze ⟨c.ρ o, cs.size, none⟩ 1).output = w.output ∧
      w.heap.size ≤ (w.freeze ⟨c.ρ o, cs.size, none⟩ 1).heap.size := by
    unfold World.freeze
    rw [if_neg (by decide)]
    exact ⟨rfl, rfl, rfl, by simp⟩
  refine ⟨Nat.min_le_left _ _, c, v', _, .inl (hrun _ hsh), ⟨Nat.le_refl _, fun _ _ => ⟨rfl, rfl⟩, ?_, hsame.1, hsame.2.1, hsame.2.2.1, hsame.2.2.2, fun b hb hno => hfar b fun e => hno ⟨o, Nat.min_le_right _ _, hlive, e.symm⟩, fun p hp => .inl hp, fun _ _ _ => rfl⟩, by rw [dom_nil]; exact hv⟩
  rw [dom_nil]
  refine ⟨h.dom, fun p ob hp => ?_, h.inj, h.belOf hsame.1 hsame.2.1 hsame.2.2.1 hsame.2.2.2 (fun b hb => hfar b fun e => by have := h.up o hlive; omega), h.up, h.nm⟩
  by_cases hpo : p = o
  · subst hpo
    rw [ho] at hp
    simp only [Option.some.injEq] at hp
    subst hp
    exact ⟨(h.rows p obj ho).ex, cs, fr', hat, hfr', r3, r4⟩
  · obtain ⟨ds, fr2, k1, k2, k3, k4⟩ := (h.rows p ob hp).row
    refine ⟨(h.rows p ob hp).ex, ds, fr2, ?_, k2, k3, k4⟩
    rw [hfar _ fun e => hpo (h.inj p o (by rw [hp]; simp) hlive e)]
    exact k1

end
end Go.Proofs.Ytlkjdclhgmkndaa.Canon
