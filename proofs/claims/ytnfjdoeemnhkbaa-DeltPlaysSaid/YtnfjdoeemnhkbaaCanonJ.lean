/-
  Operations that touch memory.
  Operations that touch memory, each.
  Operations that touch memory, all of them.
-/
import Derived.Test.YtnfjdoeemnhkbaaCanonE
namespace Go.Proofs.Ytnfjdoeemnhkbaa.Canon
set_option linter.unusedVariables false
set_option linter.unusedSimpArgs false
open Go.RowKit

/-- What the model does where the runner gives a value. -/
structure Val (Φ : Fx) (P : Program) (c : Ctx) (D : Nat → Prop) (s s' : St) (v : Value) (w : World) (run : Result Next) : Prop where
  mw : s'.mw ≤ s.mw
  ex : ∃ c' v' w', (run = .ok (.value v') w' ∨ (run = .ok .skip w' ∧ v' = undef)) ∧ Step Φ P c c' D s.heap s'.heap s.next s'.next s'.mw w w' ∧
    VR (zId P) c' (fun o => D o ∨ (s.next ≤ o ∧ o < s'.next)) v v'

section
variable {Φ : Fx} {c : Ctx} {D : Nat → Prop} {P : Program} {w : World} {s s' : St} {v : Value}

theorem alloc_inv {e : TypeId} {cells : List Value} {ex : Bool} {k : Nat → St → Option (ANext × St)} {r : ANext × St} (h : alloc e cells ex s k = some r) :
    s.next < 4000000 ∧ k s.next ⟨s.next + 1, s.mw, T.set (some ⟨cells, e, ex⟩) deep s.heap s.next⟩ = some r := by
  unfold alloc at h
  rw [fNat_eq] at h
  obtain ⟨h1, h2⟩ := bif_inv h
  rw [Nat.blt_eq] at h1
  exact ⟨h1, h2⟩

theorem dom_nil (D : Nat → Prop) (n : Nat) : (fun o => D o ∨ (n ≤ o ∧ o < n)) = D := by funext o; simp; omega

theorem run_newObj' (o : Obj) : (newObj o).run P w = .ok w.heap.size { w with heap := w.heap.push o } := rfl

/-- A row that the call makes: all of it. -/
theorem val_new (h : HR Φ P c D s.heap w) (hz : zId P < s.next) (hn : s.next < 4000000) (hf : ¬D s.next) {l : List Value} {e : TypeId} {ex : Bool} {cs : Array Value} {x : Nat} {run : Result Next}
    {mk mk' : Value} (hx : ex = true → x = 0) (hsz : cs.size = l.length + x * P.cellsOf e) (hl : LR (zId P) c D l (cs.toList.take l.length))
    (hs' : s' = ⟨s.next + 1, s.mw, T.set (some ⟨l, e, ex⟩) deep s.heap s.next⟩)
    (w' : World) (fr : Nat × Nat) (hfr : Thaw cs.size fr) (w1 : w'.os = w.os) (w2 : w'.tape = w.tape) (w3 : w'.output = w.output) (w4 : w'.heap.size = w.heap.size + 1)
    (w5 : w'.heap[w.heap.size]? = some (.cells cs e fr)) (w6 : ∀ b, b < w.heap.size → w'.heap[b]? = w.heap[b]?)
    (hrun : run = .ok (.value mk') w')
    (hv : VR (zId P) ⟨fun o => if o = s.next then w.heap.size else c.ρ o, fun o => if o = s.next then x else c.x o, fun o => if o = s.next then [] else c.nv o, c.fz⟩ (fun o => D o ∨ (s.next ≤ o ∧ o < s.next + 1)) mk mk') :
    Val Φ P c D s s' mk w run := by
  subst hs'
  exact ⟨Nat.le_refl _, _, mk', w', .inl hrun, step_alloc h hf (by omega) hn hx hsz hl hfr w1 w2 w3 w4 w5 w6 _, hv⟩

theorem push_last (w : World) (o : Obj) : ({ w with heap := w.heap.push o } : World).heap[w.heap.size]? = some o := by simp
theorem push_old (w : World) (o : Obj) (b : Nat) (hb : b < w.heap.size) : ({ w with heap := w.heap.push o } : World).heap[b]? = w.heap[b]? := by
  simp only [Array.getElem?_push]; rw [if_neg (by omega)]

/-- A row exactly as told, by a push. -/
theorem val_push (h : HR Φ P c D s.heap w) (hz : zId P < s.next) (hn : s.next < 4000000) (hf : ¬D s.next) {l l' : List Value} {e : TypeId} {run : Result Next}
    {mk mk' : Value} (hl : LR (zId P) c D l l') (hs' : s' = ⟨s.next + 1, s.mw, T.set (some ⟨l, e, true⟩) deep s.heap s.next⟩)
    (hrun : run = .ok (.value mk') { w with heap := w.heap.push (.cells l'.toArray e) })
    (hv : VR (zId P) ⟨fun o => if o = s.next then w.heap.size else c.ρ o, fun o => if o = s.next then 0 else c.x o, fun o => if o = s.next then [] else c.nv o, c.fz⟩ (fun o => D o ∨ (s.next ≤ o ∧ o < s.next + 1)) mk mk') :
    Val Φ P c D s s' mk w run :=
  val_new h hz hn hf (x := 0) (cs := l'.toArray) (fun _ => rfl) (by simp [hl.1]) (by rw [List.take_of_length_le (by simp [hl.1])]; exact hl) hs' { w with heap := w.heap.push (.cells l'.toArray e) } (0, 0) (.inl rfl) rfl rfl rfl (by simp) (push_last _ _) (fun b hb => push_old _ _ b hb) hrun hv

theorem new_ptr {n b x : Nat} : VR (zId P) ⟨fun o => if o = n then b else c.ρ o, fun o => if o = n then x else c.x o, fun o => if o = n then [] else c.nv o, c.fz⟩ (fun o => D o ∨ (n ≤ o ∧ o < n + 1)) (.pointer (some ⟨n, 0, none⟩)) (.pointer (some ⟨b, 0, none⟩)) := by
  have := VR.ptr (Z := zId P) (c := ⟨fun o => if o = n then b else c.ρ o, fun o => if o = n then x else c.x o, fun o => if o = n then [] else c.nv o, c.fz⟩) (D := fun o => D o ∨ (n ≤ o ∧ o < n + 1)) n 0 (.inr ⟨Nat.le_refl _, by omega⟩)
  simpa using this
theorem new_slice {n b x len cap : Nat} (hz : n ≠ zId P) : VR (zId P) ⟨fun o => if o = n then b else c.ρ o, fun o => if o = n then x else c.x o, fun o => if o = n then [] else c.nv o, c.fz⟩ (fun o => D o ∨ (n ≤ o ∧ o < n + 1))
    (.slice (some ⟨n, 0, none⟩) len cap) (.slice (some ⟨b, 0, none⟩) len (cap + x)) := by
  have := VR.sl (Z := zId P) (c := ⟨fun o => if o = n then b else c.ρ o, fun o => if o = n then x else c.x o, fun o => if o = n then [] else c.nv o, c.fz⟩) (D := fun o => D o ∨ (n ≤ o ∧ o < n + 1)) n 0 len cap (.inr ⟨Nat.le_refl _, by omega⟩) hz
  simpa using this

theorem zero_run {t : TypeId} {z : List Value} (h : zero? P t = some z) : ∃ u, u.cells.toList = z ∧ (P.info? t).bind (·.zero) = some u ∧ ∀ w, (zeroValue t).run P w = .ok u w := by
  unfold zero? at h
  split at h
  · rename_i i hi
    split at h
    · rename_i u hu
      simp only [Option.some.injEq] at h
      have e : (P.info? t).bind (·.zero) = some u := by rw [hi]; exact hu
      exact ⟨u, h, e, fun w => run_of_prun (by rw [prun_zeroValue, e]) w⟩
    · cases h
  · cases h

theorem firstOf_run (h : HR Φ P c D s.heap w) {size n : Nat} {x x' : Value} {l : List Value} (hx : VR (zId P) c D x x') (hl : firstOf s.heap size n x = some l) (hn : 0 < n) :
    ∃ l', LR (zId P) c D l l' ∧ ∀ d, (Builtin.firstCells size n x').run P { w with drawn := d } = .ok l'.toArray { w with drawn := d } := by
  unfold firstOf at hl
  split at hl
  · rename_i a len cap
    rw [nbeq_no (by omega), cond_false] at hl
    cases hx with
    | sl o off l cp hd hz =>
      obtain ⟨l', h1, h2, h3, h4⟩ := read_cells h hl
      refine ⟨l', h1, fun d => ?_⟩
      unfold Builtin.firstCells
      exact run_cells (by rw [← h1.1, h2]) h3
    | z0 a =>
      obtain ⟨l', h1, h2, h3, h4⟩ := read_cells h hl
      exact absurd rfl (h.dom _ h4).2.1
    | z1 a cp =>
      obtain ⟨l', h1, h2, h3, h4⟩ := read_cells h hl
      exact absurd rfl (h.dom _ h4).2.1
  · rw [nbeq_no (by omega), cond_false] at hl; cases hl
  · rename_i b
    split at hl
    · rename_i r hr
      simp only [Option.some.injEq] at hl
      subst hl
      obtain ⟨r1, r2⟩ := takeN_eq _ _ _ hr
      rw [kept_str hx]
      have g : allL Canon.ground0 (r.map fun b => Value.int .u8 (.ofNat b.toNat)) = true := by
        rw [allL_eq]; intro x hx
        obtain ⟨y, _, rfl⟩ := List.mem_map.1 hx
        rfl
      refine ⟨_, .of_ground0 g, fun d => ?_⟩
      unfold Builtin.firstCells
      simp only [Sem.run_pure]
      congr 1
      apply Array.toList_inj.1
      have e3 : (b.extract 0 n).data = b.data.extract 0 n := ByteArray.data_extract
      simp only [Array.toList_map, e3, Array.toList_extract, List.extract_eq_take_drop, r1]
      simp
    · cases hl
  · cases hl


theorem val_same (h : HR Φ P c D s.heap w) {v v' : Value} {run : Result Next} (hv : VR (zId P) c D v v') (hr : run = .ok (.value v') w) : Val Φ P c D s s v w run :=
  ⟨Nat.le_refl _, c, v', w, .inl hr, .refl h, by rw [dom_nil]; exact hv⟩

/-- A store into one row. -/
theorem val_write (h : HR Φ P c D s.heap w) {s2 : St} {o off : Nat} {vs vs' : List Value} (hw : writeAt s ⟨o, off, none⟩ vs = some s2) (hv : LR (zId P) c D vs vs') {v v' : Value} {run : Result Next}
    (hvv : VR (zId P) c D v v')
    (hr : ∀ w', (storeCells ⟨c.ρ o, off, none⟩ vs').run P w = .ok () w' → run = .ok (.value v') w' ∨ (run = .ok .skip w' ∧ v' = undef)) : Val Φ P c D s s2 v w run := by
  obtain ⟨e1, e2, e3, e4, w', e5, e6⟩ := step_write h hv hw s.next
  refine ⟨e2, c, v', w', hr w' e5, ?_, ?_⟩
  · rw [e1]; exact e6
  · rw [e1, dom_nil]; exact hvv

theorem range_map_at (z : Array Value) (n i : Nat) (hi : i < n) : ((Array.range n).map (fun j => z[j % z.size]!))[i]? = some (z[i % z.size]!) := by
  simp [hi]

theorem reps_range (z : Array Value) (n : Nat) : (reps z.toList n).toArray = (Array.range (n * z.size)).map (fun j => z[j % z.size]!) := by
  apply Array.toList_inj.1
  apply List.ext_getElem?
  intro i
  have hl : z.toList.length = z.size := Array.length_toList
  by_cases hi : i < n * z.size
  · have hz : 0 < z.size := by
      rcases Nat.eq_zero_or_pos z.size with h | h
      · rw [h] at hi; omega
      · exact h
    have h1 : ((Array.range (n * z.size)).map (fun j => z[j % z.size]!)).toList[i]? = some (z[i % z.size]!) := by
      rw [Array.getElem?_toList]; exact range_map_at z _ i hi
    show (reps z.toList n)[i]? = _
    rw [h1]
    have h2 := reps_at z.toList n i (by rw [hl]; exact hi)
    rw [h2, hl]
    have hm : i % z.size < z.size := Nat.mod_lt _ hz
    rw [Array.getElem?_toList, Array.getElem?_eq_getElem hm, getElem!_pos z _ hm]
  · show (reps z.toList n)[i]? = _
    rw [List.getElem?_eq_none (by rw [reps_len, hl]; omega), List.getElem?_eq_none (by simp; omega)]

theorem zeroCells_reps (z : Array Value) (n : Nat) : Builtin.zeroCells z n = (reps z.toList n).toArray := (reps_range z n).symm

theorem reps_ground {z : List Value} (h : allL Canon.ground0 z = true) : ∀ n, allL Canon.ground0 (reps z n) = true
  | 0 => rfl
  | n + 1 => by
    rw [allL_eq] at *
    intro x hx
    rw [reps, app_eq, List.mem_append] at hx
    rcases hx with hx | hx
    · exact h x hx
    · exact (allL_eq _ _).1 (reps_ground ((allL_eq _ _).2 h) n) x hx


theorem toBytes_eq : ∀ (l : List Value) (r : List UInt8), toBytes l = some r → ∃ ns : List Int, l = ns.map (Value.int .u8) ∧ r = ns.map (fun n => UInt8.ofNat n.toNat)
  | [], r, h => by simp only [toBytes, Option.some.injEq] at h; subst h; exact ⟨[], rfl, rfl⟩
  | v :: l, r, h => by
    unfold toBytes at h
    split at h
    · rename_i e; cases e
    · rename_i n l' e
      simp only [List.cons.injEq] at e
      obtain ⟨rfl, rfl⟩ := e
      split at h
      · rename_i r' hr
        simp only [Option.some.injEq] at h
        subst h
        obtain ⟨ns, h1, h2⟩ := toBytes_eq l r' hr
        exact ⟨n :: ns, by rw [h1]; rfl, by rw [h2]; rfl⟩
      · cases h
    · cases h

theorem bytes_loop (P : Program) (w : World) {f : Value → ByteArray → Sem (ForInStep ByteArray)} (hf : ∀ n b, f (.int .u8 n) b = pure (ForInStep.yield (b.push (UInt8.ofNat n.toNat)))) : ∀ (ns : List Int) (b : ByteArray),
    (forIn (m := Sem) (ns.map (Value.int .u8)) b f).run P w = .ok ⟨(b.data.toList ++ ns.map (fun n => UInt8.ofNat n.toNat)).toArray⟩ w
  | [], b => by
    simp only [List.map_nil, List.forIn_nil, Sem.run_pure, List.append_nil]
  | n :: ns, b => by
    simp only [List.map_cons, List.forIn_cons, hf, pure_bind]
    have := bytes_loop P w hf ns (b.push (UInt8.ofNat n.toNat))
    rw [this]
    congr 2
    simp [ByteArray.push]


/-- A row is marked as one of a string's bytes. -/
theorem val_mark (h : HR Φ P c D s.heap w) {o : Nat} {obj : AObj} (ho : s.heap.get o = some obj) {v' : Value} (hv : VR (zId P) c D v v') {run : Result Next}
    (hrun : ∀ n, w.shape? (c.ρ o) = some (obj.elem, n) → run = .ok (.value v') (w.freeze ⟨c.ρ o, n, none⟩ 1)) :
    Val Φ P c D s ⟨s.next, Nat.min s.mw o, s.heap⟩ v w run := by
  have hlive : s.heap.get o ≠ none := by rw [ho]; simp
  obtain ⟨cs, fr, r1, r2, r3, r4⟩ := (h.rows o obj ho).row
  have hlt : c.ρ o < w.heap.size := (Array.getElem?_eq_some_iff.1 r1).1
  have hsh : w.shape? (c.ρ o) = some (obj.elem, cs.size) := by unfold World.shape?; rw [r1]
  obtain ⟨fr', hfr', hat⟩ : ∃ fr', Thaw cs.size fr' ∧ (w.freeze ⟨c.ρ o, cs.size, none⟩ 1).heap[c.ρ o]? = some (.cells cs obj.elem fr') := by
    obtain ⟨lo, hi⟩ := fr
    refine ⟨if lo == hi then (cs.size, cs.size + 1) else (min lo cs.size, max hi (cs.size + 1)), ?_, ?_⟩
    · by_cases hlh : lo = hi
      · simp [hlh, Thaw]
      · have : cs.size ≤ lo := by
          rcases r2 with h5 | h5
          · exact absurd h5 hlh
          · exact h5
        rw [if_neg (by simpa using hlh)]
        refine .inr ?_
        show cs.size ≤ min lo cs.size
        omega
    · unfold World.freeze
      rw [if_neg (by decide)]
      simp only [Array.getElem?_modify, if_pos, r1, Option.map_some]
  have hfar : ∀ k, k ≠ c.ρ o → (w.freeze ⟨c.ρ o, cs.size, none⟩ 1).heap[k]? = w.heap[k]? := fun k hk => by
    unfold World.freeze
    rw [if_neg (by decide)]
    simp only [Array.getElem?_modify]
    rw [if_neg (fun e => hk e.symm)]
  have hsame : (w.freeze ⟨c.ρ o, cs.size, none⟩ 1).os = w.os ∧ (w.freeze ⟨c.ρ o, cs.size, none⟩ 1).tape = w.tape ∧ (w.freeze ⟨c.ρ o, cs.size, none⟩ 1).output = w.output ∧
      w.heap.size ≤ (w.freeze ⟨c.ρ o, cs.size, none⟩ 1).heap.size := by
    unfold World.freeze
    rw [if_neg (by decide)]
    exact ⟨rfl, rfl, rfl, by simp⟩
  refine ⟨Nat.min_le_left _ _, c, v', _, .inl (hrun _ hsh), ⟨Nat.le_refl _, fun _ _ => ⟨rfl, rfl, rfl⟩, fun _ _ => rfl, ?_, hsame.1, hsame.2.1, hsame.2.2.1, hsame.2.2.2, fun b hb hno => hfar b fun e => hno ⟨o, Nat.min_le_right _ _, hlive, e.symm⟩, fun p hp => .inl hp, fun _ _ _ => rfl⟩, by rw [dom_nil]; exact hv⟩
  rw [dom_nil]
  refine ⟨h.dom, fun p ob hp => ?_, h.inj, h.belOf hsame.1 hsame.2.1 hsame.2.2.1 hsame.2.2.2 (fun b hb => hfar b fun e => by have := h.up o hlive; omega), h.up, h.nm, fun b y hb => (hfar b (fun e => by have := h.fr o hlive; rw [← e, hb] at this; cases this)).trans (h.fz b y hb), h.fr, h.kn⟩
  by_cases hpo : p = o
  · subst hpo
    rw [ho] at hp
    simp only [Option.some.injEq] at hp
    subst hp
    exact ⟨(h.rows p obj ho).ex, cs, fr', hat, hfr', r3, r4⟩
  · obtain ⟨ds, fr2, k1, k2, k3, k4⟩ := (h.rows p ob hp).row
    refine ⟨(h.rows p ob hp).ex, ds, fr2, ?_, k2, k3, k4⟩
    rw [hfar _ fun e => hpo (h.inj p o (by rw [hp]; simp) hlive e)]
    exact k1

end
end Go.Proofs.Ytnfjdoeemnhkbaa.Canon

namespace Go.Proofs.Ytnfjdoeemnhkbaa.Canon
set_option linter.unusedVariables false
set_option linter.unusedSimpArgs false
open Go.RowKit
section
variable {Φ : Fx} {c : Ctx} {D : Nat → Prop} {P : Program} {w : World} {s s' : St} {v : Value}

theorem run_bounds3 {len cap l h m : Nat} {lo lo' : Option Value} {k1 k2 : IntKind} (hlo : (lo = none ∧ lo' = none ∧ l = 0) ∨ (∃ k, lo' = some (.int k (l : Int)) ∧ lo ≠ none))
    (h1 : l ≤ h) (h2 : h ≤ m) (h3 : m ≤ cap) (w : World) :
    (Instr.sliceBounds true len cap lo' (some (.int k1 (h : Int))) (some (.int k2 (m : Int)))).run P w = .ok (l, h, m) w := by
  unfold Instr.sliceBounds
  rcases hlo with ⟨rfl, rfl, rfl⟩ | ⟨k, rfl, _⟩ <;>
    simp only [Sem.run_bind, Sem.run_pure, Result.andThen_ok, run_sliceBound _ h1, run_sliceBound _ h2, run_sliceBound _ h3]

theorem slice_run {t e : TypeId} {sz l h m len cap : Nat} {a : Option Addr} {lo hi mx : Option Value} (hu : P.underlying t = some (.slice e)) (hs : size? P e = some sz)
    (hb : ∀ w, (Instr.sliceBounds true len cap lo hi mx).run P w = .ok (l, h, m) w) (w : World) :
    (Instr.sliceAt t (.slice a len cap) lo hi mx).run P w = .ok (.slice (if m = l then a else a.map (·.add (l * sz))) (h - l) (m - l)) w := by
  unfold Instr.sliceAt
  simp only [Sem.run_bind, run_underlying' hu, Result.andThen_ok]
  unfold Instr.slice
  simp only [Sem.run_bind, run_underlying' hu, Result.andThen_ok, hb, run_sizeOf' hs, Sem.run_pure]

theorem sliceOf_run (hH : HR Φ P c D s.heap w) {t e : TypeId} {sz len cap : Nat} {a : Option Addr} {x' : Value} {lo hi mx lo' hi' mx' : Option Value} {v : Value}
    (hu : P.underlying t = some (.slice e)) (hs : size? P e = some sz) (hx : VR (zId P) c D (.slice a len cap) x')
    (hlo : (∀ v, lo = some v → ∃ v', lo' = some v' ∧ VR (zId P) c D v v') ∧ (lo = none → lo' = none))
    (hhi : (∀ v, hi = some v → ∃ v', hi' = some v' ∧ VR (zId P) c D v v') ∧ (hi = none → hi' = none))
    (hmx : (∀ v, mx = some v → ∃ v', mx' = some v' ∧ VR (zId P) c D v v') ∧ (mx = none → mx' = none))
    (h : sliceOf P (isExact s.heap a) sz a len cap lo hi mx = some v) :
    ∃ v', VR (zId P) c D v v' ∧ ∀ w, (Instr.sliceAt t x' lo' hi' mx').run P w = .ok v' w := by
  unfold sliceOf at h
  split at h
  · rename_i l hh m e1 e2 e3
    obtain ⟨h1, h2⟩ := bif_inv h
    rw [Bool.and_eq_true, Bool.and_eq_true, Nat.ble_eq, Nat.ble_eq, Nat.ble_eq] at h1
    obtain ⟨⟨b1, b2⟩, b3⟩ := h1
    have c1 := bound_rel hlo.1 hlo.2 e1
    have c2 := bound_rel hhi.1 hhi.2 e2
    have c3 := bound_rel hmx.1 hmx.2 e3
    split at h2
    · -- no base
      cases mx with
      | some _ => cases h2
      | none =>
      simp only [Option.some.injEq] at h2
      subst h2
      simp only [bound, Option.some.injEq] at e3
      subst e3
      cases hx with
      | snil =>
        rw [hmx.2 rfl]
        refine ⟨_, .snil _ _, fun w => ?_⟩
        rw [slice_run hu hs (fun w => run_bounds2 (isSlice := true) c1 c2 b1 b2 (Nat.le_refl _) w)]
        split <;> rfl
    · rename_i a0
      cases mx with
      | some mv =>
        simp only at h2
        obtain ⟨h3, h4⟩ : hi.isNone = false ∧ _ := by
          cases hn : hi.isNone with
          | true => rw [hn] at h2; cases h2
          | false => rw [hn, cond_false] at h2; exact ⟨rfl, h2⟩
        rcases c3 with ⟨e, _⟩ | ⟨k3, e3', _⟩
        · cases e
        rcases c2 with ⟨e, _⟩ | ⟨k2, e2', _⟩
        · rw [e] at h3; cases h3
        subst e3' e2'
        by_cases hml : m = l
        · rw [nbeq_yes hml, cond_true] at h4
          simp only [Option.some.injEq] at h4
          subst h4 hml
          have hh' : hh = m := by omega
          subst hh'
          cases hx with
          | sl o off l2 cp hd hz =>
            exact ⟨_, .z0 _, fun w => by rw [slice_run hu hs (fun w => run_bounds3 c1 b1 b2 (by omega) w)]; simp; rfl⟩
          | z0 a =>
            exact ⟨_, .z0 _, fun w => by rw [slice_run hu hs (fun w => run_bounds3 c1 b1 b2 (by omega) w)]; simp; rfl⟩
          | z1 a cp =>
            exact ⟨_, .z0 _, fun w => by rw [slice_run hu hs (fun w => run_bounds3 c1 b1 b2 (by omega) w)]; simp; rfl⟩
        · rw [nbeq_no hml, cond_false] at h4
          cases hex : isExact s.heap (some a0) with
          | false =>
            rw [hex, cond_false] at h4
            have h5 := h4
            simp only [Option.some.injEq] at h5
            subst h5
            cases hx with
            | sl o off l2 cp hd hz => exact ⟨_, .junk _ _ _, fun w => slice_run hu hs (fun w => run_bounds3 c1 b1 b2 (by omega) w) w⟩
            | z0 a => omega
            | z1 a cp => omega
          | true =>
          rw [hex, cond_true] at h4
          have h5 := h4
          simp only [Option.some.injEq] at h5
          subst h5
          cases hx with
          | sl o off l2 cp hd hz =>
            unfold isExact at hex
            simp only at hex
            split at hex
            · rename_i ob hob
              have hx0 := (hH.rows o ob hob).ex hex
              refine ⟨.slice (some ⟨c.ρ o, off + l * sz, none⟩) (hh - l) (m - l + c.x o), by rw [addr_add]; exact .sl _ _ _ _ hd hz, fun w => ?_⟩
              rw [slice_run hu hs (fun w => run_bounds3 c1 b1 b2 (by omega) w), if_neg hml, hx0]
              simp [addr_add]
            · cases hex
          | z0 a => omega
          | z1 a cp => omega
      | none =>
        simp only [bound, Option.some.injEq] at e3
        subst e3
        rw [hmx.2 rfl]
        simp only at h2
        cases hx with
        | sl o off l2 cp hd hz =>
          rw [nbeq_no hz, cond_false] at h2
          by_cases hml : cap = l
          · rw [nbeq_yes hml, cond_true] at h2
            simp only [Option.some.injEq] at h2
            subst h2 hml
            have hh' : hh = cap := by omega
            subst hh'
            cases hex : isExact s.heap (some ⟨o, off, none⟩) with
            | true =>
              unfold isExact at hex
              simp only at hex
              split at hex
              · rename_i ob hob
                have hx0 := (hH.rows o ob hob).ex hex
                rw [hx0]
                exact ⟨_, .z0 _, fun w => by rw [slice_run hu hs (fun w => run_bounds2 (isSlice := true) c1 c2 b1 b2 (by omega) w)]; simp; rfl⟩
              · cases hex
            | false =>
              refine ⟨_, .z1 (if hh + c.x o = hh then ⟨c.ρ o, off, none⟩ else (⟨c.ρ o, off, none⟩ : Addr).add (hh * sz)) (hh + c.x o - hh), fun w => ?_⟩
              rw [slice_run hu hs (fun w => run_bounds2 (isSlice := true) c1 c2 b1 b2 (by omega) w)]
              rw [Nat.sub_self]
              split <;> rfl
          · rw [nbeq_no hml, cond_false] at h2
            simp only [Option.some.injEq] at h2
            subst h2
            refine ⟨.slice (some ⟨c.ρ o, off + l * sz, none⟩) (hh - l) (cap - l + c.x o), by rw [addr_add]; exact .sl _ _ _ _ hd hz, fun w => ?_⟩
            rw [slice_run hu hs (fun w => run_bounds2 (isSlice := true) c1 c2 b1 b2 (by omega) w), if_neg (by omega)]
            rw [show cap + c.x o - l = cap - l + c.x o by omega]
            simp [addr_add]
        | z0 a =>
          simp only [nbeq_yes, cond_true, Option.some.injEq] at h2
          subst h2
          obtain rfl : l = 0 := by omega
          obtain rfl : hh = 0 := by omega
          exact ⟨_, .z0 _, fun w => by rw [slice_run hu hs (fun w => run_bounds2 (isSlice := true) c1 c2 b1 b2 (by omega) w)]; simp; rfl⟩
        | z1 a cp =>
          simp only [nbeq_yes, cond_true, Option.some.injEq] at h2
          subst h2
          obtain rfl : l = 0 := by omega
          obtain rfl : hh = 0 := by omega
          refine ⟨_, .z1 a cp, fun w => ?_⟩
          rw [slice_run hu hs (fun w => run_bounds2 (isSlice := true) c1 c2 b1 b2 (by omega) w)]
          split
          · rfl
          · simp [Addr.add]
  · cases h

/-! append -/
theorem growBy_le : ∀ (r n c : Nat), c ≤ 2 * n + 1024 → n ≤ 16777216 → Builtin.growBy n r c ≤ 2 * n + 1024
  | 0, n, c, h, _ => h
  | r + 1, n, c, h, hn => by
    unfold Builtin.growBy
    split
    · exact h
    · exact growBy_le r n _ (by omega) hn

theorem nextcap_le {need cap : Nat} (h : cap < need) (hn : need ≤ 16777216) : Builtin.nextslicecap need cap ≤ 2 * need + 1024 := by
  unfold Builtin.nextslicecap
  split
  · omega
  · split
    · omega
    · exact growBy_le 4 need cap (by omega) hn

/-- A second type changes nothing, where it is no number's. -/
theorem append_types {t xt e : TypeId} {d : TypeDesc} {ty : TypeId} {bs : Option Addr} {len cap : Nat} {x' : Value} (hu : P.underlying t = some (.slice e)) {n : Nat} (hsize : size? P e = some n)
    (hd : P.underlying xt = some d) (hk : ∀ k, d ≠ .int k) :
    (Builtin.append_ #[t, xt] ty #[.slice bs len cap, x']).run P w = (Builtin.append_ #[t] ty #[.slice bs len cap, x']).run P w := by
  show (underlying t >>= _).run P w = (underlying t >>= _).run P w
  rw [Sem.run_bind, Sem.run_bind, run_underlying' hu, Result.andThen_ok, Result.andThen_ok]
  show (sizeOf e >>= _).run P w = (sizeOf e >>= _).run P w
  rw [Sem.run_bind, Sem.run_bind, run_sizeOf' hsize, Result.andThen_ok, Result.andThen_ok]
  show (underlying xt >>= _).run P w = _
  rw [Sem.run_bind, run_underlying' hd, Result.andThen_ok]
  cases d <;> first | rfl | exact absurd rfl (hk _)

theorem append_one {t e : TypeId} {ats : List TypeId} {ty : TypeId} {bs : Option Addr} {len cap : Nat} {x' : Value} (hu : P.underlying t = some (.slice e)) {n : Nat} (hsize : size? P e = some n)
    (hz : ats = [] ∨ ∃ xt d, ats = [xt] ∧ P.underlying xt = some d ∧ ∀ k, d ≠ .int k) :
    (Builtin.append_ (t :: ats).toArray ty #[.slice bs len cap, x']).run P w = (Builtin.append_ #[t] ty #[.slice bs len cap, x']).run P w := by
  rcases hz with rfl | ⟨xt, d, rfl, hd, hk⟩
  · rfl
  · exact append_types hu hsize hd hk

/-- The call as the model takes it. -/
theorem append_grows {t e : TypeId} {i : TypeInfo} {ats : List TypeId} {ty : TypeId} {bs : Option Addr} {len cap n : Nat} {x' : Value} {old new : List Value}
    (hu : P.underlying t = some (.slice e)) (hi : P.info? e = some i) (hz : ats = [] ∨ ∃ xt d, ats = [xt] ∧ P.underlying xt = some d ∧ ∀ k, d ≠ .int k)
    (hlen : ∀ w, (Builtin.lenOf x').run P w = .ok n w) (hneed : cap < len + n) (hsm : len + n ≤ 16777216) (hby : i.bytes ≤ 4096)
    (hold : ∀ d, (Builtin.firstCells i.size len (.slice bs len cap)).run P { w with drawn := d } = .ok old.toArray { w with drawn := d })
    (hnew : ∀ d, (Builtin.firstCells i.size n x').run P { w with drawn := d } = .ok new.toArray { w with drawn := d })
    (zero : Value) (hzero : i.zero = some zero) :
    ∃ nc d, len + n ≤ nc ∧ (Builtin.append_ (t :: ats).toArray ty #[.slice bs len cap, x']).run P w =
      .ok (.slice (some ⟨w.heap.size, 0, none⟩) (len + n) nc) { w with drawn := d, heap := w.heap.push (.cells (old.toArray ++ new.toArray ++ (reps zero.cells.toList (nc - (len + n))).toArray) e) } := by
  have hsize : size? P e = some i.size := by unfold size?; rw [hi]
  have hzv : ∀ w, (zeroValue e).run P w = .ok zero w := fun w => run_of_prun (by rw [prun_zeroValue, hi]; exact hzero) w
  have hcap := nextcap_le hneed hsm
  have hmul : Builtin.nextslicecap (len + n) cap * i.bytes ≤ (2 * (len + n) + 1024) * 4096 := Nat.mul_le_mul hcap hby
  have hbig : ¬ Builtin.nextslicecap (len + n) cap * i.bytes > 2 ^ 48 := by omega
  have hov : ¬ (((len + n : Nat) : Int) > IntKind.i64.max ∧ (i.bytes = 0)) := by
    have : IntKind.i64.max = 9223372036854775807 := by decide
    omega
  refine ⟨(len + n) + w.tape w.drawn (.appendCap (len + n) cap e) % (2 ^ 63 - (len + n)), w.drawn + 1, by omega, ?_⟩
  have hmod : w.tape w.drawn (.appendCap (len + n) cap e) % (2 ^ 63 - (len + n)) + (len + n) - (len + n) = w.tape w.drawn (.appendCap (len + n) cap e) % (2 ^ 63 - (len + n)) := by omega
  rw [append_one hu hsize hz]
  show (underlying t >>= _).run P w = _
  rw [Sem.run_bind, run_underlying' hu, Result.andThen_ok]
  show (sizeOf e >>= _).run P w = _
  rw [Sem.run_bind, run_sizeOf' hsize, Result.andThen_ok]
  show ((pure false : Sem Bool) >>= _).run P w = _
  rw [Sem.run_bind, Sem.run_pure, Result.andThen_ok]
  simp only [List.getElem_toArray, List.getElem_cons_succ, List.getElem_cons_zero, Bool.false_eq_true, if_false, Sem.run_bind, hlen, Result.andThen_ok, Bool.not_false, if_true]
  rw [if_neg (by omega)]
  simp only [Sem.run_bind, run_typeInfo' hi, Result.andThen_ok, false_or]
  rw [if_neg hov]
  simp only [Sem.run_bind, Sem.run_pure, run_typeInfo' hi, Result.andThen_ok]
  rw [if_neg hbig]
  simp only [Sem.run_bind, Sem.run_pure, run_typeInfo' hi, Result.andThen_ok, run_choose, Question.forced, Bool.false_eq_true, if_false, run_askRoom, hold, hnew, hzv, newRow, run_newObj', Question.cut, zeroCells_reps]

theorem append_room {t e : TypeId} {i : TypeInfo} {ats : List TypeId} {ty : TypeId} {bs : Option Addr} {len cap n : Nat} {x' : Value} {new : List Value}
    (hu : P.underlying t = some (.slice e)) (hi : P.info? e = some i) (hz : ats = [] ∨ ∃ xt d, ats = [xt] ∧ P.underlying xt = some d ∧ ∀ k, d ≠ .int k)
    (hlen : ∀ w, (Builtin.lenOf x').run P w = .ok n w) (hneed : len + n ≤ cap)
    (hnew : (Builtin.firstCells i.size n x').run P w = .ok new.toArray w) :
    (Builtin.append_ (t :: ats).toArray ty #[.slice bs len cap, x']).run P w =
      (match bs with | some a => (storeCells (a.add (len * i.size)) new).run P w | none => .ok () w).andThen fun _ w' => .ok (.slice bs (len + n) cap) w' := by
  have hsize : size? P e = some i.size := by unfold size?; rw [hi]
  rw [append_one hu hsize hz]
  show (underlying t >>= _).run P w = _
  rw [Sem.run_bind, run_underlying' hu, Result.andThen_ok]
  show (sizeOf e >>= _).run P w = _
  rw [Sem.run_bind, run_sizeOf' hsize, Result.andThen_ok]
  show ((pure false : Sem Bool) >>= _).run P w = _
  rw [Sem.run_bind, Sem.run_pure, Result.andThen_ok]
  simp only [List.getElem_toArray, List.getElem_cons_succ, List.getElem_cons_zero, Bool.false_eq_true, if_false, Sem.run_bind, hlen, Result.andThen_ok, Bool.not_false, if_true]
  rw [if_pos hneed]
  simp only [Sem.run_bind, hnew, Result.andThen_ok]
  cases bs with
  | none => rfl
  | some a => simp only [Sem.run_bind, Sem.run_pure]

/-- append(nil, make(..)...) -/
theorem append_make {t xt e : TypeId} {i : TypeInfo} {k : IntKind} {ty : TypeId} {n : Nat} (hu : P.underlying t = some (.slice e)) (hi : P.info? e = some i) (hx : P.underlying xt = some (.int k))
    (hn : 0 < n) (hsm : n ≤ 16777216) (hby : i.bytes ≤ 4096) (zero : Value) (hzero : i.zero = some zero) (hpos : 0 < i.size) :
    ∃ nc d, n ≤ nc ∧ (Builtin.append_ #[t, xt] ty #[.slice none 0 0, .int .i64 (.ofNat n)]).run P w =
      .ok (.slice (some ⟨w.heap.size, 0, none⟩) n nc) { w with drawn := d, heap := w.heap.push (.cells ((reps zero.cells.toList n).toArray ++ (reps zero.cells.toList (nc - n)).toArray) e) } := by
  have hsize : size? P e = some i.size := by unfold size?; rw [hi]
  have hzv : ∀ w, (zeroValue e).run P w = .ok zero w := fun w => run_of_prun (by rw [prun_zeroValue, hi]; exact hzero) w
  have hcap := nextcap_le (need := n) (cap := 0) hn hsm
  have hmul : Builtin.nextslicecap n 0 * i.bytes ≤ (2 * n + 1024) * 4096 := Nat.mul_le_mul hcap hby
  have hbig : ¬ Builtin.nextslicecap n 0 * i.bytes > 2 ^ 48 := by omega
  have hmul2 : n * i.bytes ≤ 16777216 * 4096 := Nat.mul_le_mul hsm hby
  have hov : ¬ ((n : Int) > IntKind.i64.max) := by
    have : IntKind.i64.max = 9223372036854775807 := by decide
    omega
  have hwrap : IntKind.i64.wrap (Int.ofNat n) = Int.ofNat n := fits_wrap _ _ (by simp only [fits, Nat.ble_eq]; omega)
  have hnz : ¬ n * i.size = 0 := by
    have := Nat.mul_pos hn hpos; omega
  have ha : ∀ w, (asInt (.int .i64 (.ofNat n))).run P w = .ok (.ofNat n) w := fun _ => rfl
  have e1 : (Int.ofNat n).toNat = n := rfl
  have hneg : ¬ (Int.ofNat n < 0) := by show ¬ ((n : Int) < 0); omega
  have hbb : ¬ (Int.ofNat n * (i.bytes : Int) > 2 ^ 48) := by
    have : Int.ofNat n * (i.bytes : Int) = ((n * i.bytes : Nat) : Int) := by rw [Int.natCast_mul]; rfl
    rw [this]; omega
  refine ⟨n + w.tape w.drawn (.appendCap n 0 e) % (2 ^ 63 - n), w.drawn + 1, by omega, ?_⟩
  have hmod : n + w.tape w.drawn (.appendCap n 0 e) % (2 ^ 63 - n) - n = w.tape w.drawn (.appendCap n 0 e) % (2 ^ 63 - n) := by omega
  show (underlying t >>= _).run P w = _
  rw [Sem.run_bind, run_underlying' hu, Result.andThen_ok]
  show (sizeOf e >>= _).run P w = _
  rw [Sem.run_bind, run_sizeOf' hsize, Result.andThen_ok]
  show (underlying xt >>= _).run P w = _
  rw [Sem.run_bind, run_underlying' hx, Result.andThen_ok]
  show ((pure true : Sem Bool) >>= _).run P w = _
  rw [Sem.run_bind, Sem.run_pure, Result.andThen_ok]
  simp only [List.getElem_toArray, List.getElem_cons_succ, List.getElem_cons_zero, if_true, Sem.run_bind, ha, Sem.run_pure, Result.andThen_ok, hwrap, if_neg hneg, run_typeInfo' hi, if_neg hbb, Bool.not_true, Bool.false_eq_true, if_false, e1, Nat.zero_add]
  rw [if_neg (by omega)]
  simp only [Sem.run_bind, Sem.run_pure, run_typeInfo' hi, Result.andThen_ok, true_or, and_true, if_neg hov, if_neg hbig, if_neg hnz, run_choose, Question.forced, Bool.false_eq_true, if_false, run_askRoom, hzv, newRow, run_newObj', Question.cut, zeroCells_reps, Builtin.firstCells]
  rw [Array.empty_append]

theorem lenOf_run {x x' : Value} {n : Nat} (hx : VR (zId P) c D x x') (h : lenOf? x = some n) (w : World) : (Builtin.lenOf x').run P w = .ok n w := by
  unfold lenOf? at h
  split at h
  · simp only [Option.some.injEq] at h
    subst h
    obtain ⟨a', cp', e, _⟩ := slice_inv hx
    rw [e]; rfl
  · simp only [Option.some.injEq] at h
    subst h
    rw [kept_str hx, lenN_eq, Nat.add_zero]
    rename_i s
    have hsz : s.size = s.data.toList.length := by rw [Array.length_toList]; rfl
    rw [← hsz]; rfl
  · cases h

theorem firstOf_nil {size : Nat} {x x' : Value} {n : Nat} (hx : VR (zId P) c D x x') (h : lenOf? x = some n) (w : World) : (Builtin.firstCells size 0 x').run P w = .ok #[] w := by
  unfold lenOf? at h
  split at h
  · obtain ⟨a', cp', e, _⟩ := slice_inv hx
    rw [e]
    cases a' with
    | none => rfl
    | some a => simp only [Builtin.firstCells, Nat.zero_mul]; rfl
  · rw [kept_str hx]
    simp only [Builtin.firstCells, Sem.run_pure]
    congr 1
    apply Array.toList_inj.1
    rename_i s
    have e3 : (s.extract 0 0).data = s.data.extract 0 0 := ByteArray.data_extract
    simp only [Array.toList_map, e3, Array.toList_extract, List.extract_eq_take_drop]
    simp
  · cases h

/-- The world with another count of draws reads alike. -/
theorem HR.drawn {H : T AObj} (h : HR Φ P c D H w) (d : Nat) : HR Φ P c D H { w with drawn := d } :=
  ⟨h.dom, fun o obj ho => ⟨(h.rows o obj ho).ex, (h.rows o obj ho).row⟩, h.inj, ⟨h.bel.os, h.bel.tape, h.bel.output, h.bel.size, h.bel.block⟩, h.up, h.nm, h.fz, h.fr, h.kn⟩

theorem val_kill (h : HR Φ P c D s.heap w) {o : Nat} (hlive : s.heap.get o ≠ none) (hf : ∀ p, D p → ¬(s.next ≤ p ∧ p < s'.next)) {run : Result Next}
    (hv : Val Φ P c D ⟨s.next, Nat.min s.mw o, T.set none deep s.heap o⟩ s' v w run) : Val Φ P c D s s' v w run := by
  have ho4 := (h.dom o hlive).2.2
  have hget : ∀ p, (T.set none deep s.heap o).get p = if p = o then none else s.heap.get p := fun p => get_set _ _ _ _ _ (by unfold deep; omega)
  obtain ⟨m1, c', v', w', e1, e2, e3⟩ := hv
  have m2 : s'.mw ≤ o := Nat.le_trans m1 (Nat.min_le_right _ _)
  refine ⟨Nat.le_trans m1 (Nat.min_le_left _ _), c', v', w', e1, ?_, e3⟩
  have k : Step Φ P c c D s.heap (T.set none deep s.heap o) s.next s.next s'.mw w w := by
    refine ⟨Nat.le_refl _, fun _ _ => ⟨rfl, rfl, rfl⟩, fun _ _ => rfl, ?_, rfl, rfl, rfl, Nat.le_refl _, fun _ _ _ => rfl, fun p hp => ?_, fun p hp hl => ?_⟩
    · rw [dom_nil]
      exact h.sub fun p ob hp => by
        rw [hget] at hp
        split at hp
        · cases hp
        · exact hp
    · rw [hget] at hp
      split at hp
      · exact absurd rfl hp
      · exact .inl hp
    · rw [hget, if_neg (by omega)]
  have e2' : Step Φ P c c' (fun p => D p ∨ (s.next ≤ p ∧ p < s.next)) (T.set none deep s.heap o) s'.heap s.next s'.next s'.mw w w' := by
    rw [dom_nil]; exact e2
  exact k.trans hf h e2'

theorem append_val (h : HR Φ P c D s.heap w) (hZ : zId P < s.next) (hf : ∀ o, s.next ≤ o → o < s'.next → ¬D o) {t e : TypeId} {i : TypeInfo} {ats : List TypeId} {ty : TypeId} {bs : Option Addr} {len cap : Nat} {x x' b' : Value}
    (hu : P.underlying t = some (.slice e)) (hi : P.info? e = some i) (hz : ats = [] ∨ ∃ xt d, ats = [xt] ∧ P.underlying xt = some d ∧ ∀ k, d ≠ .int k)
    (hzero : ∃ z, i.zero = some z ∧ z.cells.size = i.size)
    (hb : VR (zId P) c D (.slice bs len cap) b') (hx : VR (zId P) c D x x')
    (ha : appendOp P e i.size i.bytes bs len cap x s = some (.val v, s')) {run : Result Next}
    (hrun : run = ((Builtin.append_ (t :: ats).toArray ty #[b', x']).run P w).andThen fun u w' => .ok (.value u) w') : Val Φ P c D s s' v w run := by
  obtain ⟨zero, hz0, hzs⟩ := hzero
  have hsize : size? P e = some i.size := by unfold size?; rw [hi]
  have hcellsOf := cellsOf_size hsize
  unfold appendOp at ha
  split at ha
  · cases ha
  · rename_i n hn
    have hlen := lenOf_run (P := P) hx hn
    by_cases hn0 : n = 0
    · rw [nbeq_yes hn0, cond_true] at ha
      obtain ⟨h1, h2⟩ := bif_inv ha
      rw [Nat.ble_eq] at h1
      simp only [Option.some.injEq, Prod.mk.injEq, ANext.val.injEq] at h2
      obtain ⟨h3, h4⟩ := h2
      subst h3 h4 hn0
      obtain ⟨a', cp', e1, e2, e3⟩ := slice_inv hb
      subst e1
      refine val_same h hb ?_
      rw [hrun, append_room (new := []) hu hi hz hlen (by omega) (firstOf_nil hx hn w)]
      cases a' <;> rfl
    · rw [nbeq_no hn0, cond_false] at ha
      split at ha
      · cases ha
      · rename_i new hnew
        rw [fNat_eq] at ha
        obtain ⟨h1, h2⟩ := bif_inv ha
        simp only [Bool.and_eq_true, Nat.ble_eq, Nat.blt_eq, Nat.beq_eq] at h1
        obtain ⟨⟨⟨⟨⟨g1, g2⟩, g3⟩, g4⟩, g5⟩, g6⟩ := h1
        -- growing, with the old cells given
        have grow : ∀ (s1 : St), HR Φ P c D s1.heap w → s1.next = s.next → ∀ (base : Option Addr) (cp : Nat) (old old' : List Value), b' = .slice base len cp → cp < len + n →
            (∀ d, (Builtin.firstCells i.size len (.slice base len cp)).run P { w with drawn := d } = .ok old'.toArray { w with drawn := d }) →
            LR (zId P) c D old old' → ∀ new', LR (zId P) c D new new' → (∀ d, (Builtin.firstCells i.size n x').run P { w with drawn := d } = .ok new'.toArray { w with drawn := d }) →
            old.length + new.length = (len + n) * i.size → ¬D s.next → s.next < 4000000 → v = .slice (some ⟨s.next, 0, none⟩) (len + n) (len + n) →
            s' = ⟨s.next + 1, s1.mw, T.set (some ⟨app old new, e, false⟩) deep s1.heap s.next⟩ → Val Φ P c D s1 s' v w run := by
          intro s1 h1 hne base cp old old' hbe hcp hold hlo new' hln hnw hll hfr hlt hv hs'
          subst hbe
          obtain ⟨nc, d, hnc, hr⟩ := append_grows (w := w) (ty := ty) hu hi hz hlen hcp g1 g2 hold hnw zero hz0
          rw [hr] at hrun
          rw [← hne] at hfr hlt hv hs'
          refine val_new h1 (by rw [hne]; exact hZ) hlt hfr (x := nc - (len + n)) (cs := old'.toArray ++ new'.toArray ++ (reps zero.cells.toList (nc - (len + n))).toArray) (fun e => (by cases e)) ?_ ?_ hs' { w with drawn := d, heap := w.heap.push (.cells (old'.toArray ++ new'.toArray ++ (reps zero.cells.toList (nc - (len + n))).toArray) e) } (0, 0) (.inl rfl) rfl rfl rfl (by simp) ?_ ?_ hrun ?_
          · rw [app_eq, hcellsOf]
            simp only [Array.size_append, List.size_toArray, reps_len, Array.length_toList, List.length_append, hzs]
            rw [hlo.1, hln.1]
          · rw [app_eq]
            have e1 : (old'.toArray ++ new'.toArray ++ (reps zero.cells.toList (nc - (len + n))).toArray).toList = (old' ++ new') ++ reps zero.cells.toList (nc - (len + n)) := by simp
            rw [e1, List.take_append_of_le_length (by simp [hlo.1, hln.1]), List.take_of_length_le (by simp [hlo.1, hln.1])]
            exact hlo.append hln
          · simp
          · intro b hb
            simp only [Array.getElem?_push]; rw [if_neg (by omega)]
          · rw [hv]
            have := new_slice (P := P) (c := c) (D := D) (n := s1.next) (b := w.heap.size) (x := nc - (len + n)) (len := len + n) (cap := len + n) (by omega)
            rwa [show len + n + (nc - (len + n)) = nc by omega] at this
        have hnp : 0 < n := by omega
        obtain ⟨new', hln, hnw⟩ := firstOf_run h hx hnew hnp
        rw [lenN_eq, Nat.add_zero] at g5
        have hone := (allL_eq _ _).1 g6
        cases bs with
        | none =>
          simp only at h2
          obtain ⟨k1, k2⟩ := bif_inv h2
          obtain ⟨k3, k4⟩ := bif_inv k2
          rw [Nat.beq_eq] at k1 k3
          subst k1 k3
          obtain ⟨q1, q2⟩ := alloc_inv k4
          simp only [Option.some.injEq, Prod.mk.injEq, ANext.val.injEq] at q2
          cases hb with
          | snil => exact grow s h rfl none 0 [] [] rfl (by omega) (fun d => rfl) .nil new' hln hnw (by simp [g5]) (hf _ (Nat.le_refl _) (by rw [← q2.2]; simp)) q1 q2.1.symm (by rw [← q2.2]; rfl)
        | some a =>
          simp only at h2
          by_cases hza : a.block = zId P
          · rw [nbeq_yes hza, cond_true] at h2
            obtain ⟨k0, k00⟩ := bif_inv h2
            obtain ⟨k1, k2⟩ := bif_inv k00
            obtain ⟨k3, k4⟩ := bif_inv k2
            rw [Nat.beq_eq] at k0 k1 k3
            subst k1 k3
            obtain ⟨q1, q2⟩ := alloc_inv k4
            simp only [Option.some.injEq, Prod.mk.injEq, ANext.val.injEq] at q2
            cases hb with
            | sl o off l cp hd hz => exact absurd hza hz
            | z0 a2 => exact grow s h rfl (some a2) 0 [] [] rfl (by omega) (fun d => by simp only [Builtin.firstCells, Nat.zero_mul]; rfl) .nil new' hln hnw (by simp [g5]) (hf _ (Nat.le_refl _) (by rw [← q2.2]; simp)) q1 q2.1.symm (by rw [← q2.2]; rfl)
            | z1 a2 cp => cases k0
          · rw [nbeq_no hza, cond_false] at h2
            cases hb with
            | z0 a2 => exact absurd rfl hza
            | z1 a2 cp => exact absurd rfl hza
            | sl o off l2 cp hd hzo =>
              by_cases hroom : len + n ≤ cap
              · rw [nble, decide_eq_true hroom, cond_true] at h2
                split at h2
                · rename_i s2 hw2
                  simp only [Option.some.injEq, Prod.mk.injEq, ANext.val.injEq] at h2
                  obtain ⟨e1, e2⟩ := h2
                  subst e1 e2
                  rw [addr_add] at hw2
                  refine val_write h hw2 hln (.sl _ _ _ _ hd hzo) fun w' hst => .inl ?_
                  rw [hrun, append_room hu hi hz hlen (by omega) (hnw w.drawn)]
                  simp only [addr_add, hst, Result.andThen_ok]
                · cases h2
              · rw [nble, decide_eq_false hroom, cond_false] at h2
                split at h2
                · rename_i ob old hob hold
                  obtain ⟨old', r1, r2, r3, r4⟩ := read_cells h hold
                  have hR := h.rows o ob hob
                  cases hex : ob.exact with
                  | true =>
                    rw [hex, cond_true] at h2
                    obtain ⟨q1, q2⟩ := alloc_inv h2
                    simp only [Option.some.injEq, Prod.mk.injEq, ANext.val.injEq] at q2
                    have hx0 := hR.ex hex
                    exact grow s h rfl _ _ old old' rfl (by rw [hx0]; omega) (fun d => run_cells (by rw [← r1.1, r2]) r3) r1 new' hln hnw (by rw [r2, g5, Nat.add_mul]) (hf _ (Nat.le_refl _) (by rw [← q2.2]; simp)) q1 q2.1.symm (by rw [← q2.2])
                  | false =>
                    rw [hex, cond_false] at h2
                    obtain ⟨p1, p2⟩ := bif_inv h2
                    simp only [Bool.and_eq_true, Nat.beq_eq, lenN_eq, Nat.add_zero] at p1
                    obtain ⟨⟨p3, p4⟩, p5⟩ := p1
                    obtain ⟨q1, q2⟩ := alloc_inv p2
                    simp only [Option.some.injEq, Prod.mk.injEq, ANext.val.injEq] at q2
                    subst p3
                    obtain ⟨cs, fr, z1, z2, z3, z4⟩ := hR.row
                    rw [p5] at z1 z3
                    rw [hcellsOf, ← p4] at z3
                    have hnD : ¬D s.next := hf _ (Nat.le_refl _) (by rw [← q2.2]; simp)
                    have hlive : s.heap.get o ≠ none := by rw [hob]; simp
                    by_cases hgr : cap + c.x o < len + n
                    · refine val_kill h hlive (fun p hp1 hp2 => hf p hp2.1 hp2.2 hp1) ?_
                      · exact grow ⟨s.next, Nat.min s.mw o, T.set none deep s.heap o⟩ (h.sub fun p ob2 hp => by
                            rw [get_set _ _ _ _ _ (by have := (h.dom o hlive).2.2; unfold deep; omega)] at hp
                            split at hp
                            · cases hp
                            · exact hp) rfl _ _ old old' rfl hgr (fun d => run_cells (by rw [← r1.1, r2]) r3) r1 new' hln hnw (by rw [r2, g5, Nat.add_mul]) hnD q1 q2.1.symm (by rw [← q2.2])
                    · have hle : len + n ≤ cap + c.x o := by omega
                      have hmul := Nat.mul_le_mul_right i.size hle
                      rw [Nat.add_mul, Nat.add_mul] at hmul
                      have hmulp : (len + n) * i.size = len * i.size + n * i.size := Nat.add_mul ..
                      have hnl : new'.length = n * i.size := by rw [← hln.1]; exact g5
                      have h1' : ∀ v ∈ new', v.oneCell' = true := by
                        intro v hmem
                        obtain ⟨j, hj⟩ := List.mem_iff_getElem?.1 hmem
                        have hlt : j < new.length := by rw [hln.1]; exact (List.getElem?_eq_some_iff.1 hj).1
                        exact (hln.2 j _ v (List.getElem?_eq_getElem hlt) hj).oneCell (hone _ (List.getElem_mem hlt))
                      obtain ⟨w2, cs2, e1, e2, e3, e4⟩ := run_storeCells P (b := c.ρ o) (off := 0 + len * i.size) new' 0 cs w z1 z2.use h1' (by rw [hnl]; omega)
                      have hll : (app old new).length = (len + n) * i.size := by rw [app_eq, List.length_append, r2, g5, Nat.add_mul]
                      have hst := step_turn h (n := s.next) (x := cap + c.x o - (len + n)) hnD (by omega) q1 hlive (l := app old new) (e := e) (cs := cs2) (fr := fr)
                        (by rw [e3, z3, hll, hcellsOf, ← Nat.add_mul, ← Nat.add_mul]; congr 1; omega)
                        (by
                          rw [hll, app_eq]
                          refine ⟨by rw [List.length_append, r2, g5, List.length_take, Array.length_toList, e3, z3, hmulp]; omega, fun j u u' k1 k2 => ?_⟩
                          rw [List.getElem?_take] at k2
                          split at k2
                          · rename_i hj
                            rw [Array.getElem?_toList, e4 j] at k2
                            by_cases hj2 : j < len * i.size
                            · rw [List.getElem?_append_left (by rw [r2]; exact hj2)] at k1
                              rw [if_neg (by omega)] at k2
                              obtain ⟨u2, k3, k4⟩ := r1.at k1
                              have := r3 j u2 k3
                              rw [cell_row z1, Nat.zero_add, k2] at this
                              simp only [Option.some.injEq] at this
                              subst this
                              exact k4
                            · rw [List.getElem?_append_right (by rw [r2]; omega), r2] at k1
                              rw [if_pos (by rw [hnl]; omega), show j - (0 + len * i.size + 0) = j - len * i.size by omega] at k2
                              exact hln.2 _ u u' k1 k2
                          · cases k2)
                        (by rw [e3]; exact z2) e2 (Nat.min s.mw o) (Nat.min_le_right _ _)
                      rw [← q2.2, ← q2.1]
                      refine ⟨Nat.min_le_left _ _, _, .slice (some ⟨c.ρ o, 0, none⟩) (len + n) (cap + c.x o), w2, .inl ?_, hst, ?_⟩
                      · rw [hrun, append_room hu hi hz hlen hle (hnw w.drawn)]
                        simp only [addr_add, e1, Result.andThen_ok]
                      · have := new_slice (P := P) (c := c) (D := D) (n := s.next) (b := c.ρ o) (x := cap + c.x o - (len + n)) (len := len + n) (cap := len + n) (by omega)
                        rwa [show len + n + (cap + c.x o - (len + n)) = cap + c.x o by omega] at this
                · cases h2

theorem make_val (h : HR Φ P c D s.heap w) (hZ : zId P < s.next) (hf : ∀ o, s.next ≤ o → o < s'.next → ¬D o) {t xt e : TypeId} {i : TypeInfo} {k : IntKind} {ty : TypeId} {bs : Option Addr} {len cap : Nat} {x x' b' z : Value}
    (hu : P.underlying t = some (.slice e)) (hi : P.info? e = some i) (hxt : P.underlying xt = some (.int k)) (hz : i.zero = some z)
    (hb : VR (zId P) c D (.slice bs len cap) b') (hx : VR (zId P) c D x x')
    (ha : makeAppend e i z bs len cap x s = some (.val v, s')) {run : Result Next}
    (hrun : run = ((Builtin.append_ #[t, xt] ty #[b', x']).run P w).andThen fun u w' => .ok (.value u) w') : Val Φ P c D s s' v w run := by
  have hsize : size? P e = some i.size := by unfold size?; rw [hi]
  unfold makeAppend at ha
  split at ha
  · rename_i n
    obtain ⟨g1, g2⟩ := bif_inv ha
    simp only [Bool.and_eq_true, Nat.ble_eq, Nat.beq_eq, Nat.blt_eq] at g1
    obtain ⟨⟨⟨⟨⟨⟨⟨rfl, rfl⟩, h3⟩, h4⟩, h5⟩, h6⟩, h7⟩, h8⟩ := g1
    obtain ⟨q1, q2⟩ := alloc_inv g2
    simp only [Option.some.injEq, Prod.mk.injEq, ANext.val.injEq] at q2
    obtain ⟨e1, e2⟩ := q2
    subst e1
    have hnd : ¬D s.next := hf _ (Nat.le_refl _) (by rw [← e2]; simp)
    have hb' : b' = .slice none 0 0 := by cases hb; rfl
    rw [kept_int hx, hb'] at hrun
    obtain ⟨nc, d, hnc, hr⟩ := append_make (P := P) (w := w) (ty := ty) hu hi hxt h3 h4 h5 z hz h7
    rw [hr] at hrun
    have gl : allL Canon.ground0 (reps z.cells.toList n) = true := reps_ground h8 n
    have hlen : z.cells.toList.length = i.size := by rw [Array.length_toList]; exact h6
    refine val_new h hZ q1 hnd (x := nc - n) (cs := (reps z.cells.toList n).toArray ++ (reps z.cells.toList (nc - n)).toArray) (fun e => (by cases e)) ?_ ?_ e2.symm
      { w with drawn := d, heap := w.heap.push (.cells ((reps z.cells.toList n).toArray ++ (reps z.cells.toList (nc - n)).toArray) e) } (0, 0) (.inl rfl) rfl rfl rfl (by simp) ?_ ?_ hrun ?_
    · rw [cellsOf_size hsize]
      simp only [Array.size_append, List.size_toArray, reps_len, hlen]
    · rw [show ((reps z.cells.toList n).toArray ++ (reps z.cells.toList (nc - n)).toArray).toList = reps z.cells.toList n ++ reps z.cells.toList (nc - n) by simp, List.take_append_of_le_length (Nat.le_refl _), List.take_of_length_le (Nat.le_refl _)]
      exact .of_ground0 gl
    · simp
    · intro b hb
      simp only [Array.getElem?_push]; rw [if_neg (by omega)]
    · have := new_slice (c := c) (D := D) (P := P) (n := s.next) (b := w.heap.size) (x := nc - n) (len := n) (cap := n) (by omega)
      rwa [show n + (nc - n) = nc by omega] at this
  · cases ha
end
end Go.Proofs.Ytnfjdoeemnhkbaa.Canon

namespace Go.Proofs.Ytnfjdoeemnhkbaa.Canon
set_option linter.unusedVariables false
set_option linter.unusedSimpArgs false
open Go.RowKit
section
variable {Φ : Fx} {c : Ctx} {D : Nat → Prop} {P : Program} {w : World} {s s' : St} {v : Value}

theorem modify_push (w : Array Obj) (o : Obj) (f : Obj → Obj) : (w.push o).modify w.size f = w.push (f o) := by
  apply Array.ext_getElem?
  intro i
  simp only [Array.getElem?_modify, Array.getElem?_push]
  by_cases h : i = w.size
  · subst h; simp
  · rw [if_neg h, if_neg (fun e => h e.symm), if_neg h]

theorem hop_val {E : Env} {ev ev' : Operand → Value} (hE : E.P = P) (h : HR Φ P c D s.heap w) (hZ : zId P < s.next) (hf : ∀ o, s.next ≤ o → o < s'.next → ¬D o) (hev : ∀ x, VR (zId P) c D (ev x) (ev' x)) (o : Oper)
    (hh : hop E ev o s = some (.val v, s')) : Val Φ P c D s s' v w ((execOp ev' o).run P w) := by
  obtain ⟨dst, op, type, pos, after, guard⟩ := o
  cases op <;> simp only [hop, hE] at hh <;> first | (cases hh; done) | skip
  case alloc t =>
    split at hh
    · rename_i z hz
      obtain ⟨g1, g2⟩ := bif_inv hh
      obtain ⟨q1, q2⟩ := alloc_inv g2
      simp only [Option.some.injEq, Prod.mk.injEq, ANext.val.injEq] at q2
      obtain ⟨e1, e2⟩ := q2
      obtain ⟨u, r1, r2, r3⟩ := zero_run hz
      subst e1
      refine val_push h hZ q1 (hf _ (Nat.le_refl _) (by rw [← e2]; simp)) (.of_ground0 g1) e2.symm (mk' := .pointer (some ⟨w.heap.size, 0, none⟩)) ?_ new_ptr
      simp only [execOp, Instr.alloc, Sem.run_bind, r3, Result.andThen_ok, newVar, newRow, run_newObj', Sem.run_pure]
      rw [← r1]
    · cases hh
  case box t x =>
    obtain ⟨q1, q2⟩ := alloc_inv hh
    simp only [Option.some.injEq, Prod.mk.injEq, ANext.val.injEq] at q2
    obtain ⟨e1, e2⟩ := q2
    subst e1
    refine val_push h hZ q1 (hf _ (Nat.le_refl _) (by rw [← e2]; simp)) (hev x).cells e2.symm (mk' := .pointer (some ⟨w.heap.size, 0, none⟩)) ?_ new_ptr
    simp only [execOp, Instr.box, Sem.run_bind, Result.andThen_ok, newVar, newRow, run_newObj', Sem.run_pure]
  case buildSlice t len parts =>
    split at hh
    · rename_i e hu
      split at hh
      · rename_i sz z hsz hz
        obtain ⟨g1, g2⟩ := bif_inv hh
        simp only [Bool.and_eq_true, small, Nat.ble_eq, Nat.beq_eq, Nat.blt_eq, lenN_eq, Nat.add_zero] at g1
        obtain ⟨⟨⟨g3, g4⟩, g5⟩, g6⟩ := g1
        split at g2
        · rename_i cells hfill
          obtain ⟨q1, q2⟩ := alloc_inv g2
          simp only [Option.some.injEq, Prod.mk.injEq, ANext.val.injEq] at q2
          obtain ⟨e1, e2⟩ := q2
          subst e1
          obtain ⟨u, r1, r2, r3⟩ := zero_run hz
          have hp := PR.map (Z := zId P) (c := c) (D := D) hev parts.toList
          have hl0 : LR (zId P) c D (reps z len).toArray.toList (reps z len).toArray.toList := .of_ground0 (reps_ground g6 len)
          have e3 : (parts.map fun (i, x) => (i, ev x)).toList = parts.toList.map fun (i, x) => (i, ev x) := by simp
          rw [e3] at hfill
          obtain ⟨cells', f1, f2⟩ := fill_rel _ _ _ _ _ _ hp hl0 hfill
          refine val_push h hZ q1 (hf _ (Nat.le_refl _) (by rw [← e2]; simp)) f2 e2.symm (mk' := .slice (some ⟨w.heap.size, 0, none⟩) len (len + 0)) ?_ (new_slice (by omega))
          have e4 : (parts.map fun (i, x) => (i, ev' x)).toList = parts.toList.map fun (i, x) => (i, ev' x) := by simp
          have e5 : (reps z len).toArray = (Array.range (len * sz)).map (fun j => u.cells[j % u.cells.size]!) := by
            have := reps_range u.cells len
            rw [r1] at this
            rw [this]
            have hsz2 : u.cells.size = sz := by rw [← g4, ← r1]; simp
            rw [hsz2]
          rw [e5] at f1
          by_cases hz0 : len * sz = 0
          · simp only [execOp, Instr.buildSlice, Sem.run_bind, run_underlying' hu, run_sizeOf' hsz, Result.andThen_ok]
            rw [if_neg (by omega)]
            simp only [Sem.run_bind, hz0, if_true, Sem.run_pure, Result.andThen_ok, e4]
            rw [hz0] at f1
            have e6 : (Array.range 0).map (fun j => u.cells[j % u.cells.size]!) = (Array.range 0).map (fun (j : Nat) => (#[] : Array Value)[j % (#[] : Array Value).size]!) := by simp
            rw [e6] at f1
            rw [f1]
            simp [newRow]
          · simp only [execOp, Instr.buildSlice, Sem.run_bind, run_underlying' hu, run_sizeOf' hsz, Result.andThen_ok]
            rw [if_neg (by omega)]
            simp only [Sem.run_bind, if_neg hz0, r3, Sem.run_pure, Result.andThen_ok, e4]
            rw [f1]
            simp [newRow]
        · cases g2
      · cases hh
    · cases hh
  case load t a =>
    split at hh
    · rename_i ad sz ha hag hsz
      split at hh
      · rename_i cs hc
        simp only [Option.some.injEq, Prod.mk.injEq, ANext.val.injEq] at hh
        obtain ⟨e1, e2⟩ := hh
        subst e1 e2
        obtain ⟨o, off, rfl, e3, hd⟩ := ptr_inv (ha ▸ hev a)
        obtain ⟨l', r1, r2, r3, r4⟩ := read_cells h hc
        refine val_same h (VR.agg_of r1) ?_
        simp only [execOp, Instr.loadAt, e3, Instr.sureAddr, loadVar, Sem.run_bind, Sem.run_pure, Result.andThen_ok, run_isAgg' hag, if_true, run_sizeOf' hsz]
        rw [run_cells (by rw [← r1.1, r2]) r3]
        rfl
      · cases hh
    · rename_i ad sz ha hag hsz
      split at hh
      · rename_i u hc
        simp only [Option.some.injEq, Prod.mk.injEq, ANext.val.injEq] at hh
        obtain ⟨e1, e2⟩ := hh
        subst e1 e2
        obtain ⟨o, off, rfl, e3, hd⟩ := ptr_inv (ha ▸ hev a)
        obtain ⟨l', r1, r2, r3, r4⟩ := read_cells h hc
        obtain ⟨u', k1, k2⟩ := r1.at (i := 0) rfl
        refine val_same h k2 ?_
        have := r3 0 u' k1
        rw [Nat.add_zero] at this
        simp only [execOp, Instr.loadAt, e3, Instr.sureAddr, loadVar, Sem.run_bind, Sem.run_pure, Result.andThen_ok, run_isAgg' hag, Bool.false_eq_true, if_false, run_load, this]
      · cases hh
    · cases hh
  case store t a x =>
    split at hh
    · rename_i ad sz ha hsz
      obtain ⟨g1, g2⟩ := bif_inv hh
      rw [Nat.beq_eq, lenN_eq, Nat.add_zero] at g1
      split at g2
      · rename_i s2 hw2
        simp only [Option.some.injEq, Prod.mk.injEq, ANext.val.injEq] at g2
        obtain ⟨e1, e2⟩ := g2
        subst e1 e2
        obtain ⟨o, off, rfl, e3, hd⟩ := ptr_inv (ha ▸ hev a)
        have hl := (hev x).cells
        refine val_write h hw2 hl .undef fun w' hst => .inr ⟨?_, rfl⟩
        have hn : (ev' x).cells.size = sz := by rw [← g1, hl.1]; simp
        simp only [execOp, Instr.storeAt, e3, Instr.sureAddr, storeVar, Sem.run_bind, Sem.run_pure, Result.andThen_ok, run_sizeOf' hsz]
        rw [if_neg (by omega)]
        simp only [hst, Result.andThen_ok]
      · cases g2
    · cases hh
  case makeSlice t l cp =>
    split at hh
    · rename_i ln cn e hl hc hu
      split at hh
      · rename_i i hi
        split at hh
        · rename_i z hz
          obtain ⟨g1, g2⟩ := bif_inv hh
          simp only [Bool.and_eq_true, small, Nat.ble_eq, Nat.beq_eq, Nat.blt_eq] at g1
          obtain ⟨⟨⟨⟨⟨g3, g4⟩, g5⟩, g6⟩, g7⟩, g8⟩ := g1
          obtain ⟨q1, q2⟩ := alloc_inv g2
          simp only [Option.some.injEq, Prod.mk.injEq, ANext.val.injEq] at q2
          obtain ⟨e1, e2⟩ := q2
          subst e1
          have hsz : size? P e = some i.size := by unfold size?; rw [hi]
          have hzv : ∀ w, (zeroValue e).run P w = .ok z w := fun w => run_of_prun (by rw [prun_zeroValue, hi]; exact hz) w
          have hl' := kept_int (hl ▸ hev l)
          have hc' := kept_int (hc ▸ hev cp)
          have w1 : IntKind.i64.wrap (Int.ofNat ln) = (ln : Int) := IntWalk.i64_in _ (by constructor <;> simp only [Int.ofNat_eq_natCast] <;> omega)
          have w2 : IntKind.i64.wrap (Int.ofNat cn) = (cn : Int) := IntWalk.i64_in _ (by constructor <;> simp only [Int.ofNat_eq_natCast] <;> omega)
          have hmul : i.bytes * cn ≤ 4096 * 16777216 := Nat.mul_le_mul g5 g4
          have hcond : ¬((decide ((cn : Int) < 0) || decide ((i.bytes : Int) * (cn : Int) > 2 ^ 48) || decide ((ln : Int) < 0) || decide ((ln : Int) > (cn : Int))) = true) := by
            have h3 : ((i.bytes * cn : Nat) : Int) ≤ 68719476736 := by omega
            rw [Int.natCast_mul] at h3
            simp only [Bool.or_eq_true, decide_eq_true_eq]
            omega
          refine val_push h hZ q1 (hf _ (Nat.le_refl _) (by rw [← e2]; simp)) (.of_ground0 (reps_ground g8 cn)) e2.symm (mk' := .slice (some ⟨w.heap.size, 0, none⟩) ln (cn + 0)) ?_ (new_slice (by omega))
          simp only [execOp, Instr.makeSlice, Sem.run_bind, run_underlying' hu, hl', hc', asInt, asIntOf, Sem.run_pure, Result.andThen_ok, run_typeInfo' hi, w1, w2]
          rw [if_neg hcond]
          simp only [Sem.run_bind, run_askRoom, run_sizeOf' hsz, Result.andThen_ok, Int.toNat_natCast]
          have hrr := reps_range z.cells cn
          rw [g6] at hrr
          by_cases hcz : cn * i.size = 0
          · rw [if_pos hcz]
            simp only [Sem.run_bind, Sem.run_pure, Result.andThen_ok, newRow, run_newObj', hcz]
            rw [hcz] at hrr
            rw [hrr]
            have r0 : ∀ f : Nat → Value, (Array.range 0).map f = #[] := fun f => by simp
            rw [r0, r0]
            rfl
          · rw [if_neg hcz]
            simp only [Sem.run_bind, hzv, Sem.run_pure, Result.andThen_ok, newRow, run_newObj', hrr, g6, Nat.add_zero]
        · cases hh
      · cases hh
    · cases hh
  case slice t x lo hi mx =>
    split at hh
    · rename_i a len cap e ha hu
      split at hh
      · rename_i sz hsz
        split at hh
        · rename_i u hs
          simp only [Option.some.injEq, Prod.mk.injEq, ANext.val.injEq] at hh
          obtain ⟨e1, e2⟩ := hh
          subst e1 e2
          obtain ⟨v', k1, k2⟩ := sliceOf_run h hu hsz (ha ▸ hev x) (map_some hev lo) (map_some hev hi) (map_some hev mx) hs
          refine val_same h k1 ?_
          simp only [execOp, Sem.run_bind, k2, Result.andThen_ok, Sem.run_pure]
        · cases hh
      · cases hh
    · cases hh
  case convert src dst x =>
    split at hh
    · rename_i b e ha hs hd
      split at hh
      · rename_i hu8 hsz
        obtain ⟨q1, q2⟩ := alloc_inv hh
        simp only [Option.some.injEq, Prod.mk.injEq, ANext.val.injEq] at q2
        obtain ⟨e1, e2⟩ := q2
        subst e1
        rw [lenN_eq, Nat.add_zero]
        have hsize : b.size = b.data.toList.length := by rw [Array.length_toList]; rfl
        obtain ⟨d, hdd⟩ : ∃ d, d = w.tape w.drawn (.appendCap b.size 0 e) % (2 ^ 63 - b.size) := ⟨_, rfl⟩
        have hnd : ¬D s.next := hf _ (Nat.le_refl _) (by rw [← e2]; simp)
        have gl : allL Canon.ground0 (b.data.toList.map fun b => Value.int .u8 (.ofNat b.toNat)) = true := by
          rw [allL_eq]; intro x hx
          obtain ⟨y, _, rfl⟩ := List.mem_map.1 hx
          rfl
        have hb' := kept_str (ha ▸ hev x)
        refine val_new h hZ q1 hnd (x := d) (cs := (b.data.map fun b => Value.int .u8 b.toNat) ++ Array.replicate d (.int .u8 0)) (ex := false) (fun e => (by cases e)) ?_ ?_ e2.symm
          { w with drawn := w.drawn + 1, heap := w.heap.push (.cells ((b.data.map fun b => Value.int .u8 b.toNat) ++ Array.replicate d (.int .u8 0)) e (b.size + d, b.size + d + 1)) } (b.size + d, b.size + d + 1) ?_ rfl rfl rfl (by simp) (by simp) ?_
          (mk' := .slice (some ⟨w.heap.size, 0, none⟩) b.data.toList.length (b.data.toList.length + d)) ?_ (new_slice (by omega))
        · rw [cellsOf_size hsz]; simp
        · rw [List.length_map, Array.toList_append, Array.toList_map, List.take_append_of_le_length (by simp), List.take_of_length_le (by simp)]
          exact .of_ground0 gl
        · refine .inr ?_
          simp only [Array.size_append, Array.size_map, Array.size_replicate]
          have : b.data.size = b.size := rfl
          omega
        · intro b2 hb2
          simp only [Array.getElem?_push]; rw [if_neg (by omega)]
        · simp only [execOp, convert, hb', Sem.run_bind, run_underlying' hs, run_underlying' hd, Result.andThen_ok]
          rw [run_underlying' hu8, Result.andThen_ok]
          simp only [Conv.stringToBytes, Sem.run_bind, run_choose, Question.forced, Bool.false_eq_true, if_false, Question.cut, Result.andThen_ok, newRow, run_newObj', Sem.run_pure, markStringish, run_shape]
          rw [← hdd]
          have hsh : ({ w with drawn := w.drawn + 1, heap := w.heap.push (.cells ((b.data.map fun b => Value.int .u8 b.toNat) ++ Array.replicate (b.size + d - b.size) (.int .u8 0)) e) } : World).shape? w.heap.size = some (e, b.size + d) := by
            have : b.data.size = b.size := rfl
            simp [World.shape?, this]
          rw [hsh]
          simp only [run_freeze, Result.andThen_ok, World.freeze, if_neg (show ¬(1 = 0) by omega)]
          rw [modify_push, ← hsize, Nat.add_sub_cancel_left]
          rfl
      · cases hh
    · rename_i a len cap e ha hs hd
      split at hh
      · rename_i hu8
        split at hh
        · rename_i l hl
          split at hh
          · rename_i r hr
            simp only [Option.some.injEq, Prod.mk.injEq, ANext.val.injEq] at hh
            obtain ⟨e1, e2⟩ := hh
            subst e1 e2
            obtain ⟨ns, k1, k2⟩ := toBytes_eq l r hr
            have hxx := ha ▸ hev x
            obtain ⟨a', cp', e3, e4, e5⟩ := slice_inv hxx
            -- the cells
            have hcells : ∀ a0, a' = some a0 → (loadCells a0 len).run P w = .ok (ns.map (Value.int .u8)).toArray w := by
              intro a0 ha0
              by_cases hz : len = 0
              · subst hz
                unfold firstOf at hl
                have hl0 : l = [] := by
                  cases a <;> simp at hl <;> exact hl
                subst hl0
                have : ns = [] := by cases ns with | nil => rfl | cons _ _ => simp at k1
                subst this
                rfl
              · have hv2 : VR (zId P) c D (.slice a len len) (.slice a' len (cp' - cap + len)) := by
                  rw [e3] at hxx
                  cases hxx with
                  | snil => rw [Nat.sub_self, Nat.zero_add]; exact .snil _ _
                  | sl o off l2 cp hd hz2 =>
                    have := VR.sl (Z := zId P) (c := c) (D := D) o off len len hd hz2
                    rwa [show cap + c.x o - cap + len = len + c.x o by omega]
                  | z0 a2 => omega
                  | z1 a2 cp => omega
                obtain ⟨l', r1, r2⟩ := firstOf_run h hv2 hl (by omega)
                have r3 := r2 w.drawn
                rw [ha0] at r3
                unfold Builtin.firstCells at r3
                rw [Nat.mul_one] at r3
                have g : allL Canon.ground0 l = true := by
                  rw [k1, allL_eq]; intro y hy
                  obtain ⟨z, _, rfl⟩ := List.mem_map.1 hy
                  rfl
                rw [r1.ground0 g, k1] at r3
                exact r3
            refine val_same h (.string _) ?_
            simp only [execOp, e3, convert, Sem.run_bind, run_underlying' hs, run_underlying' hd, Result.andThen_ok]
            rw [run_underlying' hu8, Result.andThen_ok]
            have hbs : (Conv.bytesToString (.slice a' len cp')).run P w = .ok (.string ⟨r.toArray⟩) w := by
              cases a' with
              | none =>
                have : a = none := by cases a with | none => rfl | some _ => cases e5
                subst this
                unfold firstOf at hl
                obtain ⟨_, h6⟩ := bif_inv hl
                simp only [Option.some.injEq] at h6
                subst h6
                have : ns = [] := by cases ns with | nil => rfl | cons _ _ => simp at k1
                subst this
                subst k2
                rfl
              | some a0 =>
                simp only [Conv.bytesToString, Sem.run_bind, hcells a0 rfl, Result.andThen_ok, List.forIn_toArray]
                refine Eq.trans (congrArg (fun r => Result.andThen r (fun a w' => Sem.run P (Pure.pure (Value.string a) : Sem Value) w')) (bytes_loop P w (fun _ _ => rfl) ns ByteArray.empty)) ?_
                rw [k2]
                rfl
            rw [hbs]
            rfl
          · cases hh
        · cases hh
      · cases hh
    · rename_i a len cap t0 e ha hs hd
      obtain ⟨g1, g2⟩ := bif_inv hh
      rw [Nat.beq_eq] at g1
      subst g1
      have e0 : t0 = e := by have := hs.symm.trans hd; simpa using this
      subst e0
      split at g2
      · rename_i obj hob hu8
        simp only [Option.some.injEq, Prod.mk.injEq, ANext.val.injEq] at g2
        obtain ⟨e1, e2⟩ := g2
        subst e1 e2
        have hx := ha ▸ hev x
        have hx0 := hx
        generalize he : ev' x = x' at hx
        cases hx with
        | sl o off l2 cp hd2 hz2 =>
          refine val_mark (o := o) h hob (he ▸ hx0) fun n hn => ?_
          simp only [execOp, he, convert, Sem.run_bind, run_underlying' hs, run_underlying' hd, Result.andThen_ok]
          rw [run_underlying' hu8, Result.andThen_ok]
          simp only [BEq.rfl, markStringish, Sem.run_bind, run_shape, hn, run_freeze, Result.andThen_ok, Sem.run_pure]
        | z0 a2 => exact absurd rfl (h.dom _ (by rw [hob]; simp)).2.1
        | z1 a2 cp => exact absurd rfl (h.dom _ (by rw [hob]; simp)).2.1
      · cases g2
    · cases hh
  case call cl =>
    obtain ⟨callee, args, argTypes⟩ := cl
    unfold hopCall at hh
    simp only at hh
    split at hh
    · -- append
      split at hh
      · rename_i b x t rest ha hat
        have ha' : args = #[b, x] := Array.toList_inj.1 (by simpa using ha)
        have hat' : argTypes = (t :: rest).toArray := Array.toList_inj.1 (by simpa using hat)
        subst ha' hat'
        split at hh
        · rename_i bs len cap e hb hu
          split at hh
          · rename_i i hi
            split at hh
            · rename_i z hz
              by_cases hmk : ∃ xt k, rest = [xt] ∧ P.underlying xt = some (.int k)
              · obtain ⟨xt, k, rfl, hxt⟩ := hmk
                simp only [hxt, cond_true, isInt] at hh
                refine make_val h hZ hf hu hi hxt hz (hb ▸ hev b) (hev x) hh (ty := type) ?_
                simp only [execOp, resolve, Sem.run_bind, Sem.run_pure, Result.andThen_ok, invoke, builtin, List.map_toArray, List.map_cons, List.map_nil]
              have hzr : (rest = [] ∨ ∃ xt d, rest = [xt] ∧ P.underlying xt = some d ∧ ∀ k, d ≠ .int k) ∧ z.cells.size = i.size ∧ appendOp P e i.size i.bytes bs len cap (ev x) s = some (.val v, s') := by
                match rest, hh, hmk with
                | [], hh, _ =>
                  simp only [cond_false] at hh
                  obtain ⟨g1, g2⟩ := bif_inv hh
                  exact ⟨.inl rfl, Nat.beq_eq ▸ g1, g2⟩
                | [xt], hh, hmk =>
                  simp only at hh
                  cases hx : P.underlying xt with
                  | none => simp only [hx, isInt, cond_true, cond_false] at hh; cases hh
                  | some d =>
                    simp only [hx, isInt] at hh
                    cases d
                    case int k => exact absurd ⟨xt, k, rfl, hx⟩ hmk
                    all_goals
                      simp only [cond_false] at hh
                      obtain ⟨g1, g2⟩ := bif_inv hh
                      exact ⟨.inr ⟨xt, _, rfl, hx, fun k e => by cases e⟩, Nat.beq_eq ▸ g1, g2⟩
                | _ :: _ :: _, hh, _ => simp only [isInt, cond_true, cond_false] at hh; cases hh
              obtain ⟨k1, k2, k3⟩ := hzr
              refine append_val h hZ hf hu hi k1 ⟨z, hz, k2⟩ (hb ▸ hev b) (hev x) k3 (ty := type) ?_
              simp only [execOp, resolve, Sem.run_bind, Sem.run_pure, Result.andThen_ok, invoke, builtin, List.map_toArray, List.map_cons, List.map_nil]
            · cases hh
          · cases hh
        · cases hh
      · cases hh
    · -- copy
      split at hh
      · rename_i d x t rest ha hat
        have ha' : args = #[d, x] := Array.toList_inj.1 (by simpa using ha)
        have hat' : argTypes = (t :: rest).toArray := Array.toList_inj.1 (by simpa using hat)
        subst ha' hat'
        split at hh
        · rename_i a len cap e hd hu
          split at hh
          · rename_i sz m hsz hm
            have hlen := lenOf_run (P := P) (hev x) hm
            have hdd := hd ▸ hev d
            obtain ⟨a', cp', e3, e4, e5⟩ := slice_inv hdd
            have hrun : ∀ (cs : List Value), (Builtin.firstCells sz (Nat.min m len) (ev' x)).run P w = .ok cs.toArray w →
                (execOp ev' ⟨dst, .call { callee := .builtin .copy, args := #[d, x], argTypes := (t :: rest).toArray }, type, pos, after, guard⟩).run P w =
                  ((match a' with | some a0 => (storeCells a0 cs).run P w | none => .ok () w).andThen fun _ w' => .ok (.value (.int .i64 (Nat.min m len : Nat))) w') := by
              intro cs hcs
              have hc : (Builtin.copy_ (t :: rest).toArray type #[.slice a' len cp', ev' x]).run P w =
                  (match a' with | some a0 => (storeCells a0 cs).run P w | none => .ok () w).andThen fun _ w' => .ok (.int .i64 (Nat.min m len : Nat)) w' := by
                show (underlying t >>= _).run P w = _
                rw [Sem.run_bind, run_underlying' hu, Result.andThen_ok]
                show (Builtin.lenOf (ev' x) >>= _).run P w = _
                rw [Sem.run_bind, hlen, Result.andThen_ok]
                show (sizeOf e >>= _).run P w = _
                rw [Sem.run_bind, run_sizeOf' hsz, Result.andThen_ok]
                show (Builtin.firstCells sz (Nat.min m len) (ev' x) >>= _).run P w = _
                rw [Sem.run_bind, hcs, Result.andThen_ok]
                cases a' with
                | none => rfl
                | some a0 => simp only [Sem.run_bind, Sem.run_pure, goInt]
              simp only [execOp, resolve, Sem.run_bind, Sem.run_pure, Result.andThen_ok, invoke, builtin, List.map_toArray, List.map_cons, List.map_nil, e3, hc]
              cases a' with
              | none => rfl
              | some a0 =>
                simp only
                cases (storeCells a0 cs).run P w <;> rfl
            by_cases hn0 : Nat.min m len = 0
            · rw [nbeq_yes hn0, cond_true] at hh
              simp only [Option.some.injEq, Prod.mk.injEq, ANext.val.injEq] at hh
              obtain ⟨e1, e2⟩ := hh
              subst e1 e2
              refine val_same h (.int _ _) ?_
              rw [hrun [] (by rw [hn0]; exact firstOf_nil (hev x) hm w), hn0]
              cases a' <;> rfl
            · rw [nbeq_no hn0, cond_false] at hh
              split at hh
              · rename_i cs a0 hcs
                split at hh
                · rename_i s2 hw2
                  simp only [Option.some.injEq, Prod.mk.injEq, ANext.val.injEq] at hh
                  obtain ⟨e1, e2⟩ := hh
                  subst e1 e2
                  obtain ⟨cs', r1, r2⟩ := firstOf_run h (hev x) hcs (by omega)
                  rw [e3] at hdd
                  have hml : Nat.min m len ≤ len := Nat.min_le_right _ _
                  cases hdd with
                  | sl o off l cp hd2 hz2 =>
                    refine val_write h hw2 r1 (.int _ _) fun w' hst => .inl ?_
                    rw [hrun cs' (r2 w.drawn)]
                    simp only [hst, Result.andThen_ok]
                    rfl
                  | z0 a2 => omega
                  | z1 a2 cp => omega
                · cases hh
              · cases hh
          · cases hh
        · cases hh
      · cases hh
    · -- clear
      split at hh
      · rename_i d t ha hat
        have ha' : args = #[d] := Array.toList_inj.1 (by simpa using ha)
        have hat' : argTypes = #[t] := Array.toList_inj.1 (by simpa using hat)
        subst ha' hat'
        split at hh
        · rename_i a len cap e hd hu
          split at hh
          · rename_i z hz
            have hdd := hd ▸ hev d
            obtain ⟨a', cp', e3, e4, e5⟩ := slice_inv hdd
            obtain ⟨u, r1, r2, r3⟩ := zero_run hz
            by_cases hn0 : len = 0
            · rw [nbeq_yes hn0, cond_true] at hh
              simp only [Option.some.injEq, Prod.mk.injEq, ANext.val.injEq] at hh
              obtain ⟨e1, e2⟩ := hh
              subst e1 e2 hn0
              refine val_same h .undef ?_
              have hc : (Builtin.clear_ #[t] type #[.slice a' 0 cp']).run P w = .ok (.tuple #[]) w := by
                show (underlying t >>= _).run P w = _
                rw [Sem.run_bind, run_underlying' hu, Result.andThen_ok]
                cases a' <;> rfl
              simp only [execOp, resolve, Sem.run_bind, Sem.run_pure, Result.andThen_ok, invoke, builtin, List.map_toArray, List.map_cons, List.map_nil, e3, hc]
              rfl
            · rw [nbeq_no hn0, cond_false] at hh
              split at hh
              · rename_i a0
                obtain ⟨g1, g2⟩ := bif_inv hh
                split at g2
                · rename_i s2 hw2
                  simp only [Option.some.injEq, Prod.mk.injEq, ANext.val.injEq] at g2
                  obtain ⟨e1, e2⟩ := g2
                  subst e1 e2
                  rw [e3] at hdd
                  cases hdd with
                  | sl o off l cp hd2 hz2 =>
                    refine val_write h hw2 (.of_ground0 (reps_ground g1 len)) .undef fun w' hst => .inl ?_
                    have hc : (Builtin.clear_ #[t] type #[.slice (some ⟨c.ρ o, off, none⟩) len (cap + c.x o)]).run P w = .ok (.tuple #[]) w' := by
                      show (underlying t >>= _).run P w = _
                      rw [Sem.run_bind, run_underlying' hu, Result.andThen_ok]
                      obtain ⟨k, rfl⟩ : ∃ k, len = k + 1 := ⟨len - 1, by omega⟩
                      show (zeroValue e >>= _).run P w = _
                      rw [Sem.run_bind, r3, Result.andThen_ok]
                      simp only [Sem.run_bind, zeroCells_reps, r1, hst, Result.andThen_ok, Sem.run_pure]
                    simp only [execOp, resolve, Sem.run_bind, Sem.run_pure, Result.andThen_ok, invoke, builtin, List.map_toArray, List.map_cons, List.map_nil, e3, hc]
                    rfl
                  | z0 a2 => omega
                  | z1 a2 cp => omega
                · cases g2
              · cases hh
          · cases hh
        · cases hh
      · cases hh
    · -- cap
      split at hh
      · rename_i d t ha hat
        have ha' : args = #[d] := Array.toList_inj.1 (by simpa using ha)
        have hat' : argTypes = #[t] := Array.toList_inj.1 (by simpa using hat)
        subst ha' hat'
        split at hh
        · rename_i a len cap e hd hu
          obtain ⟨g1, g2⟩ := bif_inv hh
          simp only [Option.some.injEq, Prod.mk.injEq, ANext.val.injEq] at g2
          obtain ⟨e1, e2⟩ := g2
          subst e1 e2
          have hx : ∃ a', ev' d = .slice a' len cap := by
            have hdd := hd ▸ hev d
            generalize ev' d = y at hdd
            have none_of : s.heap.get (zId P) = none := Classical.byContradiction fun hne => absurd rfl (h.dom _ hne).2.1
            cases hdd with
            | snil l cp => exact ⟨none, rfl⟩
            | sl o off l cp hdo hz =>
              unfold isExact at g1
              dsimp only at g1
              split at g1
              · rename_i obj ho
                exact ⟨_, by rw [(h.rows o obj ho).ex g1, Nat.add_zero]⟩
              · cases g1
            | z0 a2 => unfold isExact at g1; dsimp only at g1; rw [none_of] at g1; cases g1
            | z1 a2 cp => unfold isExact at g1; dsimp only at g1; rw [none_of] at g1; cases g1
          obtain ⟨a', hx⟩ := hx
          refine val_same h (.int _ _) ?_
          simp [execOp, resolve, invoke, builtin, Builtin.cap_, hx, run_underlying' hu, goInt]
        · cases hh
      · cases hh
    · -- a function
      split at hh
      · simp only [Option.some.injEq, Prod.mk.injEq, reduceCtorEq, false_and] at hh
      · cases hh
    · cases hh
end
end Go.Proofs.Ytnfjdoeemnhkbaa.Canon
