/-
  Values of the runner and of the model; its rows in the model's memory; steps.
-/
import Derived.Test.YtlkjdclhgmkndaaCanonB
namespace Go.Proofs.Ytlkjdclhgmkndaa.Canon
set_option linter.unusedVariables false
set_option linter.unusedSimpArgs false
open Go.RowKit

/-- Which block an id stands for, and how many elements more there is room for than is known. -/
structure Ctx where
  ρ : Nat → Nat
  x : Nat → Nat

/-- A slice out of four numbers: nil where there is no room. -/
def nslV (a b l cp : Nat) : Value := if cp = 0 then .slice none 0 0 else .slice (some ⟨a, b, none⟩) l cp

theorem nslV_is (a b l cp : Nat) : nslV a b l cp = .slice none 0 0 ∨ nslV a b l cp = .slice (some ⟨a, b, none⟩) l cp := by
  unfold nslV; split
  · exact .inl rfl
  · exact .inr rfl

inductive VR (Z : Nat) (c : Ctx) (D : Nat → Prop) : Value → Value → Prop
  | bool (b : Bool) : VR Z c D (.bool b) (.bool b)
  | int (k : IntKind) (n : Int) : VR Z c D (.int k n) (.int k n)
  | float (k : FloatKind) (n : Nat) : VR Z c D (.float k n) (.float k n)
  | symA (l k : Nat) (n : Int) (h : n % 256 % (l : Int) = (k : Int)) : VR Z c D (.complex .f64 l k) (.int .i64 n)
  | symB (l k : Nat) (n : Int) (h0 : 0 ≤ n) (h : n % (l : Int) = (k : Int)) : VR Z c D (.complex .f32 l k) (.int .i64 n)
  | symM (k : Nat) (n : Int) (h : cLo k ≤ n ∧ n ≤ cHi k) : VR Z c D (.map (some k)) (.int .i64 n)
  | symC (k : Nat) (s n : Int) (hD : D (5000000 + kId k)) (hs : (c.x (5000000 + kId k) : Int) = s + 9223372036854775808) (h : kLo k ≤ s ∧ s ≤ kHi k) (hn : n = kA k * s + kB k) : VR Z c D (.chan (some k)) (.int .i64 n)
  | junk (a : Option Addr) (l cp : Nat) : VR Z c D (.complex .f32 0 0) (.slice a l cp)
  | string (s : ByteArray) : VR Z c D (.string s) (.string s)
  | pnil : VR Z c D (.pointer none) (.pointer none)
  | ptr (o off : Nat) (h : D o) : VR Z c D (.pointer (some ⟨o, off, none⟩)) (.pointer (some ⟨c.ρ o, off, none⟩))
  | snil (l cp : Nat) : VR Z c D (.slice none l cp) (.slice none l cp)
  | sl (o off l cp : Nat) (h : D o) (hz : o ≠ Z) : VR Z c D (.slice (some ⟨o, off, none⟩) l cp) (.slice (some ⟨c.ρ o, off, none⟩) l (cp + c.x o))
  | z0 (a : Addr) : VR Z c D (.slice (some ⟨Z, 0, none⟩) 0 0) (.slice (some a) 0 0)
  | z1 (a : Addr) (cp : Nat) : VR Z c D (.slice (some ⟨Z, 1, none⟩) 0 0) (.slice (some a) 0 cp)
  | nilFunc : VR Z c D .nilFunc .nilFunc
  | nilIface : VR Z c D .nilIface .nilIface
  | func (fn : Fn) (f f' g g' : Array Value) (hf : f.toList.length = f'.toList.length) (hg : g.toList.length = g'.toList.length)
      (h1 : ∀ (i : Nat) (v v' : Value), f.toList[i]? = some v → f'.toList[i]? = some v' → VR Z c D v v') (h2 : ∀ (i : Nat) (v v' : Value), g.toList[i]? = some v → g'.toList[i]? = some v' → VR Z c D v v') :
      VR Z c D (.func fn f g) (.func fn f' g')
  | iface (t : TypeId) (v v' : Value) (h : VR Z c D v v') : VR Z c D (.iface t v) (.iface t v')
  | nsl (k : Nat) (h : ∀ j, j < 4 → D (6000000 + 4 * k + j)) : VR Z c D (.iface k (.map none)) (nslV (c.x (6000000 + 4 * k)) (c.x (6000000 + 4 * k + 1)) (c.x (6000000 + 4 * k + 2)) (c.x (6000000 + 4 * k + 3)))
  | agg (cs cs' : Array Value) (hs : cs.toList.length = cs'.toList.length) (h : ∀ (i : Nat) (v v' : Value), cs.toList[i]? = some v → cs'.toList[i]? = some v' → VR Z c D v v') :
      VR Z c D (.agg cs) (.agg cs')
  | tuple (cs cs' : Array Value) (hs : cs.toList.length = cs'.toList.length) (h : ∀ (i : Nat) (v v' : Value), cs.toList[i]? = some v → cs'.toList[i]? = some v' → VR Z c D v v') :
      VR Z c D (.tuple cs) (.tuple cs')

/-- The same of lists. -/
def LR (Z : Nat) (c : Ctx) (D : Nat → Prop) (l l' : List Value) : Prop :=
  l.length = l'.length ∧ ∀ (i : Nat) (v v' : Value), l[i]? = some v → l'[i]? = some v' → VR Z c D v v'

section
variable {Z : Nat} {c c' : Ctx} {D D' : Nat → Prop}

theorem VR.mono {v v' : Value} (h : VR Z c D v v') (hc : ∀ o, D o → c'.ρ o = c.ρ o ∧ c'.x o = c.x o) (hD : ∀ o, D o → D' o) : VR Z c' D' v v' := by
  induction h with
  | bool b => exact .bool b
  | int k n => exact .int k n
  | float k n => exact .float k n
  | symA l k n h => exact .symA l k n h
  | symB l k n h0 h => exact .symB l k n h0 h
  | symM k n h => exact .symM k n h
  | symC k s n h1 h2 h3 h4 => exact .symC k s n (hD _ h1) (by rw [(hc _ h1).2]; exact h2) h3 h4
  | junk a l cp => exact .junk a l cp
  | string s => exact .string s
  | pnil => exact .pnil
  | ptr o off h => rw [← (hc o h).1]; exact .ptr o off (hD o h)
  | snil l cp => exact .snil l cp
  | sl o off l cp h hz => rw [← (hc o h).1, ← (hc o h).2]; exact .sl o off l cp (hD o h) hz
  | z0 a => exact .z0 a
  | z1 a cp => exact .z1 a cp
  | nilFunc => exact .nilFunc
  | nilIface => exact .nilIface
  | func fn f f' g g' hf hg h1 h2 i1 i2 => exact .func fn f f' g g' hf hg (fun i v v' a b => i1 i v v' a b) (fun i v v' a b => i2 i v v' a b)
  | iface t v v' h ih => exact .iface t v v' ih
  | nsl k h =>
    have e0 := (hc _ (h 0 (by omega))).2
    rw [Nat.add_zero] at e0
    rw [← e0, ← (hc _ (h 1 (by omega))).2, ← (hc _ (h 2 (by omega))).2, ← (hc _ (h 3 (by omega))).2]
    exact .nsl k fun j hj => hD _ (h j hj)
  | agg cs cs' hs h ih => exact .agg cs cs' hs (fun i v v' a b => ih i v v' a b)
  | tuple cs cs' hs h ih => exact .tuple cs cs' hs (fun i v v' a b => ih i v v' a b)

theorem LR.mono {l l' : List Value} (h : LR Z c D l l') (hc : ∀ o, D o → c'.ρ o = c.ρ o ∧ c'.x o = c.x o) (hD : ∀ o, D o → D' o) : LR Z c' D' l l' :=
  ⟨h.1, fun i v v' a b => (h.2 i v v' a b).mono hc hD⟩

theorem LR.nil : LR Z c D [] [] := ⟨rfl, fun i v v' a => by simp at a⟩

theorem LR.cons {v v' : Value} {l l' : List Value} (h : VR Z c D v v') (hl : LR Z c D l l') : LR Z c D (v :: l) (v' :: l') :=
  ⟨by simp [hl.1], fun i a a' h1 h2 => by
    cases i with
    | zero => simp at h1 h2; subst h1 h2; exact h
    | succ i => exact hl.2 i a a' (by simpa using h1) (by simpa using h2)⟩

theorem LR.inv_nil {l' : List Value} (h : LR Z c D [] l') : l' = [] := by
  exact List.length_eq_zero_iff.1 h.1.symm

theorem LR.inv_cons {v : Value} {l l' : List Value} (h : LR Z c D (v :: l) l') : ∃ v' r', l' = v' :: r' ∧ VR Z c D v v' ∧ LR Z c D l r' := by
  cases l' with
  | nil => have := h.1; simp at this
  | cons v' r' => exact ⟨v', r', rfl, h.2 0 v v' rfl rfl, by have := h.1; simpa using this, fun i a a' h1 h2 => h.2 (i + 1) a a' (by simpa using h1) (by simpa using h2)⟩

theorem LR.at {l l' : List Value} (h : LR Z c D l l') {i : Nat} {v : Value} (hv : l[i]? = some v) : ∃ v', l'[i]? = some v' ∧ VR Z c D v v' := by
  have hlt : i < l.length := (List.getElem?_eq_some_iff.1 hv).1
  have hlt' : i < l'.length := by rw [← h.1]; exact hlt
  exact ⟨l'[i], List.getElem?_eq_getElem hlt', h.2 i v _ hv (List.getElem?_eq_getElem hlt')⟩

theorem LR.append {a a' b b' : List Value} (h : LR Z c D a a') (k : LR Z c D b b') : LR Z c D (a ++ b) (a' ++ b') := by
  refine ⟨by simp [h.1, k.1], fun i v v' h1 h2 => ?_⟩
  by_cases hi : i < a.length
  · rw [List.getElem?_append_left hi] at h1
    rw [List.getElem?_append_left (by rw [← h.1]; exact hi)] at h2
    exact h.2 i v v' h1 h2
  · rw [List.getElem?_append_right (by omega)] at h1
    rw [List.getElem?_append_right (by rw [← h.1]; omega), ← h.1] at h2
    exact k.2 _ v v' h1 h2

theorem LR.take {a a' : List Value} (h : LR Z c D a a') (n : Nat) : LR Z c D (a.take n) (a'.take n) := by
  refine ⟨by simp [h.1], fun i v v' h1 h2 => ?_⟩
  rw [List.getElem?_take] at h1 h2
  split at h1
  · rename_i hi; rw [if_pos hi] at h2; exact h.2 i v v' h1 h2
  · cases h1

theorem LR.drop {a a' : List Value} (h : LR Z c D a a') (n : Nat) : LR Z c D (a.drop n) (a'.drop n) := by
  refine ⟨by simp [h.1], fun i v v' h1 h2 => ?_⟩
  rw [List.getElem?_drop] at h1 h2
  exact h.2 _ v v' h1 h2

theorem LR.set {a a' : List Value} (h : LR Z c D a a') (n : Nat) {v v' : Value} (hv : VR Z c D v v') : LR Z c D (a.set n v) (a'.set n v') := by
  refine ⟨by simp [h.1], fun i u u' h1 h2 => ?_⟩
  rw [List.getElem?_set] at h1 h2
  by_cases hn : n = i
  · subst hn
    rw [if_pos rfl] at h1 h2
    by_cases hl : n < a.length
    · rw [if_pos hl] at h1
      rw [if_pos (by rw [← h.1]; exact hl)] at h2
      simp only [Option.some.injEq] at h1 h2
      subst h1 h2; exact hv
    · rw [if_neg hl] at h1; cases h1
  · rw [if_neg hn] at h1 h2
    exact h.2 i u u' h1 h2

theorem VR.agg_of {l l' : List Value} (h : LR Z c D l l') : VR Z c D (.agg l.toArray) (.agg l'.toArray) := .agg _ _ h.1 h.2
theorem VR.tuple_of {l l' : List Value} (h : LR Z c D l l') : VR Z c D (.tuple l.toArray) (.tuple l'.toArray) := .tuple _ _ h.1 h.2

/-! A value without an address is the same one. -/
theorem VR.ground0 {v v' : Value} (h : VR Z c D v v') (g : Canon.ground0 v = true) : v' = v := by
  cases h <;> first | rfl | (simp [Canon.ground0] at g)

theorem LR.ground0 {l l' : List Value} (h : LR Z c D l l') (g : allL Canon.ground0 l = true) : l' = l := by
  rw [allL_eq] at g
  apply List.ext_getElem?
  intro i
  by_cases hi : i < l.length
  · obtain ⟨v', h1, h2⟩ := h.at (List.getElem?_eq_getElem hi)
    rw [h1, List.getElem?_eq_getElem hi]
    exact congrArg some (h2.ground0 (g _ (List.getElem_mem hi)))
  · rw [List.getElem?_eq_none (by rw [← h.1]; omega), List.getElem?_eq_none (by omega)]

theorem VR.ground {v v' : Value} (h : VR Z c D v v') (g : Canon.ground v = true) : v' = v := by
  cases h with
  | agg cs cs' hs h =>
    have : cs'.toList = cs.toList := LR.ground0 ⟨hs, h⟩ (by simpa [Canon.ground] using g)
    rw [Array.toList_inj.1 this]
  | _ => first | rfl | (simp [Canon.ground, Canon.ground0] at g)

theorem VR.ground2 {v v' : Value} (h : VR Z c D v v') (g : Canon.ground2 v = true) : v' = v := by
  cases h with
  | tuple cs cs' hs h =>
    have g' : ∀ x ∈ cs.toList, Canon.ground x = true := by rw [← allL_eq]; simpa [Canon.ground2] using g
    have : cs'.toList = cs.toList := by
      apply List.ext_getElem?
      intro i
      by_cases hi : i < cs.toList.length
      · obtain ⟨v', h1, h2⟩ := LR.at ⟨hs, h⟩ (List.getElem?_eq_getElem hi)
        rw [h1, List.getElem?_eq_getElem hi]
        exact congrArg some (h2.ground (g' _ (List.getElem_mem hi)))
      · rw [List.getElem?_eq_none (by rw [← hs]; omega), List.getElem?_eq_none (by omega)]
    rw [Array.toList_inj.1 this]
  | _ => first | rfl | exact VR.ground (by constructor <;> assumption) (by simpa [Canon.ground2] using g) | (simp [Canon.ground2, Canon.ground, Canon.ground0] at g)

theorem VR.of_ground0 {v : Value} (g : Canon.ground0 v = true) : VR Z c D v v := by
  cases v <;> first | (constructor; done) | (simp [Canon.ground0] at g; done) | skip
  case pointer a => cases a <;> first | constructor | (simp [Canon.ground0] at g)
  case slice a l cp => cases a <;> first | constructor | (simp [Canon.ground0] at g)

theorem LR.of_ground0 {l : List Value} (g : allL Canon.ground0 l = true) : LR Z c D l l := by
  rw [allL_eq] at g
  refine ⟨rfl, fun i v v' h1 h2 => ?_⟩
  rw [h1] at h2; simp only [Option.some.injEq] at h2; subst h2
  exact .of_ground0 (g v (List.mem_of_getElem? h1))

theorem VR.of_ground {v : Value} (g : Canon.ground v = true) : VR Z c D v v := by
  cases v <;> first | exact .of_ground0 (by simpa [Canon.ground] using g) | skip
  case agg cs => exact .agg _ _ rfl (LR.of_ground0 (by simpa [Canon.ground] using g)).2

theorem VR.undef : VR Z c D undef undef := .tuple _ _ rfl (fun i v v' h => by simp at h)
end

/-! ### Memory -/
theorem addr_add (b o n : Nat) : (⟨b, o, none⟩ : Addr).add n = ⟨b, o + n, none⟩ := by
  unfold Addr.add
  by_cases h : n = 0
  · simp [h]
  · simp [h]

/-- What is frozen of a row stands behind its cells. -/
def Thaw (n : Nat) (fr : Nat × Nat) : Prop := fr.1 = fr.2 ∨ n ≤ fr.1
theorem Thaw.use {n : Nat} {fr : Nat × Nat} (h : Thaw n fr) : ∀ i, i < n → ¬(fr.1 ≤ i ∧ i < fr.2) := fun i hi => by
  unfold Thaw at h; omega

/-- One row: its cells are known as far as they are told. -/
structure Row (Z : Nat) (P : Program) (c : Ctx) (D : Nat → Prop) (o : Nat) (obj : AObj) (w : World) : Prop where
  ex : obj.exact = true → c.x o = 0
  row : ∃ cs fr, w.heap[c.ρ o]? = some (.cells cs obj.elem fr) ∧ Thaw cs.size fr ∧
    cs.size = obj.cells.length + c.x o * P.cellsOf obj.elem ∧ LR Z c D obj.cells (cs.toList.take obj.cells.length)

/-- What stays as it was while the runner runs: the memory that there was ahead of it; the numbers that bear names. -/
structure Fx where
  w0 : World
  nm : Nat → Nat

structure HR (Φ : Fx) (P : Program) (c : Ctx) (D : Nat → Prop) (H : T AObj) (w : World) : Prop where
  dom : ∀ o, H.get o ≠ none → D o ∧ o ≠ zId P ∧ o < 4000000
  rows : ∀ o obj, H.get o = some obj → Row (zId P) P c D o obj w
  inj : ∀ o o', H.get o ≠ none → H.get o' ≠ none → c.ρ o = c.ρ o' → o = o'
  bel : Below Φ.w0.heap.size Φ.w0 w
  up : ∀ o, H.get o ≠ none → Φ.w0.heap.size ≤ c.ρ o
  nm : ∀ o, 5000000 ≤ o → c.x o = Φ.nm o

/-- What a step leaves: rows from m on may be written, n to n' is new. -/
structure Step (Φ : Fx) (P : Program) (c c' : Ctx) (D : Nat → Prop) (H H' : T AObj) (n n' m : Nat) (w w' : World) : Prop where
  le : n ≤ n'
  agree : ∀ o, ¬(n ≤ o ∧ o < n') → c'.ρ o = c.ρ o ∧ c'.x o = c.x o
  hr : HR Φ P c' (fun o => D o ∨ (n ≤ o ∧ o < n')) H' w'
  os : w'.os = w.os
  tape : w'.tape = w.tape
  output : w'.output = w.output
  size : w.heap.size ≤ w'.heap.size
  far : ∀ b, b < w.heap.size → (¬∃ o, m ≤ o ∧ H.get o ≠ none ∧ c.ρ o = b) → w'.heap[b]? = w.heap[b]?
  live : ∀ o, H'.get o ≠ none → H.get o ≠ none ∨ (n ≤ o ∧ o < n' ∧ (w.heap.size ≤ c'.ρ o ∨ ∃ p, m ≤ p ∧ H.get p ≠ none ∧ c.ρ p = c'.ρ o))
  same : ∀ o, o < m → H.get o ≠ none → H'.get o = H.get o

theorem Row.lt {Z : Nat} {P : Program} {c : Ctx} {D : Nat → Prop} {o : Nat} {obj : AObj} {w : World} (h : Row Z P c D o obj w) : c.ρ o < w.heap.size := by
  obtain ⟨cs, fr, h1, _⟩ := h.row
  exact (Array.getElem?_eq_some_iff.1 h1).1

theorem HR.lt {Φ : Fx} {P : Program} {c : Ctx} {D : Nat → Prop} {H : T AObj} {w : World} (h : HR Φ P c D H w) {o : Nat} (ho : H.get o ≠ none) : c.ρ o < w.heap.size := by
  obtain ⟨obj, hob⟩ := Option.ne_none_iff_exists'.1 ho
  exact (h.rows o obj hob).lt

theorem HR.belOf {Φ : Fx} {P : Program} {c : Ctx} {D : Nat → Prop} {H : T AObj} {w w' : World} (h : HR Φ P c D H w) (h1 : w'.os = w.os) (h2 : w'.tape = w.tape) (h3 : w'.output = w.output) (h4 : w.heap.size ≤ w'.heap.size)
    (h5 : ∀ b, b < Φ.w0.heap.size → w'.heap[b]? = w.heap[b]?) : Below Φ.w0.heap.size Φ.w0 w' :=
  ⟨h1.trans h.bel.os, h2.trans h.bel.tape, h3.trans h.bel.output, Nat.le_trans h.bel.size h4, fun b hb => (h5 b hb).trans (h.bel.block b hb)⟩

theorem HR.sub {Φ : Fx} {P : Program} {c : Ctx} {D : Nat → Prop} {H H' : T AObj} {w : World} (h : HR Φ P c D H w) (hs : ∀ o obj, H'.get o = some obj → H.get o = some obj) : HR Φ P c D H' w := by
  have hn : ∀ o, H'.get o ≠ none → H.get o ≠ none := fun o ho => by
    obtain ⟨obj, hob⟩ := Option.ne_none_iff_exists'.1 ho
    rw [hs o obj hob]; simp
  exact ⟨fun o ho => h.dom o (hn o ho), fun o obj ho => h.rows o obj (hs o obj ho), fun o o' h1 h2 he => h.inj o o' (hn o h1) (hn o' h2) he, h.bel, fun o ho => h.up o (hn o ho), h.nm⟩

theorem Step.refl {Φ : Fx} {P : Program} {c : Ctx} {D : Nat → Prop} {H : T AObj} {n m : Nat} {w : World} (h : HR Φ P c D H w) : Step Φ P c c D H H n n m w w where
  le := Nat.le_refl _
  agree := fun _ _ => ⟨rfl, rfl⟩
  hr := by
    have e : (fun o => D o ∨ (n ≤ o ∧ o < n)) = D := by funext o; simp; omega
    rw [e]; exact h
  os := rfl
  tape := rfl
  output := rfl
  size := Nat.le_refl _
  far := fun _ _ _ => rfl
  live := fun o ho => .inl ho
  same := fun _ _ _ => rfl

theorem Step.weaken {Φ : Fx} {P : Program} {c c' : Ctx} {D : Nat → Prop} {H H' : T AObj} {n n' m m2 : Nat} {w w' : World} (h : Step Φ P c c' D H H' n n' m w w') (hm : m2 ≤ m) : Step Φ P c c' D H H' n n' m2 w w' :=
  { h with
    far := fun b hb hno => h.far b hb fun ⟨o, h1, h2⟩ => hno ⟨o, by omega, h2⟩
    live := fun o ho => (h.live o ho).imp id fun ⟨a, b, e⟩ => ⟨a, b, e.imp id fun ⟨p, h1, h2⟩ => ⟨p, by omega, h2⟩⟩
    same := fun o ho hl => h.same o (by omega) hl }

theorem Step.trans {Φ : Fx} {P : Program} {c c1 c2 : Ctx} {D : Nat → Prop} {H H1 H2 : T AObj} {n n1 n2 m : Nat} {w w1 w2 : World} (h : Step Φ P c c1 D H H1 n n1 m w w1)
    (hD : ∀ o, D o → ¬(n ≤ o ∧ o < n2)) (hH : HR Φ P c D H w)
    (k : Step Φ P c1 c2 (fun o => D o ∨ (n ≤ o ∧ o < n1)) H1 H2 n1 n2 m w1 w2) : Step Φ P c c2 D H H2 n n2 m w w2 := by
  have hl := h.le
  have kl := k.le
  have hDH : ∀ o, H.get o ≠ none → ¬(n ≤ o ∧ o < n2) := fun o ho => hD o (hH.dom o ho).1
  refine ⟨by omega, fun o ho => ?_, ?_, k.os.trans h.os, k.tape.trans h.tape, k.output.trans h.output, Nat.le_trans h.size k.size, fun b hb hno => ?_, fun o ho => ?_, fun o ho hl' => ?_⟩
  · have a1 := h.agree o (by omega)
    have a2 := k.agree o (by omega)
    exact ⟨a2.1.trans a1.1, a2.2.trans a1.2⟩
  · have e : (fun o => (D o ∨ (n ≤ o ∧ o < n1)) ∨ (n1 ≤ o ∧ o < n2)) = fun o => D o ∨ (n ≤ o ∧ o < n2) := by
      funext o; apply propext; constructor
      · rintro ((h1 | h1) | h1)
        · exact .inl h1
        · exact .inr ⟨h1.1, by omega⟩
        · exact .inr ⟨by omega, h1.2⟩
      · rintro (h1 | h1)
        · exact .inl (.inl h1)
        · by_cases ho : o < n1
          · exact .inl (.inr ⟨h1.1, ho⟩)
          · exact .inr ⟨by omega, h1.2⟩
    have := k.hr
    rwa [e] at this
  · rw [k.far b (Nat.lt_of_lt_of_le hb h.size) ?_]
    · exact h.far b hb hno
    · rintro ⟨o, h1, h2, h3⟩
      rcases h.live o h2 with h4 | ⟨h4, h5, h6 | ⟨p, h7, h8, h9⟩⟩
      · exact hno ⟨o, h1, h4, by rw [← (h.agree o (by have := hDH o h4; omega)).1]; exact h3⟩
      · omega
      · exact hno ⟨p, h7, h8, by rw [h9, h3]⟩
  · rcases k.live o ho with h1 | ⟨h1, h2, h3⟩
    · rcases h.live o h1 with h4 | ⟨h4, h5, h6⟩
      · exact .inl h4
      · refine .inr ⟨h4, by omega, ?_⟩
        rw [(k.agree o (by omega)).1]
        exact h6
    · refine .inr ⟨by omega, h2, ?_⟩
      rcases h3 with h3 | ⟨p, h4, h5, h6⟩
      · exact .inl (Nat.le_trans h.size h3)
      · rcases h.live p h5 with h7 | ⟨h7, h8, h9 | ⟨q, h10, h11, h12⟩⟩
        · exact .inr ⟨p, h4, h7, by rw [← (h.agree p (by have := hDH p h7; omega)).1]; exact h6⟩
        · exact .inl (by rw [← h6]; exact h9)
        · exact .inr ⟨q, h10, h11, by rw [h12]; exact h6⟩
  · have h1 := h.same o ho hl'
    rw [k.same o ho (by rw [h1]; exact hl'), h1]

end Go.Proofs.Ytlkjdclhgmkndaa.Canon
