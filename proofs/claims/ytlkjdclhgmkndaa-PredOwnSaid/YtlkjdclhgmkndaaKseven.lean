/-
  Known calls of layers 6 and 7: what they promise the runner.
  Known calls of layers 6 and 7, each as the runner asks.
  Known calls of layer 7 that take a row of predicates of the runner's own: All, Any.
  A law of a number, two rows of numbers, and a number, by the runner: how it starts; what a predicate may be.
-/
import Derived.Test.YtlkjdclhgmkndaaCanonAA
import Derived.Test.YtlkjdclhgmkndaaFit
import Derived.Test.YtlkjdclhgmkndaaLpred
import Derived.Test.YtlkjdclhgmkndaaLsix
import Derived.Test.YtlkjdclhgmkndaaAwake7
namespace Go.Proofs.Ytlkjdclhgmkndaa
set_option linter.unusedVariables false
set_option linter.unusedSimpArgs false
open Canon Go.RowKit

/-! Predicates made of others, told by signs. -/
inductive Sy where
  | lf (i : Nat)
  | no (t : Sy)
  | al (l : Sy)
  | an (l : Sy)
  | ni
  | co (t l : Sy)
def ptNil : Pt := .mk 1 0 0 zeroV []
def Sy.den (ps : Nat → Pt) : Sy → Pt × List Pt
  | .lf i => (ps i, [])
  | .no t => (.mk 6 0 0 zeroV [(t.den ps).1], [])
  | .al l => (.mk 4 0 0 zeroV (l.den ps).2, [])
  | .an l => (.mk 5 0 0 zeroV (l.den ps).2, [])
  | .ni => (ptNil, [])
  | .co t l => (ptNil, (t.den ps).1 :: (l.den ps).2)
def Sy.ev (es : Nat → Int) : Sy → Int × List Int
  | .lf i => (es i, [])
  | .no t => (otherT (t.ev es).1, [])
  | .al l => (listE 2 1 (l.ev es).2, [])
  | .an l => (listE 1 2 (l.ev es).2, [])
  | .ni => (1, [])
  | .co t l => (1, (t.ev es).1 :: (l.ev es).2)
theorem Sy.ev_den {ps : Nat → Pt} {es : Nat → Int} {r : List Vc} (h : ∀ i, evalT r (ps i) = es i) : ∀ t : Sy, evalT r (t.den ps).1 = (t.ev es).1 ∧ (t.den ps).2.map (evalT r) = (t.ev es).2
  | .lf i => ⟨h i, rfl⟩
  | .no t => by
    have := (Sy.ev_den h t).1
    refine ⟨?_, rfl⟩
    show evalT r (.mk 6 0 0 zeroV [(t.den ps).1]) = otherT (t.ev es).1
    unfold evalT
    simp only [evalL, this]
    rfl
  | .al l => by
    have := (Sy.ev_den h l).2
    refine ⟨?_, rfl⟩
    show evalT r (.mk 4 0 0 zeroV (l.den ps).2) = listE 2 1 (l.ev es).2
    unfold evalT
    rw [evalL_eq, this]
    rfl
  | .an l => by
    have := (Sy.ev_den h l).2
    refine ⟨?_, rfl⟩
    show evalT r (.mk 5 0 0 zeroV (l.den ps).2) = listE 1 2 (l.ev es).2
    unfold evalT
    rw [evalL_eq, this]
    rfl
  | .ni => ⟨by show evalT r ptNil = 1; unfold ptNil evalT; rfl, rfl⟩
  | .co t l => by
    have h1 := (Sy.ev_den h t).1
    have h2 := (Sy.ev_den h l).2
    refine ⟨by show evalT r ptNil = 1; unfold ptNil evalT; rfl, ?_⟩
    show (evalT r (t.den ps).1) :: (l.den ps).2.map (evalT r) = (t.ev es).1 :: (l.ev es).2
    rw [h1, h2]
/-- How deep, and how much, where a leaf is at most 11 deep and has at most 2048. -/
def Sy.dep : Sy → Nat × Nat
  | .lf _ => (11, 0)
  | .no t => (t.dep.1 + 1, 0)
  | .al l => (l.dep.2 + 1, 0)
  | .an l => (l.dep.2 + 1, 0)
  | .ni => (1, 0)
  | .co t l => (1, max t.dep.1 l.dep.2)
def Sy.cnt : Sy → Nat × Nat × Nat
  | .lf _ => (2048, 0, 0)
  | .no t => (t.cnt.1 + 1, 0, 0)
  | .al l => (l.cnt.2.1 + l.cnt.2.2, 0, 0)
  | .an l => (l.cnt.2.1 + l.cnt.2.2, 0, 0)
  | .ni => (0, 0, 0)
  | .co t l => (0, t.cnt.1 + l.cnt.2.1, l.cnt.2.2 + 1)
theorem Sy.dep_den {ps : Nat → Pt} (h : ∀ i, depT (ps i) ≤ 11) : ∀ t : Sy, depT (t.den ps).1 ≤ t.dep.1 ∧ depL (t.den ps).2 ≤ t.dep.2
  | .lf i => ⟨h i, by simp [Sy.den, depL]⟩
  | .no t => by have := (Sy.dep_den h t).1; simp only [Sy.den, Sy.dep, depT, depL]; omega
  | .al l => by have := (Sy.dep_den h l).2; simp only [Sy.den, Sy.dep, depT, depL]; omega
  | .an l => by have := (Sy.dep_den h l).2; simp only [Sy.den, Sy.dep, depT, depL]; omega
  | .ni => by simp [Sy.den, Sy.dep, ptNil, depT, depL]
  | .co t l => by have h1 := (Sy.dep_den h t).1; have h2 := (Sy.dep_den h l).2; simp only [Sy.den, Sy.dep, ptNil, depT, depL]; omega
theorem Sy.cnt_den {ps : Nat → Pt} (h : ∀ i, cntT (ps i) ≤ 2048) : ∀ t : Sy, cntT (t.den ps).1 ≤ t.cnt.1 ∧ cntL (t.den ps).2 ≤ t.cnt.2.1 ∧ (t.den ps).2.length = t.cnt.2.2
  | .lf i => ⟨h i, by simp [Sy.den, cntL, Sy.cnt], rfl⟩
  | .no t => by have := (Sy.cnt_den h t).1; refine ⟨?_, ?_, rfl⟩ <;> simp only [Sy.den, Sy.cnt, cntT, cntL, zeroV, List.length_nil, List.length_cons] <;> omega
  | .al l => by obtain ⟨_, h1, h2⟩ := Sy.cnt_den h l; refine ⟨?_, ?_, rfl⟩ <;> simp only [Sy.den, Sy.cnt, cntT, cntL, zeroV, List.length_nil] <;> omega
  | .an l => by obtain ⟨_, h1, h2⟩ := Sy.cnt_den h l; refine ⟨?_, ?_, rfl⟩ <;> simp only [Sy.den, Sy.cnt, cntT, cntL, zeroV, List.length_nil] <;> omega
  | .ni => by simp [Sy.den, Sy.cnt, ptNil, cntT, cntL, zeroV]
  | .co t l => by have h1 := (Sy.cnt_den h t).1; obtain ⟨_, h2, h3⟩ := Sy.cnt_den h l; simp only [Sy.den, Sy.cnt, ptNil, cntT, cntL, zeroV, List.length_nil, List.length_cons]; omega

/-! What the names stand for. -/
inductive Nk where
  | none
  | args
  | cols
  | pr (t : Sy)
  | row
/-- The cells of a predicate that bear a name: but for the bool. -/
def mP : List (Option Value) := [none, none, none, some (.bool false), none, none, none, none]
def mC : List (Option Value) := [none]
def rootU : Pt → Bool | .mk _ _ _ v _ => v.u
def X7 (ks : Nat → Nk) (ga : World → List Value → Prop) (cols : List Co) (ps : Nat → Pt) (r : List Vc) (o : Nat) (w : World) (l : List Value) : Prop := match ks o with
  | .none => True
  | .args => ga w l
  | .cols => ∃ a n m, l = [.slice a n m] ∧ RdC w (.slice a n m) cols
  | .pr t => FitsM mP l ∧ RdT1 w (t.den ps).1 l
  | .row => ∃ a n m, l = [.slice a n m] ∧ RdRow w (.slice a n m) r
theorem fits_slice (a : Option Addr) (n m : Nat) : FitsM mC [.slice a n m] := .free rfl (fun b h => by cases h) .nil
theorem fits_pred {w : World} {p : Pt} {l : List Value} (h : RdT1 w p l) (hu : rootU p = false) : FitsM mP l := by
  obtain ⟨k, c, o, v, q⟩ := p
  unfold RdT1 at h
  obtain ⟨s, ls, css, rfl, h1, h2, _⟩ := h
  obtain ⟨a, m, h3⟩ := rd_shape8 h1.1
  obtain ⟨a2, m2, h4⟩ := rdS_shape h2
  simp only at h3
  subst h3 h4
  have hu' : v.u = false := hu
  show FitsM mP [.int .i64 k, .int .i64 c, .int .i64 o, .bool v.u, .int .i64 v.k, .int .i64 v.n, .slice a _ m, .slice a2 _ m2]
  rw [hu']
  exact .free rfl (fun b h => by cases h) (.free rfl (fun b h => by cases h) (.free rfl (fun b h => by cases h) (.told rfl (.free rfl (fun b h => by cases h) (.free rfl (fun b h => by cases h) (.free rfl (fun b h => by cases h) (.free rfl (fun b h => by cases h) .nil)))))))
theorem Sy.rootU_den {ps : Nat → Pt} (h : ∀ i, rootU (ps i) = false) : ∀ t : Sy, rootU (t.den ps).1 = false
  | .lf i => h i
  | .no t => rfl
  | .al l => rfl
  | .an l => rfl
  | .ni => rfl
  | .co t l => rfl

section
variable {w0 : World} {ks : Nat → Nk} {ga : World → List Value → Prop} {cols : List Co} {ps : Nat → Pt} {r : List Vc}

theorem arg_cols {c : Ctx} {D : Nat → Prop} {H : T AObj} {w : World} (h : HR (knFx w0 (X7 ks ga cols ps r)) Try.prog c D H w) {n : Nat} (hk : ks n = .cols) {l' : List Value} (hl : LR (zId Try.prog) c D (nmCells n 0 mC) l') :
    ∃ a m k, l' = [.slice a m k] ∧ RdC w (.slice a m k) cols := by
  have hX : ∀ l, X7 ks ga cols ps r n w l → ∃ a m k, l = [.slice a m k] ∧ RdC w (.slice a m k) cols := fun l h => by unfold X7 at h; rw [hk] at h; exact h
  obtain ⟨h1, _⟩ := h.named hl rfl (by decide) fun l h => by obtain ⟨a, m, k, rfl, _⟩ := hX l h; exact fits_slice a m k
  exact hX _ h1
theorem arg_row {c : Ctx} {D : Nat → Prop} {H : T AObj} {w : World} (h : HR (knFx w0 (X7 ks ga cols ps r)) Try.prog c D H w) {n : Nat} (hk : ks n = .row) {l' : List Value} (hl : LR (zId Try.prog) c D (nmCells n 0 mC) l') :
    ∃ a m k, l' = [.slice a m k] ∧ RdRow w (.slice a m k) r := by
  have hX : ∀ l, X7 ks ga cols ps r n w l → ∃ a m k, l = [.slice a m k] ∧ RdRow w (.slice a m k) r := fun l h => by unfold X7 at h; rw [hk] at h; exact h
  obtain ⟨h1, _⟩ := h.named hl rfl (by decide) fun l h => by obtain ⟨a, m, k, rfl, _⟩ := hX l h; exact fits_slice a m k
  exact hX _ h1
theorem arg_pred {c : Ctx} {D : Nat → Prop} {H : T AObj} {w : World} (h : HR (knFx w0 (X7 ks ga cols ps r)) Try.prog c D H w) {n : Nat} {t : Sy} (hk : ks n = .pr t) {l' : List Value} (hl : LR (zId Try.prog) c D (nmCells n 0 mP) l') :
    RdT1 w (t.den ps).1 l' := by
  have hX : ∀ l, X7 ks ga cols ps r n w l → FitsM mP l ∧ RdT1 w (t.den ps).1 l := fun l h => by unfold X7 at h; rw [hk] at h; exact h
  obtain ⟨h1, _⟩ := h.named hl rfl (by decide) fun l h => (hX l h).1
  exact (hX _ h1).2

/-- What is handed back, a predicate of one's own, bears a name. -/
theorem ret_pred {c : Ctx} {D : Nat → Prop} {H : T AObj} {w w' : World} (h : HR (knFx w0 (X7 ks ga cols ps r)) Try.prog c D H w) {n : Nat} {t : Sy} (hk : ks n = .pr t) (hu : rootU (t.den ps).1 = false) {cs : List Value}
    (ha : RdA1 w.heap.size w' (t.den ps).1 cs) (hb : Below w.heap.size w w') :
    ∃ nl fz v', Ending.returned (.agg cs.toArray) = .returned v' ∧ Below w.heap.size w w' ∧ Named (knFx w0 (X7 ks ga cols ps r)) c n (n + 1) nl fz w w' ∧ VR (zId Try.prog) ⟨c.ρ, c.x, nl, fz⟩ (fun o => D o ∨ (n ≤ o ∧ o < n + 1)) (.agg (nmCells n 0 mP).toArray) v' := by
  have hf := fits_pred (RdA1.rd _ ha) hu
  refine ⟨nlOne c n cs, fzOne c w w', _, rfl, hb, named_one h hb fun w2 h2 => ?_, VR.agg_of (nm_lr (.inr ⟨Nat.le_refl _, Nat.lt_succ_self _⟩) hf 0 (fun i v hv => ?_) (by decide))⟩
  · unfold X7
    rw [hk]
    exact ⟨hf, RdA1.rd _ (RdA1.above (K0 := w.heap.size) h2 (Nat.le_refl _) _ ha)⟩
  · show (nlOne c n cs n)[0 + i]? = some v
    unfold nlOne
    rw [if_pos rfl, Nat.zero_add]
    exact hv
/-- .. a slice. -/
theorem ret_slice {c : Ctx} {D : Nat → Prop} {H : T AObj} {w w' : World} (h : HR (knFx w0 (X7 ks ga cols ps r)) Try.prog c D H w) {n : Nat} {a : Option Addr} {m k : Nat} (hb : Below w.heap.size w w')
    (hX : ∀ w2 : World, Above w.heap.size w' w2 → X7 ks ga cols ps r n w2 [.slice a m k]) : Named (knFx w0 (X7 ks ga cols ps r)) c n (n + 1) (nlOne c n [.slice a m k]) (fzOne c w w') w w' ∧ LR (zId Try.prog) ⟨c.ρ, c.x, nlOne c n [.slice a m k], fzOne c w w'⟩ (fun o => D o ∨ (n ≤ o ∧ o < n + 1)) (nmCells n 0 mC) [.slice a m k] := by
  refine ⟨named_one h hb hX, nm_lr (.inr ⟨Nat.le_refl _, Nat.lt_succ_self _⟩) (fits_slice a m k) 0 (fun i v hv => ?_) (by decide)⟩
  show (nlOne c n [.slice a m k] n)[0 + i]? = some v
  unfold nlOne
  rw [if_pos rfl, Nat.zero_add]
  exact hv

/-- A slice of named predicates, in a row of the runner's own. -/
def rowsOf : List Nat → List Value
  | [] => []
  | n :: l => nmCells n 0 mP ++ rowsOf l
noncomputable def chkL (ns : List Nat) (xs : List Value) (s : St) : Bool := match xs with
  | [.slice (some a) n cp] => bif Nat.beq n (lenN ns 0) then bif Nat.ble n cp then (bif Nat.beq a.off 0 then (match cellsAt s.heap ⟨a.block, 0, none⟩ (lenN ns 0 * 8) with | some l => c0L l (rowsOf ns) | _ => false) else false) else false else false
  | _ => false
end

end Go.Proofs.Ytlkjdclhgmkndaa

namespace Go.Proofs.Ytlkjdclhgmkndaa
set_option linter.unusedVariables false
set_option linter.unusedSimpArgs false
open Canon Go.RowKit

theorem vr_agg_inv {Z : Nat} {c : Ctx} {D : Nat → Prop} {l : List Value} {v' : Value} (h : VR Z c D (.agg l.toArray) v') : ∃ l', v' = .agg l'.toArray ∧ LR Z c D l l' := by
  cases h with
  | agg cs cs' hs h => exact ⟨cs'.toList, rfl, ⟨hs, h⟩⟩

theorem kinds_ok (n : Int) : Kinds (kindsOf n) ∧ (kindsOf n).length ≤ 5 := by
  refine ⟨fun c hc => ?_, ?_⟩
  · unfold kindsOf at hc
    obtain ⟨k, _, rfl⟩ := List.mem_map.1 hc
    show _ % 2 + 1 = 1 ∨ _ % 2 + 1 = 2
    omega
  · unfold kindsOf
    rw [List.length_map, List.length_range]
    omega
/-- The columns of a number. -/
def colsN (n : Int) : List Co := colsOf (kindsOf n)
theorem colsN_ok (n : Int) : ColsOk (colsN n) := colsOf_ok (kinds_ok n).1 (kinds_ok n).2
theorem colsN_len (n : Int) : (colsN n).length = (kindsOf n).length + 1 := colsOf_len _

/-- The four arguments of such a law. -/
def ga7 (n row : Int) (va vb : Value) (la lb : List Int) (w : World) (l : List Value) : Prop :=
  l = [.int .i64 n, va, vb, .int .i64 row] ∧ Rd w va (la.map (Value.int .i64)) ∧ Rd w vb (lb.map (Value.int .i64))
def ps7 (n : Int) (la lb : List Int) (d : Nat) (i : Nat) : Pt := predOf (colsN n) (if i = 0 then la else lb) d 0
theorem predOf_rootU (cols : List Co) (l : List Int) (d at_ : Nat) : rootU (predOf cols l d at_) = false := by
  have hv : ∀ n, (cmpV cols n).u = false := fun n => by
    unfold cmpV
    split
    · rfl
    · split
      · rfl
      · unfold valOf
        simp
        split <;> rfl
  have hl : ∀ n k, rootU (leafOf cols n k) = false := fun n k => by
    unfold leafOf
    split
    · rfl
    · split
      · rfl
      · exact hv n
  cases d with
  | zero => unfold predOf; exact hl _ _
  | succ d =>
    unfold predOf
    split
    · rfl
    · split
      · rfl
      · exact hl _ _

/-- What is known of the names of such a law. -/
abbrev Phi7 (w0 : World) (ks : Nat → Nk) (n row : Int) (va vb : Value) (la lb : List Int) (d : Nat) : Fx := knFx w0 (X7 ks (ga7 n row va vb la lb) (colsN n) (ps7 n la lb d) (rowOf (colsN n) row))

section
variable {w0 : World} {ks : Nat → Nk} {n row : Int} {va vb : Value} {la lb : List Int} {d : Nat}

theorem arg_cell {c : Ctx} {D : Nat → Prop} {H : T AObj} {w : World} (h : HR (Phi7 w0 ks n row va vb la lb d) Try.prog c D H w) {m j : Nat} (hk : ks m = .args) (hj : j < 16) {v' : Value} (hv : VR (zId Try.prog) c D (.iface (16 * m + j) (.chan none)) v') :
    ga7 n row va vb la lb w (c.nv m) ∧ (c.nv m)[j]? = some v' := by
  obtain ⟨h1, h2⟩ := cell_inv hv
  have e1 : (16 * m + j) / 16 = m := by omega
  have e2 : (16 * m + j) % 16 = j := by omega
  rw [e1] at h1 h2
  rw [e2] at h2
  have h3 := h.known (o := m) (fun e => by rw [e] at h2; simp at h2)
  unfold X7 at h3
  rw [hk] at h3
  exact ⟨h3, h2⟩

theorem prom_schema {m k : Nat} (hk : ks m = .args) (hr : ks k = .cols) : PromE (Phi7 w0 ks n row va vb la lb d) Try.prog 15 (fun xs _ => cL xs [.iface (16 * m + 0) (.chan none)]) k (.agg (nmCells k 0 mC).toArray) := by
  intro c D w args args' s hc hH hn hA
  rw [cL_spec hc] at hA
  obtain ⟨v1, r1, rfl, a1, a2⟩ := hA.inv_cons
  rw [a2.inv_nil]
  obtain ⟨⟨g1, _⟩, g2⟩ := arg_cell hH hk (by decide) a1
  rw [g1] at g2
  cases Option.some.inj g2
  refine (schema_is n w).mono ?_
  rintro e w' ⟨ao, cap, l, rfl, h2, h3, h4, h5, rfl⟩
  have hcols : ∀ w2 : World, Above w.heap.size w' w2 → RdC w2 (.slice ao ((kindsOf n).length + 1) cap) (colsN n) := fun w2 h2 => by
    have := rdSK_own (ls := (colsN n).map Co.cells) (by rw [flatC_eq] at h4; exact h4) (by rw [List.length_map, colsN_len]) (fun t ht => by obtain ⟨x, _, rfl⟩ := List.mem_map.1 ht; rfl)
    exact (this.above h2 (Nat.le_refl _)).rd
  obtain ⟨k1, k2⟩ := ret_slice (n := k) hH h5 (a := ao) (m := (kindsOf n).length + 1) (k := cap) fun w2 h2 => by unfold X7; rw [hr]; exact ⟨_, _, _, rfl, hcols w2 h2⟩
  exact ⟨_, _, _, rfl, h5, k1, VR.agg_of k2⟩

theorem prom_pred {m k : Nat} {i : Nat} (hm : ks m = .cols) {ma : Nat} (hma : ks ma = .args) (hr : ks k = .pr (.lf i)) (hi : i = 0 ∨ i = 1) (hd : d ≤ 8) (dn : Int) (hdn : dn = (d : Int)) :
    PromE (Phi7 w0 ks n row va vb la lb d) Try.prog 23 (fun xs _ => cL xs [.agg (nmCells m 0 mC).toArray, .iface (16 * ma + (i + 1)) (.chan none), .int .i64 0, .int .i64 dn]) k (.agg (nmCells k 0 mP).toArray) := by
  subst hdn
  intro c D w args args' s hc hH hn hA
  rw [cL_spec hc] at hA
  obtain ⟨v1, r1, rfl, a1, hA⟩ := hA.inv_cons
  obtain ⟨v2, r2, rfl, a2, hA⟩ := hA.inv_cons
  obtain ⟨v3, r3, rfl, a3, hA⟩ := hA.inv_cons
  obtain ⟨v4, r4, rfl, a4, hA⟩ := hA.inv_cons
  rw [hA.inv_nil, a3.ground0 rfl, a4.ground0 rfl]
  obtain ⟨l', rfl, hl⟩ := vr_agg_inv a1
  obtain ⟨ca, cm, ck, rfl, hcols⟩ := arg_cols hH hm hl
  obtain ⟨⟨g1, g3, g4⟩, g2⟩ := arg_cell hH hma (by omega) a2
  rw [g1] at g2
  have hv2 : ∃ ll, Rd w v2 (ll.map (Value.int .i64)) ∧ ll = if i = 0 then la else lb := by
    rcases hi with rfl | rfl
    · cases Option.some.inj g2; exact ⟨la, g3, rfl⟩
    · cases Option.some.inj g2; exact ⟨lb, g4, rfl⟩
  obtain ⟨ll, hrd, hll⟩ := hv2
  have hrd2 := hrd
  obtain ⟨oa, oc, rfl, _⟩ := hrd2
  rw [List.length_map]
  have hOK := colsN_ok n
  have h4d : (0 + 1) * 4 ^ d ≤ 100000 := by
    have : 4 ^ d ≤ 4 ^ 8 := Nat.pow_le_pow_right (by decide) hd
    omega
  refine (lawpred_any (colsN n) hOK.ne hOK.le ll d (by omega) 0 (.slice ca cm ck) oa ll.length oc w h4d rfl hcols (by rw [List.length_map] at hrd; exact hrd)).mono ?_
  rintro e w' ⟨cs', rfl, ha, hb⟩
  have e1 : predOf (colsN n) ll d 0 = ((Sy.lf i).den (ps7 n la lb d)).1 := by rw [hll]; rfl
  rw [e1] at ha
  exact ret_pred hH hr (predOf_rootU _ _ _ _) ha hb

theorem prom_row {m k : Nat} (hm : ks m = .cols) {ma : Nat} (hma : ks ma = .args) (hr : ks k = .row) :
    PromE (Phi7 w0 ks n row va vb la lb d) Try.prog 16 (fun xs _ => cL xs [.agg (nmCells m 0 mC).toArray, .iface (16 * ma + 3) (.chan none)]) k (.iface (16 * k + 0) (.chan none)) := by
  intro c D w args args' s hc hH hn hA
  rw [cL_spec hc] at hA
  obtain ⟨v1, r1, rfl, a1, hA⟩ := hA.inv_cons
  obtain ⟨v2, r2, rfl, a2, hA⟩ := hA.inv_cons
  rw [hA.inv_nil]
  obtain ⟨l', rfl, hl⟩ := vr_agg_inv a1
  obtain ⟨ca, cm, ck, rfl, hcols⟩ := arg_cols hH hm hl
  obtain ⟨⟨g1, g3, g4⟩, g2⟩ := arg_cell hH hma (by omega) a2
  rw [g1] at g2
  cases Option.some.inj g2
  refine (row_is (.slice ca cm ck) (colsN n) row w hcols (colsN_ok n).le).mono ?_
  rintro e w' ⟨u, l, rfl, h1, h2, h3, h4⟩
  obtain ⟨oa, oc, rfl⟩ := oinv_shape h2
  have hX : ∀ w2 : World, Above w.heap.size w' w2 → X7 ks (ga7 n row va vb la lb) (colsN n) (ps7 n la lb d) (rowOf (colsN n) row) k w2 [.slice oa l.length oc] := fun w2 hw2 => by
    unfold X7
    rw [hr]
    refine ⟨_, _, _, rfl, l, h1, ?_, fun t ht => ?_⟩
    · exact ((rdSK_own (ls := l.map cellsV) h2.own (by rw [List.length_map]) (fun t ht => by obtain ⟨x, _, rfl⟩ := List.mem_map.1 ht; rfl)).above hw2 (Nat.le_refl _)).rd
    · have h5 := h2.ok t ht
      exact ⟨((rdB_fresh h5.1 (h4 t ht)).above hw2 (Nat.le_refl _)).rd (Above.refl _ _), h5.2⟩
  obtain ⟨k1, k2⟩ := ret_slice (n := k) hH h3 hX
  obtain ⟨v', r', e1, k3, k4⟩ := k2.inv_cons
  cases e1
  exact ⟨_, _, _, rfl, h3, k1, k3⟩

theorem prom_not {m k : Nat} {t : Sy} (hm : ks m = .pr t) (hr : ks k = .pr (.no t)) (hd : t.dep.1 ≤ 1000) (hc : t.cnt.1 ≤ 65536) (hdd : d ≤ 4) :
    PromE (Phi7 w0 ks n row va vb la lb d) Try.prog 28 (fun xs _ => cL xs [.agg (nmCells m 0 mP).toArray]) k (.agg (nmCells k 0 mP).toArray) := by
  intro c D w args args' s hch hH hn hA
  rw [cL_spec hch] at hA
  obtain ⟨v1, r1, rfl, a1, hA⟩ := hA.inv_cons
  rw [hA.inv_nil]
  obtain ⟨l', rfl, hl⟩ := vr_agg_inv a1
  have hp := arg_pred hH hm hl
  have hsm : ∀ i, depT (ps7 n la lb d i) ≤ 11 ∧ cntT (ps7 n la lb d i) ≤ 2048 := fun i => by
    have h1 := predOf_small (colsN n) (if i = 0 then la else lb) d 0
    have : 4 ^ d ≤ 4 ^ 4 := Nat.pow_le_pow_right (by decide) hdd
    unfold ps7
    omega
  refine (pnot_any (t.den (ps7 n la lb d)).1 (fpred_any _ (Nat.le_trans (Sy.dep_den (fun i => (hsm i).1) t).1 hd) (Nat.le_trans (Sy.cnt_den (fun i => (hsm i).2) t).1 hc)) l' w hp).mono ?_
  rintro e w' ⟨cs', rfl, ha, hb⟩
  exact ret_pred (t := .no t) hH hr rfl ha hb

theorem prom_eval {m k : Nat} {t : Sy} (hm : ks m = .pr t) (hk : ks k = .row) (es : Nat → Int) (hes : ∀ i, evalT (rowOf (colsN n) row) (ps7 n la lb d i) = es i) (hd : t.dep.1 ≤ 1000) (hc : t.cnt.1 ≤ 65536) (hdd : d ≤ 4) :
    PromV (Phi7 w0 ks n row va vb la lb d) Try.prog 25 (fun xs _ => cL xs [.agg (nmCells m 0 mP).toArray, .iface (16 * k + 0) (.chan none)]) (.int .i64 (t.ev es).1) := by
  intro c D w args args' s hch hH hA
  rw [cL_spec hch] at hA
  obtain ⟨v1, r1, rfl, a1, hA⟩ := hA.inv_cons
  have hA2 := hA
  obtain ⟨v2, r2, rfl, a2, hA⟩ := hA.inv_cons
  rw [hA.inv_nil]
  rw [hA.inv_nil] at hA2
  obtain ⟨l', rfl, hl⟩ := vr_agg_inv a1
  have hp := arg_pred hH hm hl
  obtain ⟨ra, rm, rk, e2, hrow⟩ := arg_row hH hk (l' := [v2]) hA2
  cases e2
  have hsm : ∀ i, depT (ps7 n la lb d i) ≤ 11 ∧ cntT (ps7 n la lb d i) ≤ 2048 := fun i => by
    have h1 := predOf_small (colsN n) (if i = 0 then la else lb) d 0
    have : 4 ^ d ≤ 4 ^ 4 := Nat.pow_le_pow_right (by decide) hdd
    unfold ps7
    omega
  have hlen : (rowOf (colsN n) row).length ≤ 1000000 := by rw [rowOf_len]; have := (colsN_ok n).le; omega
  rw [← (Sy.ev_den hes t).1]
  exact peval_any l' _ _ _ w hp hrow hlen (Nat.le_trans (Sy.dep_den (fun i => (hsm i).1) t).1 hd) (Nat.le_trans (Sy.cnt_den (fun i => (hsm i).2) t).1 hc)

theorem prom_awake : PromV (Phi7 w0 ks n row va vb la lb d) Try.prog 29 (fun xs _ => noArg xs) (.bool true) := by
  intro c D w args args' s hch hH hA
  have : args = [] := by cases args with
    | nil => rfl
    | cons a l => cases hch
  subst this
  rw [hA.inv_nil]
  exact awake7_any w
end

end Go.Proofs.Ytlkjdclhgmkndaa

namespace Go.Proofs.Ytlkjdclhgmkndaa
set_option linter.unusedVariables false
set_option linter.unusedSimpArgs false
open Canon Go.RowKit

/-- The names of these predicates, one behind the other. -/
def NamesOf (ks : Nat → Nk) : List Nat → Sy → Prop
  | [], .ni => True
  | n :: l, .co t r => ks n = .pr t ∧ NamesOf ks l r
  | _, _ => False

section
variable {w0 : World} {ks : Nat → Nk} {n row : Int} {va vb : Value} {la lb : List Int} {d : Nat}

theorem rows_rd {c : Ctx} {D : Nat → Prop} {H : T AObj} {w : World} (h : HR (Phi7 w0 ks n row va vb la lb d) Try.prog c D H w) : ∀ (ns : List Nat) (tl : Sy) {l' : List Value}, NamesOf ks ns tl → LR (zId Try.prog) c D (rowsOf ns) l' →
    ∃ css, l' = css.flatten ∧ css.length = ns.length ∧ (∀ t ∈ css, t.length = 8) ∧ RdTs w (tl.den (ps7 n la lb d)).2 css
  | [], .ni, l', _, hl => by
    rw [hl.inv_nil]
    exact ⟨[], rfl, rfl, (fun t h => by cases h), by show RdTs w [] []; unfold RdTs; trivial⟩
  | m :: ns, .co t r, l', hn, hl => by
    have h8 : (nmCells m 0 mP).length = 8 := by rw [nmCells_len]; rfl
    have hl1 : LR (zId Try.prog) c D (nmCells m 0 mP) (l'.take 8) := by
      have := hl.take 8
      rw [show rowsOf (m :: ns) = nmCells m 0 mP ++ rowsOf ns from rfl, List.take_append_of_le_length (by omega), List.take_of_length_le (by omega)] at this
      exact this
    have hl2 : LR (zId Try.prog) c D (rowsOf ns) (l'.drop 8) := by
      have := hl.drop 8
      rw [show rowsOf (m :: ns) = nmCells m 0 mP ++ rowsOf ns from rfl, ← h8, List.drop_left, h8] at this
      exact this
    have hp := arg_pred h hn.1 hl1
    obtain ⟨css, e1, e2, e3, e4⟩ := rows_rd h ns r hn.2 hl2
    refine ⟨l'.take 8 :: css, ?_, by rw [List.length_cons, e2]; rfl, fun u hu => ?_, ?_⟩
    · rw [List.flatten_cons, ← e1, List.take_append_drop]
    · rcases List.mem_cons.1 hu with h1 | h1
      · rw [h1, ← hl1.1, h8]
      · exact e3 u h1
    · show RdTs w ((t.den (ps7 n la lb d)).1 :: (r.den (ps7 n la lb d)).2) (l'.take 8 :: css)
      unfold RdTs
      exact ⟨hp, e4⟩
  | [], .lf _, _, hn, _ => hn.elim
  | [], .no _, _, hn, _ => hn.elim
  | [], .al _, _, hn, _ => hn.elim
  | [], .an _, _, hn, _ => hn.elim
  | [], .co _ _, _, hn, _ => hn.elim
  | _ :: _, .lf _, _, hn, _ => hn.elim
  | _ :: _, .no _, _, hn, _ => hn.elim
  | _ :: _, .al _, _, hn, _ => hn.elim
  | _ :: _, .an _, _, hn, _ => hn.elim
  | _ :: _, .ni, _, hn, _ => hn.elim

/-- Such a row, handed over. -/
theorem arg_rows {c : Ctx} {D : Nat → Prop} {s : St} {w : World} (h : HR (Phi7 w0 ks n row va vb la lb d) Try.prog c D s.heap w) {ns : List Nat} {tl : Sy} (hn : NamesOf ks ns tl) (hne : 0 < ns.length) {xs xs' : List Value} (hc : chkL ns xs s = true) (hl : LR (zId Try.prog) c D xs xs') :
    ∃ v css, xs' = [v] ∧ RdS w 8 v css ∧ RdTs w (tl.den (ps7 n la lb d)).2 css := by
  unfold chkL at hc
  split at hc
  · rename_i a k cap
    obtain ⟨h1, hc⟩ := bif_tt hc
    obtain ⟨h4, hc⟩ := bif_tt hc
    obtain ⟨h2, hc⟩ := bif_tt hc
    rw [Nat.ble_eq] at h4
    have h1 := Nat.eq_of_beq_eq_true h1
    have h2 := Nat.eq_of_beq_eq_true h2
    rw [lenN_eq, Nat.add_zero] at h1
    split at hc
    · rename_i l hcl
      rw [lenN_eq, Nat.add_zero] at hcl
      have h3 := c0L_spec hc
      obtain ⟨v', r', rfl, a1, a2⟩ := hl.inv_cons
      rw [a2.inv_nil]
      subst h3
      obtain ⟨l', q1, q2, q3, _⟩ := read_cells h hcl
      obtain ⟨css, e1, e2, e3, e4⟩ := rows_rd h ns tl hn q1
      cases a1 with
      | z0 a' => omega
      | z1 a' cp' => omega
      | sl o off l2 cp' hd hz =>
        simp only at h2
        subst h2
        refine ⟨_, css, rfl, ?_, e4⟩
        refine ⟨some ⟨c.ρ o, 0, none⟩, _, by rw [e2, ← h1], ⟨(fun h => by cases h), ?_⟩, fun j t ht => ⟨_, _, rfl, fun i u hu => ?_⟩⟩
        · rw [e2, ← h1]; exact Nat.le_trans h4 (Nat.le_add_right _ _)
        · have := q3 (j * 8 + i) u (by rw [e1]; exact flatten_at css 8 e3 j t i u ht hu)
          rw [Nat.zero_add] at this ⊢
          exact this
    · cases hc
  · cases hc

theorem small7 (hdd : d ≤ 4) : ∀ i, depT (ps7 n la lb d i) ≤ 11 ∧ cntT (ps7 n la lb d i) ≤ 2048 := fun i => by
  have h1 := predOf_small (colsN n) (if i = 0 then la else lb) d 0
  have : 4 ^ d ≤ 4 ^ 4 := Nat.pow_le_pow_right (by decide) hdd
  unfold ps7
  omega
theorem list_small {tl : Sy} (hdd : d ≤ 4) (hd : tl.dep.2 ≤ 1000) (hc : tl.cnt.2.1 ≤ 65536) : ∀ (i : Nat) (q : Pt), (tl.den (ps7 n la lb d)).2[i]? = some q → PredOK q := fun i q hq => by
  have h1 := (Sy.dep_den (fun i => (small7 (n := n) (la := la) (lb := lb) hdd i).1) tl).2
  have h2 := (Sy.cnt_den (fun i => (small7 (n := n) (la := la) (lb := lb) hdd i).2) tl).2.1
  exact fpred_any q (Nat.le_trans (depL_mem hq) (Nat.le_trans h1 hd)) (Nat.le_trans (cntL_mem hq) (Nat.le_trans h2 hc))

theorem prom_all {ns : List Nat} {tl : Sy} {k : Nat} (hn : NamesOf ks ns tl) (hne : 0 < ns.length) (hr : ks k = .pr (.al tl)) (hd : tl.dep.2 ≤ 1000) (hc : tl.cnt.2.1 ≤ 65536) (hl : tl.cnt.2.2 ≤ 1000000) (hdd : d ≤ 4) :
    PromE (Phi7 w0 ks n row va vb la lb d) Try.prog 26 (chkL ns) k (.agg (nmCells k 0 mP).toArray) := by
  intro c D w args args' s hch hH hnD hA
  obtain ⟨v, css, rfl, h1, h2⟩ := arg_rows hH hn hne hch hA
  have hlen := (Sy.cnt_den (fun i => (small7 (n := n) (la := la) (lb := lb) hdd i).2) tl).2.2
  refine (pall_any (tl.den (ps7 n la lb d)).2 (by omega) (list_small hdd hd hc) v css w h1 h2).mono ?_
  rintro e w' ⟨cs', rfl, ha, hb⟩
  exact ret_pred (t := .al tl) hH hr rfl ha hb
theorem prom_any {ns : List Nat} {tl : Sy} {k : Nat} (hn : NamesOf ks ns tl) (hne : 0 < ns.length) (hr : ks k = .pr (.an tl)) (hd : tl.dep.2 ≤ 1000) (hc : tl.cnt.2.1 ≤ 65536) (hl : tl.cnt.2.2 ≤ 1000000) (hdd : d ≤ 4) :
    PromE (Phi7 w0 ks n row va vb la lb d) Try.prog 27 (chkL ns) k (.agg (nmCells k 0 mP).toArray) := by
  intro c D w args args' s hch hH hnD hA
  obtain ⟨v, css, rfl, h1, h2⟩ := arg_rows hH hn hne hch hA
  have hlen := (Sy.cnt_den (fun i => (small7 (n := n) (la := la) (lb := lb) hdd i).2) tl).2.2
  refine (pany_any (tl.den (ps7 n la lb d)).2 (by omega) (list_small hdd hd hc) v css w h1 h2).mono ?_
  rintro e w' ⟨cs', rfl, ha, hb⟩
  exact ret_pred (t := .an tl) hH hr rfl ha hb
end

end Go.Proofs.Ytlkjdclhgmkndaa

namespace Go.Proofs.Ytlkjdclhgmkndaa
set_option linter.unusedVariables false
set_option linter.unusedSimpArgs false
open Canon Go.RowKit

theorem listE_three (s v : Int) (l : List Int) (hs : s = 1 ∨ s = 2 ∨ s = 3) (hv : v = 1 ∨ v = 2 ∨ v = 3) : listE s v l = 1 ∨ listE s v l = 2 ∨ listE s v l = 3 := by
  unfold listE
  split
  · exact hs
  · split
    · exact .inr (.inr rfl)
    · exact hv
theorem evalT_three (r : List Vc) : ∀ p : Pt, evalT r p = 1 ∨ evalT r p = 2 ∨ evalT r p = 3
  | .mk k c o v l => by
    unfold evalT
    split
    · exact .inl rfl
    · split
      · unfold cmpE verdB
        split
        · exact .inr (.inr rfl)
        · split
          · exact .inr (.inr rfl)
          · split
            · exact .inl rfl
            · exact .inr (.inl rfl)
      · split
        · unfold nullE verdB
          split
          · exact .inr (.inr rfl)
          · split
            · exact .inl rfl
            · exact .inr (.inl rfl)
        · split
          · exact listE_three _ _ _ (.inr (.inl rfl)) (.inl rfl)
          · split
            · exact listE_three _ _ _ (.inl rfl) (.inr (.inl rfl))
            · split
              · rw [evalL_eq]
                cases l with
                | nil => exact .inr (.inr rfl)
                | cons q t =>
                  cases t with
                  | nil =>
                    rcases evalT_three r q with h | h | h <;> simp [h, otherT]
                  | cons q2 t2 => exact .inr (.inr rfl)
              · exact .inr (.inr rfl)

/-- The arguments of such a law, as the runner is told them. -/
def args7 : List Value := [.iface (16 * 8000000 + 0) (.chan none), .iface (16 * 8000000 + 1) (.chan none), .iface (16 * 8000000 + 2) (.chan none), .iface (16 * 8000000 + 3) (.chan none)]
def nv7 (l : List Value) (o : Nat) : List Value := if o = 8000000 then l else []
theorem args7_lr {P : Program} {w : World} (n row : Int) (a1 a2 : Option Addr) (l1 c1 l2 c2 : Nat) :
    LR (zId P) (knCtx w (nv7 [.int .i64 n, .slice a1 l1 c1, .slice a2 l2 c2, .int .i64 row])) (symDom P) args7 [.int .i64 n, .slice a1 l1 c1, .slice a2 l2 c2, .int .i64 row] := by
  have hf : FitsM [none, none, none, none] [.int .i64 n, .slice a1 l1 c1, .slice a2 l2 c2, .int .i64 row] :=
    .free rfl (fun b h => by cases h) (.free rfl (fun b h => by cases h) (.free rfl (fun b h => by cases h) (.free rfl (fun b h => by cases h) .nil)))
  exact nm_lr (n := 8000000) (.inr (by decide)) hf 0 (fun i v hv => by rw [Nat.zero_add]; exact hv) (by decide)
theorem nv7_ok {ks : Nat → Nk} (hk : ks 8000000 = .args) {n row : Int} {va vb : Value} {la lb : List Int} {cols : List Co} {ps : Nat → Pt} {r : List Vc} {w : World} (h1 : Rd w va (la.map (Value.int .i64))) (h2 : Rd w vb (lb.map (Value.int .i64))) :
    ∀ i, nv7 [.int .i64 n, va, vb, .int .i64 row] i ≠ [] → ∀ w2, Below w.heap.size w w2 → X7 ks (ga7 n row va vb la lb) cols ps r i w2 (nv7 [.int .i64 n, va, vb, .int .i64 row] i) := by
  intro i hi w2 hb
  by_cases h : i = 8000000
  · subst h
    unfold X7
    rw [hk]
    exact ⟨rfl, h1.kept hb, h2.kept hb⟩
  · unfold nv7 at hi
    rw [if_neg h] at hi
    exact absurd rfl hi

end Go.Proofs.Ytlkjdclhgmkndaa
