import Derived.Test.YtmpgnjhgegbdkaaGreatLsix
import Derived.Deep.RegionHeld3
import Derived.BigRegion
import Derived.Deep.DeepCutAuto
set_option linter.unusedVariables false
set_option linter.unusedSimpArgs false
set_option maxHeartbeats 8000000
set_option maxRecDepth 100000
open Go.Lib (hid)
namespace Go.Proofs.YtmpgnjhgegbdkaaGreat
open Go.RowKit
open _root_.Nat renaming le_refl -> Qa, add_zero -> Qj, le_trans -> Qo, eq_zero_or_pos -> Qq, zero_le -> Qr
open _root_.List renaming getElem?_eq_getElem -> Qb, length_map -> Qc, take_of_length_le -> Qg, getD_eq_getElem?_getD -> Qi, length_eq_zero_iff -> Qk, getElem?_cons_zero -> Ql, take_succ_cons -> Qm, getElem?_map -> Qp, length_cons -> Qs, take_append -> Qu, flatten -> Qw, take_add_one -> Qx, flatten_append -> Qy
open Go.World renaming grownBy_alloc -> Qd, setCell -> Qe, block_lt_of_cell? -> Qt
open _root_.Array renaming getElem?_eq_some_iff -> Qf
open Go.RowKit.Below renaming refl -> Qh, trans -> Qn
open _root_.Int renaming le_refl -> Qv
open Go.IntWalk renaming i64_in -> Qz
open Go renaming cell_of_row -> Ja, frozen_of_row -> Jb, heap_setCell_same -> Jc, heap_setCell_other -> Jd, heap_alloc_new -> Je
inductive Pt where
 | mk (k c o : Int) (v : Vc) (l : List Pt)
def cellsP (k c o : Int) (v : Vc) (s ls : Value) : List Value := [.int .i64 k, .int .i64 c, .int .i64 o, .bool v.u, .int .i64 v.k, .int .i64 v.n, s, ls]
def aggP (k c o : Int) (v : Vc) (s ls : Value) : Value := .agg #[.int .i64 k, .int .i64 c, .int .i64 o, .bool v.u, .int .i64 v.k, .int .i64 v.n, s, ls]
mutual
def RdT1 (w : World) : Pt -> List Value -> Prop
 | .mk k c o v l, cs => ∃ s ls css, cs = cellsP k c o v s ls ∧ OkV w (v, s) ∧ RdS w 8 ls css ∧ RdTs w l css
def RdTs (w : World) : List Pt -> List (List Value) -> Prop
 | [], [] => True
 | q :: r, cs :: t => RdT1 w q cs ∧ RdTs w r t
 | [], _ :: _ => False
 | _ :: _, [] => False
end
mutual
theorem RdT1.kept {w w' : World} (hb : Below w.heap.size w w') : ∀ (p : Pt) {cs : List Value}, RdT1 w p cs -> RdT1 w' p cs
 | .mk k c o v l, cs, h => by
  unfold RdT1 at h ⊢
  obtain ⟨s, ls, css, h1, h2, h3, h4⟩ := h
  exact ⟨s, ls, css, h1, h2.kept hb, h3.kept hb, RdTs.kept hb l h4⟩
theorem RdTs.kept {w w' : World} (hb : Below w.heap.size w w') : ∀ (l : List Pt) {css : List (List Value)}, RdTs w l css -> RdTs w' l css
 | [], [], _ => by unfold RdTs; trivial
 | q :: r, cs :: t, h => by
  unfold RdTs at h ⊢
  exact ⟨RdT1.kept hb q h.1, RdTs.kept hb r h.2⟩
 | [], _ :: _, h => by unfold RdTs at h; exact h.elim
 | _ :: _, [], h => by unfold RdTs at h; exact h.elim
end
theorem zBy {w : World} : ∀ {l : List Pt} {css : List (List Value)}, RdTs w l css -> css.length = l.length
 | [], [], _ => rfl
 | q :: r, cs :: t, h => by unfold RdTs at h; rw [Qs, Qs, zBy h.2]
 | [], _ :: _, h => by unfold RdTs at h; exact h.elim
 | _ :: _, [], h => by unfold RdTs at h; exact h.elim
theorem zFq {w : World} : ∀ {l : List Pt} {css : List (List Value)}, RdTs w l css -> ∀ {k : Nat} {q : Pt}, l[k]? = some q -> ∃ cs, css[k]? = some cs ∧ RdT1 w q cs
 | [], [], _, k, q, hk => by simp at hk
 | p :: r, cs :: t, h, 0, q, hk => by
  unfold RdTs at h
  simp only [Ql, Option.some.injEq] at hk
  subst hk
  exact ⟨cs, rfl, h.1⟩
 | p :: r, cs :: t, h, k + 1, q, hk => by
  unfold RdTs at h
  rw [List.getElem?_cons_succ] at hk ⊢
  exact zFq h.2 hk
 | [], _ :: _, h, _, _, _ => by unfold RdTs at h; exact h.elim
 | _ :: _, [], h, _, _, _ => by unfold RdTs at h; exact h.elim
mutual
def depT : Pt -> Nat
 | .mk _ _ _ _ l => depL l + 1
def depL : List Pt -> Nat
 | [] => 0
 | q :: r => max (depT q) (depL r)
end
mutual
def cntT : Pt -> Nat
 | .mk _ _ _ v l => l.length + v.b.length + cntL l
def cntL : List Pt -> Nat
 | [] => 0
 | q :: r => cntT q + cntL r
end
def holdsB (o d : Int) : Bool := if o = 1 then d == 0 else if o = 2 then d != 0 else if o = 3 then decide (d < 0) else if o = 4 then decide (d <= 0) else if o = 5 then decide (0 < d) else if o = 6 then decide (0 <= d) else false
def verdB (b : Bool) : Int := if b = true then 1 else 2
def otherT (v : Int) : Int := if v = 1 then 2 else if v = 2 then 1 else v
def colT (r : List Vc) (c : Int) : Option Vc := if c < 0 then none else r[c.toNat]?
def cmpE (r : List Vc) (c o : Int) (v : Vc) : Int := match colT r c with
 | none => 3
 | some x => if x.u = true then 3 else verdB (holdsB o (cmpT x v))
def nullE (r : List Vc) (c : Int) : Int := match colT r c with
 | none => 3
 | some x => verdB x.u
def listE (s w : Int) (vs : List Int) : Int := if s ∈ vs then s else if 3 ∈ vs then 3 else w
mutual
def evalT (r : List Vc) : Pt -> Int
 | .mk k c o v l =>
  if k = 1 then 1 else if k = 2 then cmpE r c o v else if k = 3 then nullE r c else if k = 4 then listE 2 1 (evalL r l) else if k = 5 then listE 1 2 (evalL r l)
  else if k = 6 then (match evalL r l with | [x] => otherT x | _ => 3) else 3
def evalL (r : List Vc) : List Pt -> List Int
 | [] => []
 | q :: t => evalT r q :: evalL r t
end
theorem zNg {l : List Pt} {k : Nat} {q : Pt} (h : l[k]? = some q) : depT q <= depL l := by
 induction l generalizing k with
 | nil => simp at h
 | cons p r ih =>
  cases k with
  | zero =>
   simp only [Ql, Option.some.injEq] at h
   subst h
   unfold depL; omega
  | succ k =>
   have := ih (by simpa using h)
   unfold depL; omega
theorem zRy {l : List Pt} {k : Nat} {q : Pt} (h : l[k]? = some q) : cntL (l.take (k + 1)) = cntL (l.take k) + cntT q := by
 induction l generalizing k with
 | nil => simp at h
 | cons p r ih =>
  cases k with
  | zero =>
   simp only [Ql, Option.some.injEq] at h
   subst h
   simp [cntL]
  | succ k =>
   have := ih (k := k) (by simpa using h)
   rw [Qm, Qm, cntL, cntL, this]; omega
theorem zVo (l : List Pt) (k : Nat) : cntL (l.take k) <= cntL l := by
 induction l generalizing k with
 | nil => simp
 | cons p r ih =>
  cases k with
  | zero => simp [cntL]
  | succ k => rw [Qm, cntL, cntL]; have := ih k; omega
theorem zRz (o d : Int) (w : World) : Calls Tryz.prog 144 #[.int .i64 o, .int .i64 d] w fun e w' => e = .returned (.bool (holdsB o d)) ∧ w = w' := by
 rcases (by omega : o = 1 ∨ o = 2 ∨ o = 3 ∨ o = 4 ∨ o = 5 ∨ o = 6 ∨ (o ≠ 1 ∧ o ≠ 2 ∧ o ≠ 3 ∧ o ≠ 4 ∧ o ≠ 5 ∧ o ≠ 6)) with rfl | rfl | rfl | rfl | rfl | rfl | ⟨h1, h2, h3, h4, h5, h6⟩
 rotate_right
 ·have HB := hid (show holdsB o d = false by unfold holdsB; simp [h1, h2, h3, h4, h5, h6])
  replace h1 : (o == 1) = false := by rw [beq_eq_false_iff_ne]; exact h1
  replace h2 : (o == 2) = false := by rw [beq_eq_false_iff_ne]; exact h2
  replace h3 : (o == 3) = false := by rw [beq_eq_false_iff_ne]; exact h3
  replace h4 : (o == 4) = false := by rw [beq_eq_false_iff_ne]; exact h4
  replace h5 : (o == 5) = false := by rw [beq_eq_false_iff_ne]; exact h5
  replace h6 : (o == 6) = false := by rw [beq_eq_false_iff_ne]; exact h6
  go_enter Tryz.func144, Tryz.ntmps144
  go_wp2_with fail
  go_ret
  exact ⟨by rw [HB.out] <;> rfl, rfl⟩
 all_goals
  go_enter Tryz.func144, Tryz.ntmps144
  go_wp2_with fail
  go_ret
  exact ⟨by unfold holdsB; simp, rfl⟩
theorem zOy (b : Bool) (w : World) : Calls Tryz.prog 143 #[.bool b] w fun e w' => e = .returned (.int .i64 (verdB b)) ∧ w = w' := by
 cases b
 all_goals
  go_enter Tryz.func143, Tryz.ntmps143
  go_wp2_with fail
  go_ret
  exact ⟨rfl, rfl⟩
theorem zQf (r : List Vc) (c : Int) : (c < 0 ∧ colT r c = none) ∨ (0 <= c ∧ (r.length : Int) <= c ∧ colT r c = none) ∨ ∃ n : Nat, ∃ x, c = (n : Int) ∧ n < r.length ∧ r[n]? = some x ∧ colT r c = some x := by
 by_cases h : c < 0
 ·exact .inl ⟨h, by unfold colT; rw [if_pos h]⟩
 ·by_cases h2 : (r.length : Int) <= c
  ·exact .inr (.inl ⟨by omega, h2, by unfold colT; rw [if_neg h]; exact List.getElem?_eq_none (by omega)⟩)
  ·have hlt : c.toNat < r.length := by omega
   exact .inr (.inr ⟨c.toNat, r[c.toNat], by omega, hlt, Qb hlt, by unfold colT; rw [if_neg h, Qb hlt]⟩)
theorem zOz (k c o : Int) (v : Vc) (s ls rv : Value) (r : List Vc) (w : World) (hv : OkV w (v, s)) (hr : RdRow w rv r) (hl : r.length <= 1000000) :
  Calls Tryz.prog 109 #[aggP k c o v s ls, rv] w fun e w' => e = .returned (.int .i64 (cmpE r c o v)) ∧ Below w.heap.size w w' := by
 obtain ⟨l, rfl, hr⟩ := hr
 rw [Qc] at hl
 obtain ⟨ao, cap, rfl⟩ := zE1 hr
 obtain ⟨sa, sc, hs⟩ := zAf hv.1
 simp only at hs
 subst hs
 have hca := zQf (l.map Prod.fst) c
 rw [Qc] at hca
 obtain ⟨n, hN⟩ : ∃ n, n = l.length := ⟨_, rfl⟩
 rw [<- hN] at hr hl hca ⊢
 obtain ⟨vu, vk, vn, vb⟩ := v
 unfold aggP
 simp only at hv ⊢
 rcases hca with ⟨h1, h2⟩ | ⟨h1, h2, h3⟩ | ⟨q, x, rfl, hq, hx, h3⟩
 ·have HE := hid (show cmpE (l.map Prod.fst) c o ⟨vu, vk, vn, vb⟩ = 3 by unfold cmpE; rw [h2])
  clear h2 hN hr hv
  go_enter Tryz.func109, Tryz.ntmps109
  go_wp2_with fail
  go_ret
  exact ⟨by rw [HE.out] <;> rfl, zAd w _⟩
 ·have HE := hid (show cmpE (l.map Prod.fst) c o ⟨vu, vk, vn, vb⟩ = 3 by unfold cmpE; rw [h3])
  clear h3 hN hr hv
  go_enter Tryz.func109, Tryz.ntmps109
  go_wp2_with fail
  go_ret
  exact ⟨by rw [HE.out] <;> rfl, zAd w _⟩
 ·obtain ⟨t, ht⟩ : ∃ t, l[q]? = some t := ⟨_, Qb (by rw [<- hN]; exact hq)⟩
  have hxt : x = t.1 := by rw [zKt ht] at hx; exact (Option.some.inj hx).symm
  subst hxt
  obtain ⟨b, off, rfl, p0, p1, p2, p3, ok⟩ := hr.at ht
  obtain ⟨ta, tc, hs⟩ := zAf ok.1
  obtain ⟨⟨tu, tk, tn, tb⟩, ts⟩ := t
  simp only at hs p0 p1 p2 p3 h3
  subst hs
  replace p0 := fun o => Lib.cell?_alloc_some (W := w) o p0
  replace p1 := fun o => Lib.cell?_alloc_some (W := w) o p1
  replace p2 := fun o => Lib.cell?_alloc_some (W := w) o p2
  replace p3 := fun o => Lib.cell?_alloc_some (W := w) o p3
  cases tu
  ·have HE := hid (show cmpE (l.map Prod.fst) (q : Int) o ⟨vu, vk, vn, vb⟩ = verdB (holdsB o (cmpT ⟨false, tk, tn, tb⟩ ⟨vu, vk, vn, vb⟩)) by unfold cmpE; rw [h3]; rfl)
   have HC := fun w' (h : Below w.heap.size w w') => hid (zEv (⟨false, tk, tn, tb⟩, .slice ta tb.length tc) (⟨vu, vk, vn, vb⟩, .slice sa vb.length sc) w' (ok.kept h) (hv.kept h))
   unfold aggV at HC
   simp only at HC
   clear h3 hN hr hv ht hx ok
   go_enter Tryz.func109, Tryz.ntmps109
   go_wp2_with fail
   have HZ := Je w (.cells #[.int .i64 k, .int .i64 (q : Int), .int .i64 o, .bool vu, .int .i64 vk, .int .i64 vn, .slice sa vb.length sc, ls] 65)
   have HBA := hid (zAd w (.cells #[.int .i64 k, .int .i64 (q : Int), .int .i64 o, .bool vu, .int .i64 vk, .int .i64 vn, .slice sa vb.length sc, ls] 65))
   replace p0 := p0 (.cells #[.int .i64 k, .int .i64 (q : Int), .int .i64 o, .bool vu, .int .i64 vk, .int .i64 vn, .slice sa vb.length sc, ls] 65)
   replace p1 := p1 (.cells #[.int .i64 k, .int .i64 (q : Int), .int .i64 o, .bool vu, .int .i64 vk, .int .i64 vn, .slice sa vb.length sc, ls] 65)
   replace p2 := p2 (.cells #[.int .i64 k, .int .i64 (q : Int), .int .i64 o, .bool vu, .int .i64 vk, .int .i64 vn, .slice sa vb.length sc, ls] 65)
   replace p3 := p3 (.cells #[.int .i64 k, .int .i64 (q : Int), .int .i64 o, .bool vu, .int .i64 vk, .int .i64 vn, .slice sa vb.length sc, ls] 65)
   obtain ⟨X, hX⟩ : ∃ X, X = w.heap.size := ⟨_, rfl⟩
   obtain ⟨W0, hW0⟩ : ∃ W0 : World, W0 = w.alloc (.cells #[.int .i64 k, .int .i64 (q : Int), .int .i64 o, .bool vu, .int .i64 vk, .int .i64 vn, .slice sa vb.length sc, ls] 65) := ⟨_, rfl⟩
   rw [<- hW0] at p0 p1 p2 p3 HZ HBA ⊢
   rw [<- hX] at HZ ⊢
   have hcell : ∀ i u, (#[.int .i64 k, .int .i64 (q : Int), .int .i64 o, .bool vu, .int .i64 vk, .int .i64 vn, .slice sa vb.length sc, ls] : Array Value)[i]? = some u -> W0.cell? ⟨X, i, none⟩ = some u := fun i u h => by rw [Ja W0 X i _ _ _ HZ]; exact h
   have HKP := hid (show ∀ w', Below W0.heap.size W0 w' -> w'.cell? ⟨b, off + q * 4, none⟩ = some (.bool false) ∧ w'.cell? ⟨b, off + q * 4 + 1, none⟩ = some (.int .i64 tk) ∧ w'.cell? ⟨b, off + q * 4 + 2, none⟩ = some (.int .i64 tn) ∧ w'.cell? ⟨b, off + q * 4 + 3, none⟩ = some (.slice ta tb.length tc) ∧ w'.cell? ⟨X, 1, none⟩ = some (.int .i64 (q : Int)) ∧ w'.cell? ⟨X, 2, none⟩ = some (.int .i64 o) ∧ w'.cell? ⟨X, 3, none⟩ = some (.bool vu) ∧ w'.cell? ⟨X, 4, none⟩ = some (.int .i64 vk) ∧ w'.cell? ⟨X, 5, none⟩ = some (.int .i64 vn) ∧ w'.cell? ⟨X, 6, none⟩ = some (.slice sa vb.length sc) ∧ Below W0.heap.size W0 w' from fun w' h => by
    have kp : ∀ p u, W0.cell? p = some u -> w'.cell? p = some u := fun p u hp => (h.cell (Qt _ _ hp)).trans hp
    exact ⟨kp _ _ p0, kp _ _ p1, kp _ _ p2, kp _ _ p3, kp _ _ (hcell 1 _ rfl), kp _ _ (hcell 2 _ rfl), kp _ _ (hcell 3 _ rfl), kp _ _ (hcell 4 _ rfl), kp _ _ (hcell 5 _ rfl), kp _ _ (hcell 6 _ rfl), h⟩)
   clear hW0 hX HZ hcell p0 p1 p2 p3
   have hS := Qh W0.heap.size W0
   set_option maxRecDepth 1000000 in
   go_region_held3 (fun w' => w'.cell? ⟨b, off + q * 4, none⟩ = some (.bool false) ∧ w'.cell? ⟨b, off + q * 4 + 1, none⟩ = some (.int .i64 tk) ∧ w'.cell? ⟨b, off + q * 4 + 2, none⟩ = some (.int .i64 tn) ∧ w'.cell? ⟨b, off + q * 4 + 3, none⟩ = some (.slice ta tb.length tc) ∧ w'.cell? ⟨X, 1, none⟩ = some (.int .i64 (q : Int)) ∧ w'.cell? ⟨X, 2, none⟩ = some (.int .i64 o) ∧ w'.cell? ⟨X, 3, none⟩ = some (.bool vu) ∧ w'.cell? ⟨X, 4, none⟩ = some (.int .i64 vk) ∧ w'.cell? ⟨X, 5, none⟩ = some (.int .i64 vn) ∧ w'.cell? ⟨X, 6, none⟩ = some (.slice sa vb.length sc) ∧ Below W0.heap.size W0 w') (first | assumption | exact HKP.out _ (by first | assumption | exact Qn (by assumption) (zAe _ _)))
    (first
     | (go_at_call 120; refine ((HC _ (zAa HBA.out (by first | assumption | exact Qn (by assumption) (zAe _ _)))).out).mono ?_; rintro e w2 ⟨rfl, hb⟩; have hb2 : Below W0.heap.size W0 w2 := zAa (by first | assumption | exact Qn (by assumption) (zAe _ _)) hb)
     | (go_at_call 144; refine (zRz _ _ _).mono ?_; rintro e w3 ⟨rfl, rfl⟩)
     | (go_at_call 143; refine (zOy _ _).mono ?_; rintro e w4 ⟨rfl, rfl⟩))
   go_wp2_with fail
   go_ret
   exact ⟨by rw [HE.out] <;> rfl, zAa HBA.out hb2⟩
  ·have HE := hid (show cmpE (l.map Prod.fst) (q : Int) o ⟨vu, vk, vn, vb⟩ = 3 by unfold cmpE; rw [h3]; rfl)
   clear h3 hN hr hv ht hx ok
   go_enter Tryz.func109, Tryz.ntmps109
   go_wp2_with fail
   go_ret
   exact ⟨by rw [HE.out] <;> rfl, zAd w _⟩
def Lft (w : World) (lb : Nat) (L : Int) : Prop := w.heap[lb]? = some (.cells #[.int .i64 L] 3 (0, 0))
def EvalOK (rv : Value) (r : List Vc) (p : Pt) : Prop :=
 ∀ (cs : List Value) (D L : Int) (w0 w : World) (lb : Nat), RdT1 w0 p cs -> RdRow w0 rv r -> w0.heap.size <= lb -> Below w0.heap.size w0 w -> Lft w lb L -> (depT p : Int) <= D -> D <= 1000000 -> (cntT p : Int) <= L -> L <= 1000000 ->
  Calls Tryz.prog 84 #[.agg cs.toArray, rv, .int .i64 D, .pointer (some ⟨lb, 0, none⟩)] w fun e w' => e = .returned (.int .i64 (evalT r p)) ∧ ∃ L', L <= L' + (cntT p : Int) ∧ L' <= L ∧ Lft w' lb L' ∧ w.grownBy w' (some lb)
theorem zD8 {w : World} {lb : Nat} {L : Int} (h : Lft w lb L) : lb < w.heap.size := (Qf.1 h).1
theorem zA2 {w : World} {lb : Nat} {L : Int} (h : Lft w lb L) (o : Obj) : Lft (w.alloc o) lb L := (heap_alloc_old w o (zD8 h)).trans h
def Above (K : Nat) (w w' : World) : Prop := ∀ b, K <= b -> b < w.heap.size -> w'.heap[b]? = w.heap[b]?
theorem Above.refl (K : Nat) (w : World) : Above K w w := fun _ _ _ => rfl
theorem Above.trans {K : Nat} {a b c : World} (h : Above K a b) (hs : a.heap.size <= b.heap.size) (k : Above K b c) : Above K a c := fun x h1 h2 => (k x h1 (Nat.lt_of_lt_of_le h2 hs)).trans (h x h1 h2)
theorem Above.mono {K K' : Nat} {w w' : World} (h : Above K w w') (hk : K <= K') : Above K' w w' := fun x h1 h2 => h x (Qo hk h1) h2
theorem zCd {K : Nat} {w w' : World} (h : Below w.heap.size w w') : Above K w w' := fun x _ h2 => h.block x h2
theorem zJp {K lb : Nat} {w w' : World} (h : w.grownBy w' (some lb)) (hk : lb < K) : Above K w w' := fun x h1 h2 => h.block x h2 (fun e => by cases e; omega)
theorem zFf {K b i : Nat} {w w' : World} {u : Value} (h : Above K w w') (hb : K <= b) (hc : w.cell? ⟨b, i, none⟩ = some u) : w'.cell? ⟨b, i, none⟩ = some u := by
 have hlt := Qt w _ hc
 have := h b hb hlt
 rw [<- hc]
 simp only [World.cell?, this]
def RdB (K : Nat) (w : World) (s : Value) (bs : List Nat) : Prop := ∃ ao cap, s = .slice ao bs.length cap ∧ ((ao = none -> cap = 0) ∧ bs.length <= cap) ∧ (0 < bs.length -> ∃ b off, ao = some ⟨b, off, none⟩ ∧ K <= b ∧ ∀ i, i < bs.length -> w.cell? ⟨b, off + i, none⟩ = some (u8v (bs.getD i 0)))
theorem RdB.rd {K : Nat} {w w' : World} {s : Value} {bs : List Nat} (h : RdB K w s bs) (ha : Above K w w') : Rd w' s (bs.map u8v) := by
 obtain ⟨ao, cap, hv, hn, hc⟩ := h
 refine ⟨ao, cap, by rw [Qc]; exact hv, by rw [Qc]; exact hn, fun hp => ?_⟩
 rw [Qc] at hp
 obtain ⟨b, off, h1, h2, h3⟩ := hc hp
 refine ⟨b, off, h1, fun i hi => ?_⟩
 rw [Qc] at hi
 rw [zFf ha h2 (h3 i hi), Qi, Qi, Qp, Qb hi]
 rfl
theorem RdB.above {K K0 : Nat} {w w' : World} {s : Value} {bs : List Nat} (h : RdB K w s bs) (ha : Above K w w') (hk : K0 <= K) : RdB K0 w' s bs := by
 obtain ⟨ao, cap, hv, hn, hc⟩ := h
 refine ⟨ao, cap, hv, hn, fun hp => ?_⟩
 obtain ⟨b, off, h1, h2, h3⟩ := hc hp
 exact ⟨b, off, h1, Qo hk h2, fun i hi => zFf ha h2 (h3 i hi)⟩
theorem zA6 {K : Nat} {w : World} {s : Value} {bs : List Nat} (h : RdB K w s bs) : ∃ ao cap, s = .slice ao bs.length cap := by
 obtain ⟨ao, cap, hv, _⟩ := h
 exact ⟨ao, cap, hv⟩
theorem zBp {K : Nat} {w w1 : World} (h : Above K w w1) (a : Addr) (v : Value) (ha : a.block < K) : Above K w (w1.setCell a v) := fun x h1 h2 => by
 rw [Jd w1 a x v (by omega)]
 exact h x h1 h2
theorem zWg : (Tryz.prog.info? 5).map (fun i => (i.zero, i.size, i.bytes)) = some (some (.int .u8 0), 1, 1) := by kernel_rfl
theorem zT0 {w : World} {ao : Option Addr} {len cap : Nat} {bs : List Nat} (h : Rd w (.slice ao len cap) (bs.map u8v)) :
  len = bs.length ∧ (0 < len -> ∃ b off, ao = some ⟨b, off, none⟩ ∧ ∀ i, i < len -> w.cell? ⟨b, off + i, none⟩ = some (.int .u8 (bs.getD i 0 : Nat))) := by
 obtain ⟨ao', cap', hv, _, hc⟩ := h
 simp only [Qc, Value.slice.injEq] at hv hc
 obtain ⟨rfl, hl, rfl⟩ := hv
 refine ⟨hl, fun hp => ?_⟩
 obtain ⟨b, off, ha, hcell⟩ := hc (by omega)
 refine ⟨b, off, ha, fun i hi => ?_⟩
 have := hcell i (by omega)
 rw [this, Qi, Qp, Qi, Qb (show i < bs.length by omega)]
 rfl
theorem zJf {w : World} {B : Nat} {E : TypeId} {v : Value} {n : Nat} {bs : List Nat} (h : w.ownsRow B E 1 v n (bs.map u8v)) : RdB B w v bs := by
 have hl : bs.length = n := by simpa using h.1
 rcases h.2 with ⟨rfl, rfl⟩ | ⟨g, cap, cur, rfl, hbg, hh, r⟩
 ·have : bs = [] := Qk.1 hl
  subst this
  exact ⟨none, 0, rfl, ⟨fun _ => rfl, by simp⟩, fun h => absurd h (by simp)⟩
 ·refine ⟨some ⟨g, 0, none⟩, cap, by rw [hl], ⟨(fun h => by cases h), by rw [hl]; exact r.1⟩, fun _ => ⟨g, 0, rfl, hbg, fun i hi => ?_⟩⟩
  have := h.cellAt i (by omega)
  rw [Nat.zero_add, this, Qp, Qb hi, Qi, Qb hi]; rfl
theorem zVp (v : Value) (bs : List Nat) (w : World) (hr : Rd w v (bs.map u8v)) (hbig : bs.length <= 140737488355328) :
  Calls Tryz.prog 77 #[v] w fun e w' => ∃ s, e = .returned s ∧ RdB w.heap.size w' s bs ∧ Below w.heap.size w w' := by
 have q22 : ∀ (w : World) (a : Option Addr) (n c n' c' : Nat), (binOp .eql 29 (.slice a n c) (.slice none n' c')).run Tryz.prog w = .ok (.bool a.isNone) w := fun w a n c n' c' => Lib.run_eql_slice_nil w _ _ a n c n' c' Tryz.underlying29
 have hr0 := hr
 obtain ⟨ao, cap, hv, _⟩ := hr
 rw [Qc] at hv
 subst hv
 have hc := (zT0 hr0).2
 obtain ⟨n, hn⟩ : ∃ n, n = bs.length := ⟨_, rfl⟩
 rw [<- hn] at hc hbig hr0 ⊢
 have HN := hid hn
 have HR := hid hr0
 clear hr0 hn
 rcases ao with _ | a
 ·have h0 : n = 0 := by
   rcases Qq n with h | h
   ·exact h
   ·obtain ⟨b, off, h1, _⟩ := hc h; cases h1
  have hb : bs = [] := Qk.1 (by rw [<- HN.out]; exact h0)
  clear hc
  go_enter Tryz.func77, Tryz.ntmps77
  go_wp2
  go_ret
  subst hb
  exact ⟨.slice none 0 0, rfl, ⟨none, 0, rfl, ⟨fun _ => rfl, by simp⟩, fun h => absurd h (by simp)⟩, Qh _ _⟩
 ·clear hc
  have H1 := hid (show (bs.map u8v).length = n * 1 by rw [Qc, Nat.mul_one]; exact HN.out.symm)
  have H2 := hid (zG1 (HR.out.kept (zAd w (.cells #[] 5))))
  have H3 := hid (zAs bs)
  obtain ⟨i0, hi, hz0, hz1, hz2⟩ := info_parts zWg
  go_enter Tryz.func77, Tryz.ntmps77
  go_wp2_with (at_builtin; refine wpList_append_own _ rfl _ _ 29 rfl w.heap.size 5 i0 (.int .u8 0) 1 1 Tryz.underlying29 hi hz0 hz1 hz2 rfl (by decide) _ _ _ rfl (World.ownsRow_made w #[] 0 (Qa _) (Qr _) rfl) a n cap (bs.map u8v) rfl H1.out H2.out H3.out (by unfold maxLen; omega) (by omega) (by simp) ?_)
  intro v' w1 hown hgrow hnil
  go_wp2
  go_ret
  have hown' : w1.ownsRow w.heap.size 5 1 v' n (bs.map u8v) := by simpa using hown
  have hbl : Below w.heap.size w w1 := ((Qh _ w).alloc (Qa _) _).grown hgrow (by simp) (by intro k hk; simp [Value.ownBlock] at hk; omega)
  exact ⟨v', rfl, zJf hown', hbl⟩
theorem zBq {w : World} {X : Nat} {a b c d a' b' c' d' : Value} {T : TypeId} (h : w.heap[X]? = some (.cells #[a, b, c, d] T (0, 0))) :
  ((((w.setCell ⟨X, 0, none⟩ a').setCell ⟨X, 1, none⟩ b').setCell ⟨X, 2, none⟩ c').setCell ⟨X, 3, none⟩ d').heap[X]? = some (.cells #[a', b', c', d'] T (0, 0)) := by
 have h0 := Jc w X 0 _ _ a' h
 have h1 := Jc (w.setCell ⟨X, 0, none⟩ a') X 1 _ _ b' h0
 have h2 := Jc _ X 2 _ _ c' h1
 have h3 := Jc _ X 3 _ _ d' h2
 rw [h3]
 simp
theorem zB3 : (Tryz.prog.info? 31).map (·.size) = some 4 := by kernel_rfl
theorem zJ4 (p : Vc × Value) (w : World) (hp : OkV w p) (hbig : p.1.b.length <= 1000000) :
  Calls Tryz.prog 96 #[aggV p] w fun e w' => ∃ s, e = .returned (aggV (p.1, s)) ∧ RdB w.heap.size w' s p.1.b ∧ Below w.heap.size w w' := by
 obtain ⟨sa, sc, hs⟩ := zAf hp.1
 obtain ⟨⟨u, k, n, b⟩, s⟩ := p
 simp only at hs hbig
 subst hs
 have HC := fun w' (h : Below w.heap.size w w') => hid (zVp (.slice sa b.length sc) b w' (hp.1.kept h) (by omega))
 have H256 := hid hp.2
 unfold aggV
 simp only
 clear hp
 go_enter Tryz.func96, Tryz.ntmps96
 go_wp2_with fail
 refine (HC _ (zAq w _ _)).out.mono ?_
 rintro e w2 ⟨s2, rfl, hr2, hb2⟩
 have h1 : w2.heap[w.heap.size]? = some (.cells #[.bool u, .int .i64 k, .int .i64 n, .slice sa b.length sc] 31 (0, 0)) := (hb2.block w.heap.size (by simp; omega)).trans ((heap_alloc_old _ _ (by simp)).trans (Je w _))
 have h2 : w2.heap[w.heap.size + 1]? = some (.cells #[.bool false, .int .i64 0, .int .i64 0, .slice none 0 0] 31 (0, 0)) := (hb2.block (w.heap.size + 1) (by simp)).trans (zHk w _ _)
 obtain ⟨ta, tc, ht⟩ := zA6 hr2
 subst ht
 have HR2 := hid hr2
 have HB2 := hid (zAa (zAq w _ _) hb2)
 have HS2 := hid (show ((w.alloc (.cells #[.bool u, .int .i64 k, .int .i64 n, .slice sa b.length sc] 31)).alloc (.cells #[.bool false, .int .i64 0, .int .i64 0, .slice none 0 0] 31)).heap.size = w.heap.size + 2 by simp)
 have H2 := hid h2
 obtain ⟨X, hX⟩ : ∃ X, X = w.heap.size := ⟨_, rfl⟩
 obtain ⟨Y, hY⟩ : ∃ Y, Y = w.heap.size + 1 := ⟨_, rfl⟩
 have HX := hid hX
 have HY := hid hY
 rw [<- hX] at h1
 rw [<- hY] at h2 H2 ⊢
 rw [<- hX]
 have c0 : w2.cell? ⟨X, 0, none⟩ = some (.bool u) := by rw [Ja w2 X 0 _ _ _ h1]; rfl
 have c1 : w2.cell? ⟨X, 1, none⟩ = some (.int .i64 k) := by rw [Ja w2 X 1 _ _ _ h1]; rfl
 have c2 : w2.cell? ⟨X, 2, none⟩ = some (.int .i64 n) := by rw [Ja w2 X 2 _ _ _ h1]; rfl
 have c3 : w2.cell? ⟨X, 3, none⟩ = some (.slice sa b.length sc) := by rw [Ja w2 X 3 _ _ _ h1]; rfl
 have f3 : w2.frozen? ⟨X, 3, none⟩ = false := Jb w2 X 3 _ _ h1
 have g0 : w2.cell? ⟨Y, 0, none⟩ = some (.bool false) := by rw [Ja w2 Y 0 _ _ _ h2]; rfl
 have g1 : w2.cell? ⟨Y, 1, none⟩ = some (.int .i64 0) := by rw [Ja w2 Y 1 _ _ _ h2]; rfl
 have g2 : w2.cell? ⟨Y, 2, none⟩ = some (.int .i64 0) := by rw [Ja w2 Y 2 _ _ _ h2]; rfl
 have g3 : w2.cell? ⟨Y, 3, none⟩ = some (.slice none 0 0) := by rw [Ja w2 Y 3 _ _ _ h2]; rfl
 have e0 : w2.frozen? ⟨Y, 0, none⟩ = false := Jb w2 Y 0 _ _ h2
 have e1 : w2.frozen? ⟨Y, 1, none⟩ = false := Jb w2 Y 1 _ _ h2
 have e2 : w2.frozen? ⟨Y, 2, none⟩ = false := Jb w2 Y 2 _ _ h2
 have e3 : w2.frozen? ⟨Y, 3, none⟩ = false := Jb w2 Y 3 _ _ h2
 have hne : X ≠ Y := by omega
 have hne2 : Y ≠ X := by omega
 clear hr2 hb2 h1 h2 hX hY HC
 go_wp2_with fail
 refine bodyPost_ret (results_cell_row rfl _ _ Y _ _ (0, 0) _ rfl (zBq (show (w2.setCell ⟨X, 3, none⟩ (.slice ta b.length tc)).heap[Y]? = _ from (Jd w2 ⟨X, 3, none⟩ Y _ hne2).trans H2.out)) Tryz.underlying31 rfl zB3) rfl ?_
 have hx := HX.out
 have hy := HY.out
 refine ⟨.slice ta b.length tc, rfl, HR2.out.above ?_ (by rw [HS2.out]; omega), ?_⟩
 ·rw [HS2.out]
  exact zBp (zBp (zBp (zBp (zBp (Above.refl _ _) _ _ (by show X < _; omega)) _ _ (by show Y < _; omega)) _ _ (by show Y < _; omega)) _ _ (by show Y < _; omega)) _ _ (by show Y < _; omega)
 ·exact ((((HB2.out.setCell (p := ⟨X, 3, none⟩) (by show _ <= X; omega) _).setCell (p := ⟨Y, 0, none⟩) (by show _ <= Y; omega) _).setCell (p := ⟨Y, 1, none⟩) (by show _ <= Y; omega) _).setCell (p := ⟨Y, 2, none⟩) (by show _ <= Y; omega) _).setCell (p := ⟨Y, 3, none⟩) (by show _ <= Y; omega) _
def RdSK (K : Nat) (w : World) (sz : Nat) (v : Value) (ls : List (List Value)) : Prop :=
 ∃ ao cap, v = .slice ao ls.length cap ∧ ((ao = none -> cap = 0) ∧ ls.length <= cap) ∧
  ∀ k t, ls[k]? = some t -> ∃ b off, ao = some ⟨b, off, none⟩ ∧ K <= b ∧ ∀ j u, t[j]? = some u -> w.cell? ⟨b, off + k * sz + j, none⟩ = some u
theorem RdSK.rd {K : Nat} {w : World} {sz : Nat} {v : Value} {ls : List (List Value)} (h : RdSK K w sz v ls) : RdS w sz v ls := by
 obtain ⟨ao, cap, hv, hn, hc⟩ := h
 refine ⟨ao, cap, hv, hn, fun k t ht => ?_⟩
 obtain ⟨b, off, h1, _, h3⟩ := hc k t ht
 exact ⟨b, off, h1, h3⟩
theorem RdSK.above {K K0 : Nat} {w w' : World} {sz : Nat} {v : Value} {ls : List (List Value)} (h : RdSK K w sz v ls) (ha : Above K w w') (hk : K0 <= K) : RdSK K0 w' sz v ls := by
 obtain ⟨ao, cap, hv, hn, hc⟩ := h
 refine ⟨ao, cap, hv, hn, fun k t ht => ?_⟩
 obtain ⟨b, off, h1, h2, h3⟩ := hc k t ht
 exact ⟨b, off, h1, Qo hk h2, fun j u hu => zFf ha h2 (h3 j u hu)⟩
mutual
def RdA1 (K : Nat) (w : World) : Pt -> List Value -> Prop
 | .mk k c o v l, cs => ∃ s ls css, cs = cellsP k c o v s ls ∧ (RdB K w s v.b ∧ ∀ x ∈ v.b, x < 256) ∧ RdSK K w 8 ls css ∧ RdAs K w l css
def RdAs (K : Nat) (w : World) : List Pt -> List (List Value) -> Prop
 | [], [] => True
 | q :: r, cs :: t => RdA1 K w q cs ∧ RdAs K w r t
 | [], _ :: _ => False
 | _ :: _, [] => False
end
mutual
theorem RdA1.above {K K0 : Nat} {w w' : World} (ha : Above K w w') (hk : K0 <= K) : ∀ (p : Pt) {cs : List Value}, RdA1 K w p cs -> RdA1 K0 w' p cs
 | .mk k c o v l, cs, h => by
  unfold RdA1 at h ⊢
  obtain ⟨s, ls, css, h1, h2, h3, h4⟩ := h
  exact ⟨s, ls, css, h1, ⟨h2.1.above ha hk, h2.2⟩, h3.above ha hk, RdAs.above ha hk l h4⟩
theorem RdAs.above {K K0 : Nat} {w w' : World} (ha : Above K w w') (hk : K0 <= K) : ∀ (l : List Pt) {css : List (List Value)}, RdAs K w l css -> RdAs K0 w' l css
 | [], [], _ => by unfold RdAs; trivial
 | q :: r, cs :: t, h => by
  unfold RdAs at h ⊢
  exact ⟨RdA1.above ha hk q h.1, RdAs.above ha hk r h.2⟩
 | [], _ :: _, h => by unfold RdAs at h; exact h.elim
 | _ :: _, [], h => by unfold RdAs at h; exact h.elim
end
mutual
theorem RdA1.rd {K : Nat} {w : World} : ∀ (p : Pt) {cs : List Value}, RdA1 K w p cs -> RdT1 w p cs
 | .mk k c o v l, cs, h => by
  unfold RdA1 at h
  unfold RdT1
  obtain ⟨s, ls, css, h1, h2, h3, h4⟩ := h
  exact ⟨s, ls, css, h1, ⟨h2.1.rd (Above.refl _ _), h2.2⟩, h3.rd, RdAs.rd l h4⟩
theorem RdAs.rd {K : Nat} {w : World} : ∀ (l : List Pt) {css : List (List Value)}, RdAs K w l css -> RdTs w l css
 | [], [], _ => by unfold RdTs; trivial
 | q :: r, cs :: t, h => by
  unfold RdAs at h
  unfold RdTs
  exact ⟨RdA1.rd q h.1, RdAs.rd r h.2⟩
 | [], _ :: _, h => by unfold RdAs at h; exact h.elim
 | _ :: _, [], h => by unfold RdAs at h; exact h.elim
end
theorem zJ5 {K : Nat} {w : World} {l : List Pt} {css : List (List Value)} (h : RdAs K w l css) : css.length = l.length := zBy (RdAs.rd l h)
theorem RdAs.snoc {K : Nat} {w : World} {q : Pt} {cs : List Value} (hq : RdA1 K w q cs) : ∀ {l : List Pt} {css : List (List Value)}, RdAs K w l css -> RdAs K w (l ++ [q]) (css ++ [cs])
 | [], [], _ => by unfold RdAs; exact ⟨hq, by unfold RdAs; trivial⟩
 | p :: r, c :: t, h => by
  unfold RdAs at h
  show RdAs K w (p :: (r ++ [q])) (c :: (t ++ [cs]))
  unfold RdAs
  exact ⟨h.1, RdAs.snoc hq h.2⟩
 | [], _ :: _, h => by unfold RdAs at h; exact h.elim
 | _ :: _, [], h => by unfold RdAs at h; exact h.elim
theorem zT1 {K : Nat} {w : World} {p : Pt} {cs : List Value} (h : RdA1 K w p cs) : cs.length = 8 := by
 obtain ⟨k, c, o, v, l⟩ := p
 unfold RdA1 at h
 obtain ⟨s, ls, css, rfl, _⟩ := h
 rfl
theorem zGe {K : Nat} {w : World} : ∀ {l : List Pt} {css : List (List Value)}, RdAs K w l css -> ∀ t ∈ css, t.length = 8
 | [], [], _ => fun t ht => by cases ht
 | p :: r, c :: t, h => fun u hu => by
  unfold RdAs at h
  rcases List.mem_cons.1 hu with h1 | h1
  ·rw [h1]; exact zT1 h.1
  ·exact zGe h.2 u h1
 | [], _ :: _, h => by unfold RdAs at h; exact h.elim
 | _ :: _, [], h => by unfold RdAs at h; exact h.elim
theorem zE3 {α : Type} (A t : List α) (j : Nat) (v : α) : (A ++ t).set (A.length + j) v = A ++ t.set j v := by
 rw [List.set_append_right _ _ (by omega), Nat.add_sub_cancel_left]
def set8 (xs : List Value) (m : Nat) (v0 v1 v2 v3 v4 v5 v6 v7 : Value) : List Value :=
 (((((((xs.set m v0).set (m + 1) v1).set (m + 2) v2).set (m + 3) v3).set (m + 4) v4).set (m + 5) v5).set (m + 6) v6).set (m + 7) v7
theorem zIh (xs : List Value) (m : Nat) (h : m + 8 <= xs.length) (v0 v1 v2 v3 v4 v5 v6 v7 : Value) : (set8 xs m v0 v1 v2 v3 v4 v5 v6 v7).take (m + 8) = xs.take m ++ [v0, v1, v2, v3, v4, v5, v6, v7] := by
 obtain ⟨A, B, rfl, hA⟩ : ∃ A B, xs = A ++ B ∧ A.length = m := ⟨xs.take m, xs.drop m, (List.take_append_drop m xs).symm, by rw [List.length_take]; omega⟩
 subst hA
 rw [List.length_append] at h
 obtain ⟨b0, b1, b2, b3, b4, b5, b6, b7, C, rfl⟩ : ∃ b0 b1 b2 b3 b4 b5 b6 b7 C, B = b0 :: b1 :: b2 :: b3 :: b4 :: b5 :: b6 :: b7 :: C := by
  rcases B with _ | ⟨b0, B⟩
  ·simp at h <;> omega
  rcases B with _ | ⟨b1, B⟩
  ·simp at h <;> omega
  rcases B with _ | ⟨b2, B⟩
  ·simp at h <;> omega
  rcases B with _ | ⟨b3, B⟩
  ·simp at h <;> omega
  rcases B with _ | ⟨b4, B⟩
  ·simp at h <;> omega
  rcases B with _ | ⟨b5, B⟩
  ·simp at h <;> omega
  rcases B with _ | ⟨b6, B⟩
  ·simp at h <;> omega
  rcases B with _ | ⟨b7, B⟩
  ·simp at h <;> omega
  exact ⟨b0, b1, b2, b3, b4, b5, b6, b7, B, rfl⟩
 unfold set8
 have e0 := zE3 A (b0 :: b1 :: b2 :: b3 :: b4 :: b5 :: b6 :: b7 :: C) 0 v0
 rw [Qj] at e0
 rw [e0, zE3, zE3, zE3, zE3, zE3, zE3, zE3]
 simp only [List.set_cons_zero, List.set_cons_succ]
 rw [Qu, Qu, Qg (show A.length <= A.length + 8 by omega), Qg (Qa A.length)]
 simp
theorem zHn (xs : List Value) (m : Nat) (v0 v1 v2 v3 v4 v5 v6 v7 : Value) : (set8 xs m v0 v1 v2 v3 v4 v5 v6 v7).length = xs.length := by simp [set8]
theorem zJ6 : (Tryz.prog.info? 65).map (fun i => (i.zero, i.size, i.bytes)) = some (some (.agg #[.int .i64 0, .int .i64 0, .int .i64 0, .bool false, .int .i64 0, .int .i64 0, .slice none 0 0, .slice none 0 0]), 8, 96) := by kernel_rfl
theorem zC8 {w : World} {B : Nat} {E : TypeId} {sz : Nat} {v : Value} {n : Nat} {ls : List (List Value)} (h : w.ownsRow B E sz v n ls.flatten) (hn : n = ls.length) (hl : ∀ t ∈ ls, t.length = sz) : RdSK B w sz v ls := by
 have h1 := zLn h hn hl
 obtain ⟨ao, cap, hv, hnn, hc⟩ := h1
 refine ⟨ao, cap, hv, hnn, fun k t ht => ?_⟩
 obtain ⟨b, off, ha, hcell⟩ := hc k t ht
 refine ⟨b, off, ha, ?_, hcell⟩
 exact zAh h b (by rw [hv, ha]; rfl)
def FreshOK (p : Pt) : Prop :=
 ∀ (cs : List Value) (D L : Int) (w0 w : World) (lb : Nat), RdT1 w0 p cs -> w0.heap.size <= lb -> Below w0.heap.size w0 w -> Lft w lb L -> (depT p : Int) <= D -> D <= 1000000 -> (cntT p : Int) <= L -> L <= 1000000 ->
  Calls Tryz.prog 187 #[.agg cs.toArray, .int .i64 D, .pointer (some ⟨lb, 0, none⟩)] w fun e w' => ∃ cs', e = .returned (.agg cs'.toArray) ∧ RdA1 w.heap.size w' p cs' ∧ ∃ L', L <= L' + (cntT p : Int) ∧ L' <= L ∧ Lft w' lb L' ∧ w.grownBy w' (some lb)
structure Cap (w : World) (db pb lb : Nat) (D : Int) : Prop where
 d : w.heap[db]? = some (.cells #[.int .i64 D] 3 (0, 0))
 p : w.heap[pb]? = some (.cells #[.pointer (some ⟨lb, 0, none⟩)] 147 (0, 0))
 nd : db ≠ lb
 np : pb ≠ lb
theorem Cap.grown {w w' : World} {db pb lb : Nat} {D : Int} (h : Cap w db pb lb D) (hg : w.grownBy w' (some lb)) : Cap w' db pb lb D :=
 ⟨(hg.block db (Qf.1 h.d).1 (fun e => by cases e; exact h.nd rfl)).trans h.d, (hg.block pb (Qf.1 h.p).1 (fun e => by cases e; exact h.np rfl)).trans h.p, h.nd, h.np⟩
theorem zE4 : (Tryz.prog.info? 65).map (·.size) = some 8 := by kernel_rfl
theorem zD9 {w : World} {X : Nat} {a0 a1 a2 a3 a4 a5 a6 a7 b0 b1 b2 b3 b4 b5 b6 b7 : Value} {T : TypeId} (h : w.heap[X]? = some (.cells #[a0, a1, a2, a3, a4, a5, a6, a7] T (0, 0))) :
  ((((((((w.setCell ⟨X, 0, none⟩ b0).setCell ⟨X, 1, none⟩ b1).setCell ⟨X, 2, none⟩ b2).setCell ⟨X, 3, none⟩ b3).setCell ⟨X, 4, none⟩ b4).setCell ⟨X, 5, none⟩ b5).setCell ⟨X, 6, none⟩ b6).setCell ⟨X, 7, none⟩ b7).heap[X]? = some (.cells #[b0, b1, b2, b3, b4, b5, b6, b7] T (0, 0)) := by
 have h0 := Jc w X 0 _ _ b0 h
 have h1 := Jc _ X 1 _ _ b1 h0
 have h2 := Jc _ X 2 _ _ b2 h1
 have h3 := Jc _ X 3 _ _ b3 h2
 have h4 := Jc _ X 4 _ _ b4 h3
 have h5 := Jc _ X 5 _ _ b5 h4
 have h6 := Jc _ X 6 _ _ b6 h5
 have h7 := Jc _ X 7 _ _ b7 h6
 rw [h7]
 simp
theorem zR0 (q : Pt) (hq : FreshOK q) (cs : List Value) (D L : Int) (w0 w : World) (db pb lb : Nat) (hr : RdT1 w0 q cs) (hlb : w0.heap.size <= lb) (hb : Below w0.heap.size w0 w) (hL : Lft w lb L) (hc : Cap w db pb lb D)
  (hD : (depT q : Int) + 1 <= D) (hD2 : D <= 1000000) (hct : (cntT q : Int) <= L) (hL2 : L <= 1000000) :
  Calls Tryz.prog 197 #[.agg cs.toArray, .pointer (some ⟨db, 0, none⟩), .pointer (some ⟨pb, 0, none⟩)] w fun e w' => ∃ cs', e = .returned (.agg cs'.toArray) ∧ RdA1 w.heap.size w' q cs' ∧ ∃ L', L <= L' + (cntT q : Int) ∧ L' <= L ∧ Lft w' lb L' ∧ w.grownBy w' (some lb) := by
 have HQ := fun w' (h : Below w.heap.size w w') => hid (hq cs (D - 1) L w0 w' lb hr hlb (hb.trans (h.mono hb.size)) ((h.block lb (zD8 hL)).trans hL) (by omega) (by omega) hct hL2)
 have HLT := hid (zD8 hL)
 have hD1 : (1 : Int) <= D := by omega
 have HDB := hid (fun o1 o2 => (zAq w o1 o2).block db (Qf.1 hc.d).1 |>.trans hc.d)
 have HPB := hid (fun o1 o2 => (zAq w o1 o2).block pb (Qf.1 hc.p).1 |>.trans hc.p)
 obtain ⟨k, c, o, v, l⟩ := q
 unfold RdT1 at hr
 obtain ⟨s, ls, css, rfl, hok, hls, hts⟩ := hr
 obtain ⟨sa, sc, hes⟩ := zAf hok.1
 obtain ⟨ea, ec, hel⟩ := zAk hls
 simp only at hes
 subst hes hel
 obtain ⟨vu, vk, vn, vb⟩ := v
 have d1 : ((w.alloc (.cells #[.int .i64 k, .int .i64 c, .int .i64 o, .bool vu, .int .i64 vk, .int .i64 vn, .slice sa vb.length sc, .slice ea css.length ec] 65)).alloc (.cells #[.int .i64 0, .int .i64 0, .int .i64 0, .bool false, .int .i64 0, .int .i64 0, .slice none 0 0, .slice none 0 0] 65)).cell? ⟨db, 0, none⟩ = some (.int .i64 D) := by rw [Ja _ db 0 _ _ _ (HDB.out _ _)]; rfl
 have d2 : ((w.alloc (.cells #[.int .i64 k, .int .i64 c, .int .i64 o, .bool vu, .int .i64 vk, .int .i64 vn, .slice sa vb.length sc, .slice ea css.length ec] 65)).alloc (.cells #[.int .i64 0, .int .i64 0, .int .i64 0, .bool false, .int .i64 0, .int .i64 0, .slice none 0 0, .slice none 0 0] 65)).cell? ⟨pb, 0, none⟩ = some (.pointer (some ⟨lb, 0, none⟩)) := by rw [Ja _ pb 0 _ _ _ (HPB.out _ _)]; rfl
 have HZ := hid (zHk w (.cells #[.int .i64 k, .int .i64 c, .int .i64 o, .bool vu, .int .i64 vk, .int .i64 vn, .slice sa vb.length sc, .slice ea css.length ec] 65) (.cells #[.int .i64 0, .int .i64 0, .int .i64 0, .bool false, .int .i64 0, .int .i64 0, .slice none 0 0, .slice none 0 0] 65))
 have HSZ := hid (show ((w.alloc (.cells #[.int .i64 k, .int .i64 c, .int .i64 o, .bool vu, .int .i64 vk, .int .i64 vn, .slice sa vb.length sc, .slice ea css.length ec] 65)).alloc (.cells #[.int .i64 0, .int .i64 0, .int .i64 0, .bool false, .int .i64 0, .int .i64 0, .slice none 0 0, .slice none 0 0] 65)).heap.size = w.heap.size + 2 by simp)
 have HB2 := hid (zAq w (.cells #[.int .i64 k, .int .i64 c, .int .i64 o, .bool vu, .int .i64 vk, .int .i64 vn, .slice sa vb.length sc, .slice ea css.length ec] 65) (.cells #[.int .i64 0, .int .i64 0, .int .i64 0, .bool false, .int .i64 0, .int .i64 0, .slice none 0 0, .slice none 0 0] 65))
 clear hok hls hts hc hL hb
 unfold cellsP at HQ ⊢
 simp only at HQ ⊢
 go_enter Tryz.func197, Tryz.ntmps197
 go_wp2_with fail
 refine (HQ _ HB2.out).out.mono ?_
 rintro e w2 ⟨cs', rfl, ha, L2, g1, g2, g3, g4⟩
 have HA := hid ha
 unfold RdA1 at ha
 obtain ⟨s', ls', css', rfl, hok', hls', _⟩ := ha
 obtain ⟨sa', sc', hes'⟩ := zA6 hok'.1
 obtain ⟨ea', ec', hel'⟩ := zAk hls'.rd
 simp only at hes'
 subst hes' hel'
 obtain ⟨Y, hY⟩ : ∃ Y, Y = w.heap.size + 1 := ⟨_, rfl⟩
 have hlY : lb ≠ Y := by have := HLT.out; omega
 have h2 : w2.heap[Y]? = some (.cells #[.int .i64 0, .int .i64 0, .int .i64 0, .bool false, .int .i64 0, .int .i64 0, .slice none 0 0, .slice none 0 0] 65 (0, 0)) := by
  rw [hY]
  exact (g4.block (w.heap.size + 1) (by rw [HSZ.out]; omega) (fun e => by have := HLT.out; cases e; omega)).trans HZ.out
 have HY := hid hY
 have H2 := hid h2
 have HF := hid (show L <= L2 + (cntT (.mk k c o ⟨vu, vk, vn, vb⟩ l) : Int) ∧ L2 <= L ∧ Lft w2 lb L2 ∧ w.grownBy w2 (some lb) from ⟨g1, g2, g3, zAb (zAb (Qd w _ _) (Qd _ _ _)) g4⟩)
 rw [<- hY]
 have c0 : w2.cell? ⟨Y, 0, none⟩ = some (.int .i64 0) := by rw [Ja w2 Y 0 _ _ _ h2]; rfl
 have c1 : w2.cell? ⟨Y, 1, none⟩ = some (.int .i64 0) := by rw [Ja w2 Y 1 _ _ _ h2]; rfl
 have c2 : w2.cell? ⟨Y, 2, none⟩ = some (.int .i64 0) := by rw [Ja w2 Y 2 _ _ _ h2]; rfl
 have c3 : w2.cell? ⟨Y, 3, none⟩ = some (.bool false) := by rw [Ja w2 Y 3 _ _ _ h2]; rfl
 have c4 : w2.cell? ⟨Y, 4, none⟩ = some (.int .i64 0) := by rw [Ja w2 Y 4 _ _ _ h2]; rfl
 have c5 : w2.cell? ⟨Y, 5, none⟩ = some (.int .i64 0) := by rw [Ja w2 Y 5 _ _ _ h2]; rfl
 have c6 : w2.cell? ⟨Y, 6, none⟩ = some (.slice none 0 0) := by rw [Ja w2 Y 6 _ _ _ h2]; rfl
 have c7 : w2.cell? ⟨Y, 7, none⟩ = some (.slice none 0 0) := by rw [Ja w2 Y 7 _ _ _ h2]; rfl
 have f0 : w2.frozen? ⟨Y, 0, none⟩ = false := Jb w2 Y 0 _ _ h2
 have f1 : w2.frozen? ⟨Y, 1, none⟩ = false := Jb w2 Y 1 _ _ h2
 have f2 : w2.frozen? ⟨Y, 2, none⟩ = false := Jb w2 Y 2 _ _ h2
 have f3 : w2.frozen? ⟨Y, 3, none⟩ = false := Jb w2 Y 3 _ _ h2
 have f4 : w2.frozen? ⟨Y, 4, none⟩ = false := Jb w2 Y 4 _ _ h2
 have f5 : w2.frozen? ⟨Y, 5, none⟩ = false := Jb w2 Y 5 _ _ h2
 have f6 : w2.frozen? ⟨Y, 6, none⟩ = false := Jb w2 Y 6 _ _ h2
 have f7 : w2.frozen? ⟨Y, 7, none⟩ = false := Jb w2 Y 7 _ _ h2
 clear g1 g2 g3 g4 hok' hls' h2 hY d1 d2
 unfold cellsP
 simp only
 go_wp2_with fail
 refine bodyPost_ret (results_cell_row rfl _ _ Y _ _ (0, 0) _ rfl (zD9 H2.out) Tryz.underlying65 rfl zE4) rfl ?_
 have hy := HY.out
 obtain ⟨k1, k2, k3, k4⟩ := HF.out
 have hset : ∀ i u (wx : World), Above (w.heap.size + 2) w2 wx -> Above (w.heap.size + 2) w2 (wx.setCell ⟨Y, i, none⟩ u) := fun i u wx h => zBp h _ _ (by show Y < _; omega)
 refine ⟨cellsP k c o ⟨vu, vk, vn, vb⟩ (.slice sa' vb.length sc') (.slice ea' css'.length ec'), rfl, RdA1.above (K := w.heap.size + 2) (w := w2) ?_ (by omega) _ (by have := HA.out; rw [HSZ.out] at this; exact this), L2, k1, k2, ?_, ?_⟩
 ·exact hset _ _ _ (hset _ _ _ (hset _ _ _ (hset _ _ _ (hset _ _ _ (hset _ _ _ (hset _ _ _ (hset _ _ _ (Above.refl _ _))))))))
 ·have hfar : ∀ i u (wx : World), Lft wx lb L2 -> Lft (wx.setCell ⟨Y, i, none⟩ u) lb L2 := fun i u wx h => (Jd wx ⟨Y, i, none⟩ lb u hlY).trans h
  exact hfar _ _ _ (hfar _ _ _ (hfar _ _ _ (hfar _ _ _ (hfar _ _ _ (hfar _ _ _ (hfar _ _ _ (hfar _ _ _ k3)))))))
 ·have hgs : ∀ i u (wx : World), w.grownBy wx (some lb) -> w.grownBy (wx.setCell ⟨Y, i, none⟩ u) (some lb) := fun i u wx h => ⟨h.os, h.tape, h.output, by simp [Qe]; exact h.size, fun b hb hne => (Jd wx ⟨Y, i, none⟩ b u (by show b ≠ Y; omega)).trans (h.block b hb hne)⟩
  exact hgs _ _ _ (hgs _ _ _ (hgs _ _ _ (hgs _ _ _ (hgs _ _ _ (hgs _ _ _ (hgs _ _ _ (hgs _ _ _ k4)))))))
theorem World.grownBy_refl' (w : World) (r : Option Nat) : w.grownBy w r := ⟨rfl, rfl, rfl, Qa _, fun _ _ _ => rfl⟩
theorem zG4 {w : World} {B g : Nat} {E : TypeId} {size n cap : Nat} {xs : List Value} (h : w.ownsRow B E size (.slice (some ⟨g, 0, none⟩) n cap) n xs) : g < w.heap.size := by
 rcases h.2 with ⟨h, _⟩ | ⟨g', cap', cur, h, hbg, hh, _⟩
 ·cases h
 ·cases h
  exact (Qf.1 hh).1
theorem zR1 (l : List Pt) (hl : l.length <= 1000000) (ih : ∀ (i : Nat) (q : Pt), l[i]? = some q -> FreshOK q) (ls : Value) (css : List (List Value)) (D L : Int) (w0 w : World) (db pb lb : Nat) (hs : RdS w0 8 ls css) (ht : RdTs w0 l css) (hlb : w0.heap.size <= lb) (hb : Below w0.heap.size w0 w) (hL : Lft w lb L) (hc : Cap w db pb lb D) (hD : (depL l : Int) + 1 <= D) (hD2 : D <= 1000000) (hct : (cntL l : Int) <= L) (hL2 : L <= 1000000) :
  Calls Tryz.prog 149 #[ls, .func (.func 197) #[] #[.pointer (some ⟨db, 0, none⟩), .pointer (some ⟨pb, 0, none⟩)]] w fun e w' => ∃ ls' css', e = .returned ls' ∧ RdSK w.heap.size w' 8 ls' css' ∧ RdAs w.heap.size w' l css' ∧ ∃ L', L <= L' + (cntL l : Int) ∧ L' <= L ∧ Lft w' lb L' ∧ w.grownBy w' (some lb) := by
 obtain ⟨ao, cap, rfl⟩ := zAk hs
 have hcl := zBy ht
 obtain ⟨n, hN⟩ : ∃ n, n = l.length := ⟨_, rfl⟩
 rw [hcl, <- hN] at hs ⊢
 rw [<- hN] at hl
 have HN := hid hN
 have HL0 := hid hL
 rcases Qq n with h0 | hpos
 ·subst h0
  have hle : l = [] := Qk.1 hN.symm
  subst hle
  clear hN hs ht hcl HN ih hb hc hL hD hct
  go_enter Tryz.func149, Tryz.ntmps149
  go_wp2_with fail
  go_ret
  exact ⟨.slice none 0 0, [], rfl, ⟨none, 0, rfl, ⟨fun _ => rfl, by simp⟩, fun k t hk => by simp at hk⟩, by unfold RdAs; trivial, L, by simp [cntL], Qv _, HL0.out, World.grownBy_refl' w _⟩
 have HS := hid hs
 have HT := hid ht
 have HB := hid hb
 have HIH := hid ih
 have HL := hid hL
 have HC := hid hc
 have HCT := hid hct
 have HLT := hid (zD8 hL)
 clear hs ht hb ih hcl hN hL hc hct
 obtain ⟨i0, hi, hz0, hz1, hz2⟩ := info_parts zJ6
 go_enter Tryz.func149, Tryz.ntmps149
 go_wp2_with (at_make; go_must (refine wpList_make_full _ rfl _ _ 63 rfl w.heap.size 65 i0 _ 8 Tryz.underlying63 hi hz0 hz1 .i64 .i64 _ _ n rfl rfl rfl rfl (by rw [hz2]; omega) (by unfold maxLen; omega) (Qa _) ?_); intro w1 hown1 hgrow1)
 have HO1 := hid hown1
 have HG1 := hid hgrow1
 obtain ⟨xs0, hxs0⟩ : ∃ xs0, xs0 = (madeCells (Value.agg #[.int .i64 0, .int .i64 0, .int .i64 0, .bool false, .int .i64 0, .int .i64 0, .slice none 0 0, .slice none 0 0]).cells (n * 8)).toList := ⟨_, rfl⟩
 rw [<- hxs0] at HO1
 obtain ⟨G, hG⟩ : ∃ G, G = w.heap.size := ⟨_, rfl⟩
 have HGG := hid hG
 rw [<- hG] at HO1 ⊢
 have hGi := zG4 HO1.out
 have HGI := hid hGi
 clear hown1 hgrow1 hxs0 hG hGi hi hz0 hz1 hz2
 go_wp2_with fail
 go_loopw [16] (fun i wr => ∃ q : Nat, ∃ L1 css1 xs, q <= n ∧ i = .int .i64 (q : Int) ∧ xs.length = n * 8 ∧ xs.take (q * 8) = Qw css1 ∧ RdAs (G + 1) wr (l.take q) css1 ∧ wr.ownsRow G 65 8 (.slice (some ⟨G, 0, none⟩) n n) n xs ∧ G < wr.heap.size ∧ L <= L1 + (cntL (l.take q) : Int) ∧ L1 <= L ∧ Lft wr lb L1 ∧ w.grownBy wr (some lb)) (fun i _ => n - (intOf i).toNat)
 case atStart => exact ⟨0, L, [], xs0, Qr _, rfl, HO1.out.1, by simp, by simp [RdAs], HO1.out, HGI.out, by simp [cntL], Qv _, (HG1.out.block lb HLT.out (by simp)).trans HL.out, ⟨HG1.out.os, HG1.out.tape, HG1.out.output, HG1.out.size, fun i hi _ => HG1.out.block i hi (by simp)⟩⟩
 case round =>
  obtain ⟨q, L1, css1, xs, hq, rfl, hxl, hxt, hra, hown, hgs, hc1, hc2, hlf, hg⟩ := hrel
  have HXL := hid hxl
  have HXT := hid hxt
  have HRA := hid hra
  have HO := hid hown
  have HGS := hid hgs
  have HC1 := hid hc1
  have HC2 := hid hc2
  have HLF := hid hlf
  have HG := hid hg
  have HBR := hid (HB.out.grown hg HB.out.size (fun k e => by cases e; exact hlb))
  clear hxl hxt hra hown hgs hc1 hc2 hlf hg
  by_cases hlt : q < n
  ·obtain ⟨p, hp⟩ : ∃ p, l[q]? = some p := ⟨_, Qb (by rw [<- HN.out]; exact hlt)⟩
   have HTK := hid (show l.take (q + 1) = l.take q ++ [p] by rw [Qx, hp]; rfl)
   obtain ⟨cs, hcs, hrd⟩ := zFq HT.out hp
   have HP := hid (HIH.out q p hp)
   have HCK := hid (zRy hp)
   have HCL := hid (zVo l (q + 1))
   have HDP := hid (zNg hp)
   clear hp
   have hat := (HS.out.kept HBR.out).at hcs
   have HRD := hid hrd
   obtain ⟨pk, pc, po, pv, pl⟩ := p
   unfold RdT1 at hrd
   obtain ⟨es, els, ecss, rfl, hok, hels, hets⟩ := hrd
   obtain ⟨sa, sc, hes⟩ := zAf hok.1
   obtain ⟨ea, ec, hel⟩ := zAk hels
   simp only at hes
   subst hes hel
   obtain ⟨pu, pvk, pvn, pb2⟩ := pv
   obtain ⟨b, off, rfl, hcell⟩ := hat
   have k0 : wr.cell? ⟨b, off + q * 8 + 0, none⟩ = some (.int .i64 pk) := hcell 0 _ rfl
   have k1 : wr.cell? ⟨b, off + q * 8 + 1, none⟩ = some (.int .i64 pc) := hcell 1 _ rfl
   have k2 : wr.cell? ⟨b, off + q * 8 + 2, none⟩ = some (.int .i64 po) := hcell 2 _ rfl
   have k3 : wr.cell? ⟨b, off + q * 8 + 3, none⟩ = some (.bool pu) := hcell 3 _ rfl
   have k4 : wr.cell? ⟨b, off + q * 8 + 4, none⟩ = some (.int .i64 pvk) := hcell 4 _ rfl
   have k5 : wr.cell? ⟨b, off + q * 8 + 5, none⟩ = some (.int .i64 pvn) := hcell 5 _ rfl
   have k6 : wr.cell? ⟨b, off + q * 8 + 6, none⟩ = some (.slice sa pb2.length sc) := hcell 6 _ rfl
   have k7 : wr.cell? ⟨b, off + q * 8 + 7, none⟩ = some (.slice ea ecss.length ec) := hcell 7 _ rfl
   simp only [Qj] at k0
   clear hok hels hets hcell hcs
   have HSZ := hid (show (wr.alloc (.cells #[.int .i64 pk, .int .i64 pc, .int .i64 po, .bool pu, .int .i64 pvk, .int .i64 pvn, .slice sa pb2.length sc, .slice ea ecss.length ec] 65)).heap.size = wr.heap.size + 1 by simp)
   have HCALL := hid (zR0 _ HP.out _ D L1 w0 (wr.alloc (.cells #[.int .i64 pk, .int .i64 pc, .int .i64 po, .bool pu, .int .i64 pvk, .int .i64 pvn, .slice sa pb2.length sc, .slice ea ecss.length ec] 65)) db pb lb HRD.out hlb (HBR.out.alloc HBR.out.size _) (zA2 HLF.out _) ((HC.out.grown HG.out).grown (Qd wr _ _)) (by have := HDP.out; omega) hD2 (by have := HC1.out; have := HC2.out; have := HCK.out; have := HCL.out; have := HCT.out; omega) (by have := HC2.out; omega))
   unfold cellsP at HCALL
   simp only at HCALL
   go_wp2_with fail
   refine HCALL.out.mono ?_
   rintro e w2 ⟨cs', rfl, ha, L2, g1, g2, g3, g4⟩
   have HW2 := hid (show L <= L2 + (cntL (l.take (q + 1)) : Int) ∧ L2 <= L ∧ Lft w2 lb L2 ∧ w.grownBy w2 (some lb) from ⟨by have := HC1.out; have := HCK.out; omega, by have := HC2.out; omega, g3, zAb (zAb HG.out (Qd wr _ _)) g4⟩)
   have HGW := hid (show wr.grownBy w2 (some lb) from zAb (Qd wr _ _) g4)
   have HA := hid ha
   unfold RdA1 at ha
   obtain ⟨s', ls', css', rfl, hok', hls', _⟩ := ha
   obtain ⟨sa', sc', hes'⟩ := zA6 hok'.1
   obtain ⟨ea', ec', hel'⟩ := zAk hls'.rd
   simp only at hes'
   subst hes' hel'
   have HO2 := hid (show w2.ownsRow G 65 8 (.slice (some ⟨G, 0, none⟩) n n) n xs from HO.out.kept HGW.out (.inr (by simp [Value.ownBlock]; have := HLT.out; have := HGG.out; omega)))
   have hx : ∀ j, j < 8 -> ∃ u, w2.cell? ⟨G, q * 8 + j, none⟩ = some u := fun j hj => by
    have hlt2 : q * 8 + j < xs.length := by rw [HXL.out]; omega
    exact ⟨_, (HO2.out.cellAt (q * 8 + j) (by omega)).trans (Qb hlt2)⟩
   obtain ⟨u0, c0⟩ := hx 0 (by decide)
   obtain ⟨u1, c1⟩ := hx 1 (by decide)
   obtain ⟨u2, c2⟩ := hx 2 (by decide)
   obtain ⟨u3, c3⟩ := hx 3 (by decide)
   obtain ⟨u4, c4⟩ := hx 4 (by decide)
   obtain ⟨u5, c5⟩ := hx 5 (by decide)
   obtain ⟨u6, c6⟩ := hx 6 (by decide)
   obtain ⟨u7, c7⟩ := hx 7 (by decide)
   have f0 := HO2.out.frozenAt (q * 8 + 0)
   have f1 := HO2.out.frozenAt (q * 8 + 1)
   have f2 := HO2.out.frozenAt (q * 8 + 2)
   have f3 := HO2.out.frozenAt (q * 8 + 3)
   have f4 := HO2.out.frozenAt (q * 8 + 4)
   have f5 := HO2.out.frozenAt (q * 8 + 5)
   have f6 := HO2.out.frozenAt (q * 8 + 6)
   have f7 := HO2.out.frozenAt (q * 8 + 7)
   simp only [Qj] at c0 f0
   clear hok' hls' hx k0 k1 k2 k3 k4 k5 k6 k7 g1 g2 g3 g4
   unfold cellsP
   simp only
   go_wp2_with fail
   go_roundw
   case rel =>
    have hst := (((((((((HO2.out.stored (q * 8) (.int .i64 pk)).1.stored (q * 8 + 1) (.int .i64 pc)).1.stored (q * 8 + 2) (.int .i64 po)).1.stored (q * 8 + 3) (.bool pu)).1.stored (q * 8 + 4) (.int .i64 pvk)).1.stored (q * 8 + 5) (.int .i64 pvn)).1.stored (q * 8 + 6) (.slice sa' pb2.length sc')).1.stored (q * 8 + 7) (.slice ea' css'.length ec')).1)
    have hset : ∀ K i u (wx : World), G < K -> Above K w2 wx -> Above K w2 (wx.setCell ⟨G, i, none⟩ u) := fun K i u wx hK h => zBp h _ _ hK
    have hab : ∀ K (hK : G < K), Above K w2 _ := fun K hK => hset K (q * 8 + 7) (.slice ea' css'.length ec') _ hK (hset K (q * 8 + 6) (.slice sa' pb2.length sc') _ hK (hset K (q * 8 + 5) (.int .i64 pvn) _ hK (hset K (q * 8 + 4) (.int .i64 pvk) _ hK (hset K (q * 8 + 3) (.bool pu) _ hK (hset K (q * 8 + 2) (.int .i64 po) _ hK (hset K (q * 8 + 1) (.int .i64 pc) _ hK (hset K (q * 8) (.int .i64 pk) _ hK (Above.refl _ _))))))))
    have hgl := HGS.out
    refine ⟨q + 1, L2, css1 ++ [cellsP pk pc po ⟨pu, pvk, pvn, pb2⟩ (.slice sa' pb2.length sc') (.slice ea' css'.length ec')], _, by omega, by go_num, ?_, ?_, ?_, hst, ?_, ?_⟩
    ·exact (zHn xs (q * 8) _ _ _ _ _ _ _ _).trans HXL.out
    ·rw [Qy, <- HXT.out, show (q + 1) * 8 = q * 8 + 8 by omega]
     exact zIh xs (q * 8) (by rw [HXL.out]; omega) _ _ _ _ _ _ _ _
    ·rw [HTK.out]
     refine RdAs.snoc (RdA1.above (K := wr.heap.size + 1) (w := w2) (hab _ (by omega)) (by omega) _ (by have := HA.out; rw [HSZ.out] at this; exact this)) ?_
     exact RdAs.above (K := G + 1) (w := wr) ((zJp HGW.out (by have := HLT.out; have := HGG.out; omega)).trans HGW.out.size (hab _ (by omega))) (Qa _) _ HRA.out
    ·simp [Qe]; have := HGW.out.size; omega
    ·obtain ⟨k1, k2, k3, k4⟩ := HW2.out
     have hne : lb ≠ G := by have := HLT.out; have := HGG.out; omega
     have hfar : ∀ i u (wx : World), Lft wx lb L2 -> Lft (wx.setCell ⟨G, i, none⟩ u) lb L2 := fun i u wx h => (Jd wx ⟨G, i, none⟩ lb u hne).trans h
     have hgs : ∀ i u (wx : World), w.grownBy wx (some lb) -> w.grownBy (wx.setCell ⟨G, i, none⟩ u) (some lb) := fun i u wx h => ⟨h.os, h.tape, h.output, by simp [Qe]; exact h.size, fun b hb hne => (Jd wx ⟨G, i, none⟩ b u (by show b ≠ G; have := HGG.out; omega)).trans (h.block b hb hne)⟩
     exact ⟨k1, k2, hfar _ _ _ (hfar _ _ _ (hfar _ _ _ (hfar _ _ _ (hfar _ _ _ (hfar _ _ _ (hfar _ _ _ (hfar _ _ _ k3))))))), hgs _ _ _ (hgs _ _ _ (hgs _ _ _ (hgs _ _ _ (hgs _ _ _ (hgs _ _ _ (hgs _ _ _ (hgs _ _ _ k4)))))))⟩
   case measure => simp [intOf]; omega
  ·have hqn : q = n := by omega
   have htk : l.take q = l := Qg (by rw [<- HN.out]; omega)
   have HF := hid (show RdSK w.heap.size wr 8 (.slice (some ⟨G, 0, none⟩) n n) css1 ∧ RdAs w.heap.size wr l css1 ∧ ∃ L', L <= L' + (cntL l : Int) ∧ L' <= L ∧ Lft wr lb L' ∧ w.grownBy wr (some lb) from by
    have h1 := HRA.out
    rw [htk] at h1
    have h2 := HXT.out
    rw [hqn, Qg (by rw [HXL.out]; exact Qa _)] at h2
    have h3 := HO.out
    rw [h2] at h3
    refine ⟨?_, RdAs.above (Above.refl _ _) (by have := HGG.out; omega) _ h1, L1, by have := HC1.out; rw [htk] at this; exact this, HC2.out, HLF.out, HG.out⟩
    rw [<- HGG.out]
    exact zC8 h3 (by rw [zJ5 h1, <- HN.out]) (zGe h1))
   clear htk hqn
   go_wp2_with fail
   go_ret
   exact ⟨_, css1, rfl, HF.out⟩
theorem zWh (w : World) (o1 o2 o3 o4 : Obj) : ((((w.alloc o1).alloc o2).alloc o3).alloc o4).heap[w.heap.size]? = some o1 ∧ ((((w.alloc o1).alloc o2).alloc o3).alloc o4).heap[w.heap.size + 1]? = some o2 ∧
  ((((w.alloc o1).alloc o2).alloc o3).alloc o4).heap[w.heap.size + 1 + 1]? = some o3 ∧ ((((w.alloc o1).alloc o2).alloc o3).alloc o4).heap[w.heap.size + 1 + 1 + 1]? = some o4 := by
 have s1 : (w.alloc o1).heap.size = w.heap.size + 1 := by simp
 have s2 : ((w.alloc o1).alloc o2).heap.size = w.heap.size + 1 + 1 := by simp
 have s3 : (((w.alloc o1).alloc o2).alloc o3).heap.size = w.heap.size + 1 + 1 + 1 := by simp
 refine ⟨?_, ?_, ?_, ?_⟩
 ·exact (heap_alloc_old _ o4 (by rw [s3]; omega)).trans ((heap_alloc_old _ o3 (by rw [s2]; omega)).trans ((heap_alloc_old _ o2 (by rw [s1]; omega)).trans (Je w o1)))
 ·have := Je (w.alloc o1) o2
  rw [s1] at this
  exact (heap_alloc_old _ o4 (by rw [s3]; omega)).trans ((heap_alloc_old _ o3 (by rw [s2]; omega)).trans this)
 ·have := Je ((w.alloc o1).alloc o2) o3
  rw [s2] at this
  exact (heap_alloc_old _ o4 (by rw [s3]; omega)).trans this
 ·have := Je (((w.alloc o1).alloc o2).alloc o3) o4
  rw [s3] at this
  exact this
theorem zT2 {w : World} {X : Nat} {a0 a1 a2 a3 a4 a5 a6 a7 b3 b4 b5 b6 : Value} {T : TypeId} (h : w.heap[X]? = some (.cells #[a0, a1, a2, a3, a4, a5, a6, a7] T (0, 0))) :
  ((((w.setCell ⟨X, 3, none⟩ b3).setCell ⟨X, 4, none⟩ b4).setCell ⟨X, 5, none⟩ b5).setCell ⟨X, 6, none⟩ b6).heap[X]? = some (.cells #[a0, a1, a2, b3, b4, b5, b6, a7] T (0, 0)) := by
 have h3 := Jc w X 3 _ _ b3 h
 have h4 := Jc _ X 4 _ _ b4 h3
 have h5 := Jc _ X 5 _ _ b5 h4
 have h6 := Jc _ X 6 _ _ b6 h5
 rw [h6]
 simp
theorem zT3 : ∀ (d : Nat) (p : Pt), depT p <= d -> FreshOK p := by
 intro d
 induction d with
 | zero =>
  intro p hp
  obtain ⟨k, c, o, v, l⟩ := p
  unfold depT at hp
  omega
 | succ d ih =>
  intro p hp
  obtain ⟨k, c, o, v, l⟩ := p
  have HIH : Hid (∀ (i : Nat) (q : Pt), l[i]? = some q -> FreshOK q) := hid fun i q hq => ih q (by have := zNg hq; unfold depT at hp; omega)
  clear ih hp
  intro cs D L w0 w lb hrd hlb hb hL hD hD2 hc hL2
  unfold RdT1 at hrd
  obtain ⟨s, ls, css, rfl, hok, hls, hts⟩ := hrd
  obtain ⟨sa, sc, hes⟩ := zAf hok.1
  obtain ⟨ea, ec, hel⟩ := zAk hls
  simp only at hes
  subst hes hel
  have hcl := zBy hts
  obtain ⟨n, hN⟩ : ∃ n, n = l.length := ⟨_, rfl⟩
  obtain ⟨vu, vk, vn, vb⟩ := v
  simp only at hok ⊢
  obtain ⟨m, hM⟩ : ∃ m, m = vb.length := ⟨_, rfl⟩
  rw [hcl, <- hN] at hls ⊢
  unfold depT at hD
  unfold cntT at hc
  simp only at hc
  rw [<- hN, <- hM] at hc
  rw [<- hM] at hok
  have hD0 : (1 : Int) <= D := by omega
  have hD1 : (D == 0) = false := by rw [beq_eq_false_iff_ne]; omega
  have hnm : (n : Int) + (m : Int) <= L := by omega
  have e0 : IntKind.i64.wrap ((n : Int) + (m : Int)) = (n : Int) + (m : Int) := Qz _ (by omega)
  have e1 : IntKind.i64.wrap (L - ((n : Int) + (m : Int))) = L - ((n : Int) + (m : Int)) := Qz _ (by omega)
  have HD := hid hD
  have HC := hid hc
  have HN := hid hN
  have HM := hid hM
  have HLS := hid hls
  have HTS := hid hts
  have HOK := hid hok
  have HB := hid hb
  have HL := hid hL
  have c0 : ∀ o1 o2 o3 o4, ((((w.alloc o1).alloc o2).alloc o3).alloc o4).cell? ⟨lb, 0, none⟩ = some (.int .i64 L) := fun o1 o2 o3 o4 => by rw [Ja _ lb 0 _ _ _ (zA2 (zA2 (zA2 (zA2 hL o1) o2) o3) o4)]; rfl
  have f0 : ∀ o1 o2 o3 o4, ((((w.alloc o1).alloc o2).alloc o3).alloc o4).frozen? ⟨lb, 0, none⟩ = false := fun o1 o2 o3 o4 => Jb _ lb 0 _ _ (zA2 (zA2 (zA2 (zA2 hL o1) o2) o3) o4)
  have llt := zD8 hL
  clear hD hc hls hts hok hb hL hN hM hcl
  unfold cellsP
  simp only
  rw [<- HM.out]
  go_enter Tryz.func187, Tryz.ntmps187
  go_wp2_with fail
  go_region
  obtain ⟨W2, hW2⟩ : ∃ W2 : World, W2 = (((((w.alloc (.cells #[.int .i64 k, .int .i64 c, .int .i64 o, .bool vu, .int .i64 vk, .int .i64 vn, .slice sa m sc, .slice ea n ec] 65)).alloc (.cells #[.int .i64 D] 3)).alloc (.cells #[.pointer (some ⟨lb, 0, none⟩)] 147)).alloc (.cells #[.int .i64 0, .int .i64 0, .int .i64 0, .bool false, .int .i64 0, .int .i64 0, .slice none 0 0, .slice none 0 0] 65)).setCell ⟨lb, 0, none⟩ (.int .i64 (L - ((n : Int) + (m : Int))))).drew := ⟨_, rfl⟩
  rw [<- hW2]
  obtain ⟨y0, y1, y2, y3⟩ := zWh w (.cells #[.int .i64 k, .int .i64 c, .int .i64 o, .bool vu, .int .i64 vk, .int .i64 vn, .slice sa m sc, .slice ea n ec] 65) (.cells #[.int .i64 D] 3) (.cells #[.pointer (some ⟨lb, 0, none⟩)] 147) (.cells #[.int .i64 0, .int .i64 0, .int .i64 0, .bool false, .int .i64 0, .int .i64 0, .slice none 0 0, .slice none 0 0] 65)
  have hoth : ∀ b, b ≠ lb -> W2.heap[b]? = ((((w.alloc (.cells #[.int .i64 k, .int .i64 c, .int .i64 o, .bool vu, .int .i64 vk, .int .i64 vn, .slice sa m sc, .slice ea n ec] 65)).alloc (.cells #[.int .i64 D] 3)).alloc (.cells #[.pointer (some ⟨lb, 0, none⟩)] 147)).alloc (.cells #[.int .i64 0, .int .i64 0, .int .i64 0, .bool false, .int .i64 0, .int .i64 0, .slice none 0 0, .slice none 0 0] 65)).heap[b]? := fun b hb => by
   rw [hW2]
   exact Jd _ ⟨lb, 0, none⟩ b _ hb
  have hl2 : Lft W2 lb (L - ((n : Int) + (m : Int))) := by
   rw [hW2]
   exact Jc _ lb 0 _ _ _ (zA2 (zA2 (zA2 (zA2 HL.out _) _) _) _)
  have HB2 := hid (show Below w0.heap.size w0 W2 by
   rw [hW2]
   exact (((((HB.out.alloc HB.out.size _).alloc (by simp; have := HB.out.size; omega) _).alloc (by simp; have := HB.out.size; omega) _).alloc (by simp; have := HB.out.size; omega) _).setCell (p := ⟨lb, 0, none⟩) hlb _).trans (zAe _ _))
  have HG2 := hid (show w.grownBy W2 (some lb) by
   rw [hW2]
   exact zAb (zAb (zAb (zAb (zAb (Qd w _ _) (Qd _ _ _)) (Qd _ _ _)) (Qd _ _ _)) (zAj _ ⟨lb, 0, none⟩ _)) (zA0 _ _ 1))
  have HSZ := hid (show W2.heap.size = w.heap.size + 4 by rw [hW2]; simp [Qe])
  rw [<- hoth _ (by omega)] at y0 y1 y2 y3
  obtain ⟨X, hX⟩ : ∃ X, X = w.heap.size := ⟨_, rfl⟩
  have HX := hid hX
  have HLT := hid llt
  rw [<- hX] at y0 y1 y2 y3 ⊢
  have HY0 := hid y0
  have HY1 := hid y1
  have HY2 := hid y2
  have HY3 := hid y3
  have HL2 := hid hl2
  have pc0 : W2.cell? ⟨X, 0, none⟩ = some (.int .i64 k) := by rw [Ja W2 X 0 _ _ _ y0]; rfl
  have pf0 : W2.frozen? ⟨X, 0, none⟩ = false := Jb W2 X 0 _ _ y0
  have pc1 : W2.cell? ⟨X, 1, none⟩ = some (.int .i64 c) := by rw [Ja W2 X 1 _ _ _ y0]; rfl
  have pf1 : W2.frozen? ⟨X, 1, none⟩ = false := Jb W2 X 1 _ _ y0
  have pc2 : W2.cell? ⟨X, 2, none⟩ = some (.int .i64 o) := by rw [Ja W2 X 2 _ _ _ y0]; rfl
  have pf2 : W2.frozen? ⟨X, 2, none⟩ = false := Jb W2 X 2 _ _ y0
  have pc3 : W2.cell? ⟨X, 3, none⟩ = some (.bool vu) := by rw [Ja W2 X 3 _ _ _ y0]; rfl
  have pf3 : W2.frozen? ⟨X, 3, none⟩ = false := Jb W2 X 3 _ _ y0
  have pc4 : W2.cell? ⟨X, 4, none⟩ = some (.int .i64 vk) := by rw [Ja W2 X 4 _ _ _ y0]; rfl
  have pf4 : W2.frozen? ⟨X, 4, none⟩ = false := Jb W2 X 4 _ _ y0
  have pc5 : W2.cell? ⟨X, 5, none⟩ = some (.int .i64 vn) := by rw [Ja W2 X 5 _ _ _ y0]; rfl
  have pf5 : W2.frozen? ⟨X, 5, none⟩ = false := Jb W2 X 5 _ _ y0
  have pc6 : W2.cell? ⟨X, 6, none⟩ = some (.slice sa m sc) := by rw [Ja W2 X 6 _ _ _ y0]; rfl
  have pf6 : W2.frozen? ⟨X, 6, none⟩ = false := Jb W2 X 6 _ _ y0
  have pc7 : W2.cell? ⟨X, 7, none⟩ = some (.slice ea n ec) := by rw [Ja W2 X 7 _ _ _ y0]; rfl
  have pf7 : W2.frozen? ⟨X, 7, none⟩ = false := Jb W2 X 7 _ _ y0
  have d1 : W2.cell? ⟨X + 1, 0, none⟩ = some (.int .i64 D) := by rw [Ja W2 (X + 1) 0 _ _ _ y1]; rfl
  have d2 : W2.cell? ⟨X + 1 + 1, 0, none⟩ = some (.pointer (some ⟨lb, 0, none⟩)) := by rw [Ja W2 (X + 1 + 1) 0 _ _ _ y2]; rfl
  have dl : W2.cell? ⟨lb, 0, none⟩ = some (.int .i64 (L - ((n : Int) + (m : Int)))) := by rw [Ja W2 lb 0 _ _ _ hl2]; rfl
  have hneg : decide (L - ((n : Int) + (m : Int)) < 0) = false := by rw [decide_eq_false_iff_not]; omega
  have HFV := hid (zJ4 (⟨vu, vk, vn, vb⟩, .slice sa m sc) W2 (HOK.out.kept HB2.out) (by have := HM.out; simp only; omega))
  unfold aggV at HFV
  simp only at HFV
  clear hW2 hoth hl2 y0 y1 y2 y3 hX llt c0 f0
  go_wp2_with fail
  refine HFV.out.mono ?_
  rintro e W3 ⟨s', rfl, hrb, hb3⟩
  obtain ⟨sa', sc', hs'⟩ := zA6 hrb
  rw [<- HM.out] at hs'
  subst hs'
  have HRB := hid hrb
  have HB3 := hid hb3
  have HZ0 := hid ((hb3.block X (by rw [HSZ.out]; have := HX.out; omega)).trans HY0.out)
  have hz0 := HZ0.out
  clear hrb hb3 HFV pc0 pc1 pc2 pc3 pc4 pc5 pc6 pc7 pf0 pf1 pf2 pf3 pf4 pf5 pf6 pf7 d1 d2 dl hneg
  have qc0 : W3.cell? ⟨X, 0, none⟩ = some (.int .i64 k) := by rw [Ja W3 X 0 _ _ _ hz0]; rfl
  have qf0 : W3.frozen? ⟨X, 0, none⟩ = false := Jb W3 X 0 _ _ hz0
  have qc1 : W3.cell? ⟨X, 1, none⟩ = some (.int .i64 c) := by rw [Ja W3 X 1 _ _ _ hz0]; rfl
  have qf1 : W3.frozen? ⟨X, 1, none⟩ = false := Jb W3 X 1 _ _ hz0
  have qc2 : W3.cell? ⟨X, 2, none⟩ = some (.int .i64 o) := by rw [Ja W3 X 2 _ _ _ hz0]; rfl
  have qf2 : W3.frozen? ⟨X, 2, none⟩ = false := Jb W3 X 2 _ _ hz0
  have qc3 : W3.cell? ⟨X, 3, none⟩ = some (.bool vu) := by rw [Ja W3 X 3 _ _ _ hz0]; rfl
  have qf3 : W3.frozen? ⟨X, 3, none⟩ = false := Jb W3 X 3 _ _ hz0
  have qc4 : W3.cell? ⟨X, 4, none⟩ = some (.int .i64 vk) := by rw [Ja W3 X 4 _ _ _ hz0]; rfl
  have qf4 : W3.frozen? ⟨X, 4, none⟩ = false := Jb W3 X 4 _ _ hz0
  have qc5 : W3.cell? ⟨X, 5, none⟩ = some (.int .i64 vn) := by rw [Ja W3 X 5 _ _ _ hz0]; rfl
  have qf5 : W3.frozen? ⟨X, 5, none⟩ = false := Jb W3 X 5 _ _ hz0
  have qc6 : W3.cell? ⟨X, 6, none⟩ = some (.slice sa m sc) := by rw [Ja W3 X 6 _ _ _ hz0]; rfl
  have qf6 : W3.frozen? ⟨X, 6, none⟩ = false := Jb W3 X 6 _ _ hz0
  have qc7 : W3.cell? ⟨X, 7, none⟩ = some (.slice ea n ec) := by rw [Ja W3 X 7 _ _ _ hz0]; rfl
  have qf7 : W3.frozen? ⟨X, 7, none⟩ = false := Jb W3 X 7 _ _ hz0
  clear hz0
  go_wp2_with fail
  obtain ⟨W4, hW4⟩ : ∃ W4 : World, W4 = ((((W3.setCell ⟨X, 3, none⟩ (.bool vu)).setCell ⟨X, 4, none⟩ (.int .i64 vk)).setCell ⟨X, 5, none⟩ (.int .i64 vn)).setCell ⟨X, 6, none⟩ (.slice sa' m sc')) := ⟨_, rfl⟩
  rw [<- hW4]
  have hx := HX.out
  have hlt := HLT.out
  have hoth4 : ∀ b, b ≠ X -> W4.heap[b]? = W3.heap[b]? := fun b hb => by
   rw [hW4]
   exact (Jd _ ⟨X, 6, none⟩ b _ hb).trans ((Jd _ ⟨X, 5, none⟩ b _ hb).trans ((Jd _ ⟨X, 4, none⟩ b _ hb).trans (Jd _ ⟨X, 3, none⟩ b _ hb)))
  have HS34 := hid (show W4.heap.size = W3.heap.size by rw [hW4]; simp [Qe])
  have hsz3 := HB3.out.size
  rw [HSZ.out] at hsz3
  have old3 : ∀ b, b < w.heap.size + 4 -> W3.heap[b]? = W2.heap[b]? := fun b hb => HB3.out.block b (by rw [HSZ.out]; exact hb)
  have HX4 := hid (show W4.heap[X]? = some (.cells #[.int .i64 k, .int .i64 c, .int .i64 o, .bool vu, .int .i64 vk, .int .i64 vn, .slice sa' m sc', .slice ea n ec] 65 (0, 0)) by rw [hW4]; exact zT2 HZ0.out)
  have HL4 := hid (show Lft W4 lb (L - ((n : Int) + (m : Int))) from (hoth4 lb (by omega)).trans ((old3 lb (by omega)).trans HL2.out))
  have HCAP := hid (show Cap W4 (X + 1) (X + 1 + 1) lb D from ⟨(hoth4 _ (by omega)).trans ((old3 _ (by omega)).trans HY1.out), (hoth4 _ (by omega)).trans ((old3 _ (by omega)).trans HY2.out), by omega, by omega⟩)
  have HR4 := hid ((hoth4 (X + 1 + 1 + 1) (by omega)).trans ((old3 _ (by omega)).trans HY3.out))
  have HB4 := hid (show Below w0.heap.size w0 W4 by
   have h3 := HB2.out.trans (HB3.out.mono HB2.out.size)
   have h0 := HB.out.size
   rw [hW4]
   exact (((h3.setCell (p := ⟨X, 3, none⟩) (by show _ <= X; omega) _).setCell (p := ⟨X, 4, none⟩) (by show _ <= X; omega) _).setCell (p := ⟨X, 5, none⟩) (by show _ <= X; omega) _).setCell (p := ⟨X, 6, none⟩) (by show _ <= X; omega) _)
  have HG4 := hid (show w.grownBy W4 (some lb) by
   have h3 : w.grownBy W3 (some lb) := zAb HG2.out ⟨HB3.out.os, HB3.out.tape, HB3.out.output, HB3.out.size, fun i hi _ => HB3.out.block i hi⟩
   refine ⟨?_, ?_, ?_, by rw [HS34.out]; exact h3.size, fun b hb hne => (hoth4 b (by omega)).trans (h3.block b hb hne)⟩
   ·rw [hW4]; exact h3.os
   ·rw [hW4]; exact h3.tape
   ·rw [hW4]; exact h3.output)
  have HA4 := hid (show Above W2.heap.size W3 W4 from fun b h1 h2 => hoth4 b (by rw [HSZ.out] at h1; omega))
  have HCALL := hid (zR1 l (by have := HN.out; have := HC.out; omega) HIH.out (.slice ea n ec) css D (L - ((n : Int) + (m : Int))) w0 W4 (X + 1) (X + 1 + 1) lb HLS.out HTS.out hlb HB4.out HL4.out HCAP.out (by have := HD.out; omega) hD2 (by have := HC.out; omega) (by omega))
  clear hW4 hoth4 old3 qc0 qc1 qc2 qc3 qc4 qc5 qc6 qc7 qf0 qf1 qf2 qf3 qf4 qf5 qf6 qf7
  refine HCALL.out.mono ?_
  rintro e W5 ⟨ls', css', rfl, hsk, has, L5, g1, g2, g3, g4⟩
  obtain ⟨ea', ec', hel'⟩ := zAk hsk.rd
  subst hel'
  have hsz4 : X + 4 <= W4.heap.size := by rw [HS34.out]; omega
  have x5 := (g4.block X (by omega) (fun e => by cases e; omega)).trans HX4.out
  have r5 := (g4.block (X + 1 + 1 + 1) (by omega) (fun e => by cases e; omega)).trans HR4.out
  have HX5 := hid x5
  have HR5 := hid r5
  have HSK := hid hsk
  have HAS := hid has
  have HGF := hid (show L <= L5 + ((n : Int) + (m : Int)) + (cntL l : Int) ∧ L5 <= L ∧ Lft W5 lb L5 ∧ w.grownBy W5 (some lb) ∧ Above W2.heap.size W3 W5 ∧ W3.heap.size <= W5.heap.size from
   ⟨by omega, by omega, g3, zAb HG4.out g4, HA4.out.trans (by rw [HS34.out]; exact Qa _) (zJp g4 (by rw [HSZ.out]; omega)), by rw [<- HS34.out]; exact g4.size⟩)
  have HSZ4 := hid hsz4
  have HSZ3 := hid hsz3
  have xc0 : W5.cell? ⟨X, 0, none⟩ = some (.int .i64 k) := by rw [Ja W5 X 0 _ _ _ x5]; rfl
  have xf0 : W5.frozen? ⟨X, 0, none⟩ = false := Jb W5 X 0 _ _ x5
  have xc1 : W5.cell? ⟨X, 1, none⟩ = some (.int .i64 c) := by rw [Ja W5 X 1 _ _ _ x5]; rfl
  have xf1 : W5.frozen? ⟨X, 1, none⟩ = false := Jb W5 X 1 _ _ x5
  have xc2 : W5.cell? ⟨X, 2, none⟩ = some (.int .i64 o) := by rw [Ja W5 X 2 _ _ _ x5]; rfl
  have xf2 : W5.frozen? ⟨X, 2, none⟩ = false := Jb W5 X 2 _ _ x5
  have xc3 : W5.cell? ⟨X, 3, none⟩ = some (.bool vu) := by rw [Ja W5 X 3 _ _ _ x5]; rfl
  have xf3 : W5.frozen? ⟨X, 3, none⟩ = false := Jb W5 X 3 _ _ x5
  have xc4 : W5.cell? ⟨X, 4, none⟩ = some (.int .i64 vk) := by rw [Ja W5 X 4 _ _ _ x5]; rfl
  have xf4 : W5.frozen? ⟨X, 4, none⟩ = false := Jb W5 X 4 _ _ x5
  have xc5 : W5.cell? ⟨X, 5, none⟩ = some (.int .i64 vn) := by rw [Ja W5 X 5 _ _ _ x5]; rfl
  have xf5 : W5.frozen? ⟨X, 5, none⟩ = false := Jb W5 X 5 _ _ x5
  have xc6 : W5.cell? ⟨X, 6, none⟩ = some (.slice sa' m sc') := by rw [Ja W5 X 6 _ _ _ x5]; rfl
  have xf6 : W5.frozen? ⟨X, 6, none⟩ = false := Jb W5 X 6 _ _ x5
  have xc7 : W5.cell? ⟨X, 7, none⟩ = some (.slice ea n ec) := by rw [Ja W5 X 7 _ _ _ x5]; rfl
  have xf7 : W5.frozen? ⟨X, 7, none⟩ = false := Jb W5 X 7 _ _ x5
  have rc0 : W5.cell? ⟨X + 1 + 1 + 1, 0, none⟩ = some (.int .i64 0) := by rw [Ja W5 (X + 1 + 1 + 1) 0 _ _ _ r5]; rfl
  have rf0 : W5.frozen? ⟨X + 1 + 1 + 1, 0, none⟩ = false := Jb W5 (X + 1 + 1 + 1) 0 _ _ r5
  have rc1 : W5.cell? ⟨X + 1 + 1 + 1, 1, none⟩ = some (.int .i64 0) := by rw [Ja W5 (X + 1 + 1 + 1) 1 _ _ _ r5]; rfl
  have rf1 : W5.frozen? ⟨X + 1 + 1 + 1, 1, none⟩ = false := Jb W5 (X + 1 + 1 + 1) 1 _ _ r5
  have rc2 : W5.cell? ⟨X + 1 + 1 + 1, 2, none⟩ = some (.int .i64 0) := by rw [Ja W5 (X + 1 + 1 + 1) 2 _ _ _ r5]; rfl
  have rf2 : W5.frozen? ⟨X + 1 + 1 + 1, 2, none⟩ = false := Jb W5 (X + 1 + 1 + 1) 2 _ _ r5
  have rc3 : W5.cell? ⟨X + 1 + 1 + 1, 3, none⟩ = some (.bool false) := by rw [Ja W5 (X + 1 + 1 + 1) 3 _ _ _ r5]; rfl
  have rf3 : W5.frozen? ⟨X + 1 + 1 + 1, 3, none⟩ = false := Jb W5 (X + 1 + 1 + 1) 3 _ _ r5
  have rc4 : W5.cell? ⟨X + 1 + 1 + 1, 4, none⟩ = some (.int .i64 0) := by rw [Ja W5 (X + 1 + 1 + 1) 4 _ _ _ r5]; rfl
  have rf4 : W5.frozen? ⟨X + 1 + 1 + 1, 4, none⟩ = false := Jb W5 (X + 1 + 1 + 1) 4 _ _ r5
  have rc5 : W5.cell? ⟨X + 1 + 1 + 1, 5, none⟩ = some (.int .i64 0) := by rw [Ja W5 (X + 1 + 1 + 1) 5 _ _ _ r5]; rfl
  have rf5 : W5.frozen? ⟨X + 1 + 1 + 1, 5, none⟩ = false := Jb W5 (X + 1 + 1 + 1) 5 _ _ r5
  have rc6 : W5.cell? ⟨X + 1 + 1 + 1, 6, none⟩ = some (.slice none 0 0) := by rw [Ja W5 (X + 1 + 1 + 1) 6 _ _ _ r5]; rfl
  have rf6 : W5.frozen? ⟨X + 1 + 1 + 1, 6, none⟩ = false := Jb W5 (X + 1 + 1 + 1) 6 _ _ r5
  have rc7 : W5.cell? ⟨X + 1 + 1 + 1, 7, none⟩ = some (.slice none 0 0) := by rw [Ja W5 (X + 1 + 1 + 1) 7 _ _ _ r5]; rfl
  have rf7 : W5.frozen? ⟨X + 1 + 1 + 1, 7, none⟩ = false := Jb W5 (X + 1 + 1 + 1) 7 _ _ r5
  have hne : X ≠ X + 1 + 1 + 1 := by omega
  have hne2 : X + 1 + 1 + 1 ≠ X := by omega
  clear g1 g2 g3 g4 hsk has x5 r5 HCALL hsz4 hsz3 hlt hx
  go_wp2_with fail
  refine bodyPost_ret (results_cell_row rfl _ _ (X + 1 + 1 + 1) _ _ (0, 0) _ rfl (zD9 (show (W5.setCell ⟨X, 7, none⟩ (.slice ea' css'.length ec')).heap[X + 1 + 1 + 1]? = _ from (Jd W5 ⟨X, 7, none⟩ (X + 1 + 1 + 1) _ hne2).trans HR5.out)) Tryz.underlying65 rfl zE4) rfl ?_
  have hx := HX.out
  have hlt := HLT.out
  obtain ⟨k1, k2, k3, k4, k5, k6⟩ := HGF.out
  have hset : ∀ K b i u (wy wx : World), b < K -> Above K wy wx -> Above K wy (wx.setCell ⟨b, i, none⟩ u) := fun K b i u wy wx hK h => zBp h _ _ hK
  have hab : ∀ K, X + 4 <= K -> Above K W5 _ := fun K hK => hset K (X + 1 + 1 + 1) 7 (.slice ea' css'.length ec') _ _ (by omega) (hset K (X + 1 + 1 + 1) 6 (.slice sa' m sc') _ _ (by omega) (hset K (X + 1 + 1 + 1) 5 (.int .i64 vn) _ _ (by omega) (hset K (X + 1 + 1 + 1) 4 (.int .i64 vk) _ _ (by omega) (hset K (X + 1 + 1 + 1) 3 (.bool vu) _ _ (by omega) (hset K (X + 1 + 1 + 1) 2 (.int .i64 o) _ _ (by omega) (hset K (X + 1 + 1 + 1) 1 (.int .i64 c) _ _ (by omega) (hset K (X + 1 + 1 + 1) 0 (.int .i64 k) _ _ (by omega) (hset K X 7 (.slice ea' css'.length ec') _ _ (by omega) (Above.refl K W5)))))))))
  refine ⟨cellsP k c o ⟨vu, vk, vn, vb⟩ (.slice sa' m sc') (.slice ea' css'.length ec'), rfl, ?_, L5, ?_, k2, ?_, ?_⟩
  ·unfold RdA1
   refine ⟨.slice sa' m sc', .slice ea' css'.length ec', css', rfl, ⟨?_, ?_⟩, ?_, ?_⟩
   ·exact RdB.above (K := W2.heap.size) (w := W3) HRB.out (k5.trans k6 (hab _ (by rw [HSZ.out]; omega))) (by rw [HSZ.out]; omega)
   ·exact HOK.out.2
   ·exact HSK.out.above (hab _ HSZ4.out) (by have := HSZ4.out; omega)
   ·exact RdAs.above (hab _ HSZ4.out) (by have := HSZ4.out; omega) _ HAS.out
  ·unfold cntT
   simp only
   rw [<- HN.out, <- HM.out]
   omega
  ·have hfar : ∀ b i u (wx : World), lb ≠ b -> Lft wx lb L5 -> Lft (wx.setCell ⟨b, i, none⟩ u) lb L5 := fun b i u wx hb h => (Jd wx ⟨b, i, none⟩ lb u hb).trans h
   exact hfar _ _ _ _ (by omega) (hfar _ _ _ _ (by omega) (hfar _ _ _ _ (by omega) (hfar _ _ _ _ (by omega) (hfar _ _ _ _ (by omega) (hfar _ _ _ _ (by omega) (hfar _ _ _ _ (by omega) (hfar _ _ _ _ (by omega) (hfar _ _ _ _ (by omega) k3))))))))
  ·have hgs : ∀ b i u (wx : World), w.heap.size <= b -> w.grownBy wx (some lb) -> w.grownBy (wx.setCell ⟨b, i, none⟩ u) (some lb) := fun b i u wx hb h => ⟨h.os, h.tape, h.output, by simp [Qe]; exact h.size, fun x hx hne => (Jd wx ⟨b, i, none⟩ x u (by show x ≠ b; omega)).trans (h.block x hx hne)⟩
   exact hgs _ _ _ _ (by omega) (hgs _ _ _ _ (by omega) (hgs _ _ _ _ (by omega) (hgs _ _ _ _ (by omega) (hgs _ _ _ _ (by omega) (hgs _ _ _ _ (by omega) (hgs _ _ _ _ (by omega) (hgs _ _ _ _ (by omega) (hgs _ _ _ _ (by omega) k4))))))))
def PredOK (p : Pt) : Prop := ∀ (cs : List Value) (w : World), RdT1 w p cs ->
 Calls Tryz.prog 150 #[.agg cs.toArray] w fun e w' => ∃ cs', e = .returned (.agg cs'.toArray) ∧ RdA1 w.heap.size w' p cs' ∧ Below w.heap.size w w'
theorem zKv (w : World) (o1 o2 o3 : Obj) : (((w.alloc o1).alloc o2).alloc o3).heap[w.heap.size + 1]? = some o2 ∧ (((w.alloc o1).alloc o2).alloc o3).heap[w.heap.size + 1 + 1]? = some o3 := by
 have s1 : (w.alloc o1).heap.size = w.heap.size + 1 := by simp
 have s2 : ((w.alloc o1).alloc o2).heap.size = w.heap.size + 1 + 1 := by simp
 refine ⟨?_, ?_⟩
 ·have := Je (w.alloc o1) o2
  rw [s1] at this
  exact (heap_alloc_old _ o3 (by rw [s2]; omega)).trans this
 ·have := Je ((w.alloc o1).alloc o2) o3
  rw [s2] at this
  exact this
theorem zR2 (p : Pt) (hd : depT p <= 1000) (hc : cntT p <= 65536) : PredOK p := by
 intro cs w hr
 have HF := hid (zT3 _ p (Qa _))
 have HR := hid hr
 obtain ⟨k, c, o, v, l⟩ := p
 unfold RdT1 at hr
 obtain ⟨s, ls, css, rfl, hok, hls, hts⟩ := hr
 obtain ⟨sa, sc, hes⟩ := zAf hok.1
 obtain ⟨ea, ec, hel⟩ := zAk hls
 simp only at hes
 subst hes hel
 obtain ⟨vu, vk, vn, vb⟩ := v
 simp only at HR HF ⊢
 obtain ⟨y1, y2⟩ := zKv w (.cells #[.int .i64 k, .int .i64 c, .int .i64 o, .bool vu, .int .i64 vk, .int .i64 vn, .slice sa vb.length sc, .slice ea css.length ec] 65) (.cells #[.int .i64 0, .int .i64 0, .int .i64 0, .bool false, .int .i64 0, .int .i64 0, .slice none 0 0, .slice none 0 0] 65) (.cells #[.int .i64 65536] 3)
 have HB1 := hid (zDn w (.cells #[.int .i64 k, .int .i64 c, .int .i64 o, .bool vu, .int .i64 vk, .int .i64 vn, .slice sa vb.length sc, .slice ea css.length ec] 65) (.cells #[.int .i64 0, .int .i64 0, .int .i64 0, .bool false, .int .i64 0, .int .i64 0, .slice none 0 0, .slice none 0 0] 65) (.cells #[.int .i64 65536] 3))
 have HSZ := hid (show (((w.alloc (.cells #[.int .i64 k, .int .i64 c, .int .i64 o, .bool vu, .int .i64 vk, .int .i64 vn, .slice sa vb.length sc, .slice ea css.length ec] 65)).alloc (.cells #[.int .i64 0, .int .i64 0, .int .i64 0, .bool false, .int .i64 0, .int .i64 0, .slice none 0 0, .slice none 0 0] 65)).alloc (.cells #[.int .i64 65536] 3)).heap.size = w.heap.size + 3 by simp)
 have HCALL := hid (HF.out _ 1000 65536 w (((w.alloc (.cells #[.int .i64 k, .int .i64 c, .int .i64 o, .bool vu, .int .i64 vk, .int .i64 vn, .slice sa vb.length sc, .slice ea css.length ec] 65)).alloc (.cells #[.int .i64 0, .int .i64 0, .int .i64 0, .bool false, .int .i64 0, .int .i64 0, .slice none 0 0, .slice none 0 0] 65)).alloc (.cells #[.int .i64 65536] 3)) (w.heap.size + 1 + 1) HR.out (by omega) HB1.out y2 (by omega) (by decide) (by omega) (by decide))
 have HY1 := hid y1
 clear y1 y2 hok hls hts HF
 unfold cellsP at HCALL ⊢
 simp only at HCALL ⊢
 go_enter Tryz.func150, Tryz.ntmps150
 go_wp2_with fail
 refine HCALL.out.mono ?_
 rintro e w2 ⟨cs', rfl, ha, L2, g1, g2, g3, g4⟩
 have HA := hid ha
 unfold RdA1 at ha
 obtain ⟨s', ls', css', rfl, hok', hls', _⟩ := ha
 obtain ⟨sa', sc', hes'⟩ := zA6 hok'.1
 obtain ⟨ea', ec', hel'⟩ := zAk hls'.rd
 simp only at hes'
 subst hes' hel'
 obtain ⟨Y, hY⟩ : ∃ Y, Y = w.heap.size + 1 := ⟨_, rfl⟩
 have h2 : w2.heap[Y]? = some (.cells #[.int .i64 0, .int .i64 0, .int .i64 0, .bool false, .int .i64 0, .int .i64 0, .slice none 0 0, .slice none 0 0] 65 (0, 0)) := by
  rw [hY]
  exact (g4.block (w.heap.size + 1) (by rw [HSZ.out]; omega) (fun e => by have := Option.some.inj e; omega)).trans HY1.out
 have HY := hid hY
 have H2 := hid h2
 have HB2 := hid (show Below w.heap.size w w2 from HB1.out.grown g4 (by rw [HSZ.out]; omega) (fun k e => by cases e; omega))
 rw [<- hY]
 have zc0 : w2.cell? ⟨Y, 0, none⟩ = some (.int .i64 0) := by rw [Ja w2 Y 0 _ _ _ h2]; rfl
 have zf0 : w2.frozen? ⟨Y, 0, none⟩ = false := Jb w2 Y 0 _ _ h2
 have zc1 : w2.cell? ⟨Y, 1, none⟩ = some (.int .i64 0) := by rw [Ja w2 Y 1 _ _ _ h2]; rfl
 have zf1 : w2.frozen? ⟨Y, 1, none⟩ = false := Jb w2 Y 1 _ _ h2
 have zc2 : w2.cell? ⟨Y, 2, none⟩ = some (.int .i64 0) := by rw [Ja w2 Y 2 _ _ _ h2]; rfl
 have zf2 : w2.frozen? ⟨Y, 2, none⟩ = false := Jb w2 Y 2 _ _ h2
 have zc3 : w2.cell? ⟨Y, 3, none⟩ = some (.bool false) := by rw [Ja w2 Y 3 _ _ _ h2]; rfl
 have zf3 : w2.frozen? ⟨Y, 3, none⟩ = false := Jb w2 Y 3 _ _ h2
 have zc4 : w2.cell? ⟨Y, 4, none⟩ = some (.int .i64 0) := by rw [Ja w2 Y 4 _ _ _ h2]; rfl
 have zf4 : w2.frozen? ⟨Y, 4, none⟩ = false := Jb w2 Y 4 _ _ h2
 have zc5 : w2.cell? ⟨Y, 5, none⟩ = some (.int .i64 0) := by rw [Ja w2 Y 5 _ _ _ h2]; rfl
 have zf5 : w2.frozen? ⟨Y, 5, none⟩ = false := Jb w2 Y 5 _ _ h2
 have zc6 : w2.cell? ⟨Y, 6, none⟩ = some (.slice none 0 0) := by rw [Ja w2 Y 6 _ _ _ h2]; rfl
 have zf6 : w2.frozen? ⟨Y, 6, none⟩ = false := Jb w2 Y 6 _ _ h2
 have zc7 : w2.cell? ⟨Y, 7, none⟩ = some (.slice none 0 0) := by rw [Ja w2 Y 7 _ _ _ h2]; rfl
 have zf7 : w2.frozen? ⟨Y, 7, none⟩ = false := Jb w2 Y 7 _ _ h2
 clear g1 g2 g3 g4 hok' hls' h2 hY HCALL
 unfold cellsP
 simp only
 go_wp2_with fail
 refine bodyPost_ret (results_cell_row rfl _ _ Y _ _ (0, 0) _ rfl (zD9 H2.out) Tryz.underlying65 rfl zE4) rfl ?_
 have hy := HY.out
 have hset : ∀ i u (wx : World), Above (w.heap.size + 3) w2 wx -> Above (w.heap.size + 3) w2 (wx.setCell ⟨Y, i, none⟩ u) := fun i u wx h => zBp h _ _ (by show Y < _; omega)
 refine ⟨cellsP k c o ⟨vu, vk, vn, vb⟩ (.slice sa' vb.length sc') (.slice ea' css'.length ec'), rfl, RdA1.above (K := w.heap.size + 3) (w := w2) ?_ (by omega) _ (by have := HA.out; rw [HSZ.out] at this; exact this), ?_⟩
 ·exact hset _ _ _ (hset _ _ _ (hset _ _ _ (hset _ _ _ (hset _ _ _ (hset _ _ _ (hset _ _ _ (hset _ _ _ (Above.refl _ _))))))))
 ·have hgs : ∀ i u (wx : World), Below w.heap.size w wx -> Below w.heap.size w (wx.setCell ⟨Y, i, none⟩ u) := fun i u wx h => h.setCell (p := ⟨Y, i, none⟩) (by show _ <= Y; omega) _
  exact hgs _ _ _ (hgs _ _ _ (hgs _ _ _ (hgs _ _ _ (hgs _ _ _ (hgs _ _ _ (hgs _ _ _ (hgs _ _ _ HB2.out)))))))
theorem zR3 (l : List Pt) (hl : l.length <= 1000000) (ih : ∀ (i : Nat) (q : Pt), l[i]? = some q -> PredOK q) (ls : Value) (css : List (List Value)) (w0 w : World) (hs : RdS w0 8 ls css) (ht : RdTs w0 l css) (hb : Below w0.heap.size w0 w) :
  Calls Tryz.prog 149 #[ls, .func (.func 150) #[] #[]] w fun e w' => ∃ ls' css', e = .returned ls' ∧ RdSK w.heap.size w' 8 ls' css' ∧ RdAs w.heap.size w' l css' ∧ Below w.heap.size w w' := by
 obtain ⟨ao, cap, rfl⟩ := zAk hs
 have hcl := zBy ht
 obtain ⟨n, hN⟩ : ∃ n, n = l.length := ⟨_, rfl⟩
 rw [hcl, <- hN] at hs ⊢
 rw [<- hN] at hl
 have HN := hid hN
 rcases Qq n with h0 | hpos
 ·subst h0
  have hle : l = [] := Qk.1 hN.symm
  subst hle
  clear hN hs ht hcl HN ih hb
  go_enter Tryz.func149, Tryz.ntmps149
  go_wp2_with fail
  go_ret
  exact ⟨.slice none 0 0, [], rfl, ⟨none, 0, rfl, ⟨fun _ => rfl, by simp⟩, fun k t hk => by simp at hk⟩, by unfold RdAs; trivial, Qh _ _⟩
 have HS := hid hs
 have HT := hid ht
 have HB := hid hb
 have HIH := hid ih
 clear hs ht hb ih hcl hN
 obtain ⟨i0, hi, hz0, hz1, hz2⟩ := info_parts zJ6
 go_enter Tryz.func149, Tryz.ntmps149
 go_wp2_with (at_make; go_must (refine wpList_make_full _ rfl _ _ 63 rfl w.heap.size 65 i0 _ 8 Tryz.underlying63 hi hz0 hz1 .i64 .i64 _ _ n rfl rfl rfl rfl (by rw [hz2]; omega) (by unfold maxLen; omega) (Qa _) ?_); intro w1 hown1 hgrow1)
 have HO1 := hid hown1
 have HG1 := hid hgrow1
 obtain ⟨xs0, hxs0⟩ : ∃ xs0, xs0 = (madeCells (Value.agg #[.int .i64 0, .int .i64 0, .int .i64 0, .bool false, .int .i64 0, .int .i64 0, .slice none 0 0, .slice none 0 0]).cells (n * 8)).toList := ⟨_, rfl⟩
 rw [<- hxs0] at HO1
 obtain ⟨G, hG⟩ : ∃ G, G = w.heap.size := ⟨_, rfl⟩
 have HGG := hid hG
 rw [<- hG] at HO1 ⊢
 have hGi := zG4 HO1.out
 have HGI := hid hGi
 clear hown1 hgrow1 hxs0 hG hGi hi hz0 hz1 hz2
 go_wp2_with fail
 go_loopw [16] (fun i wr => ∃ q : Nat, ∃ L1 css1 xs, q <= n ∧ i = .int .i64 (q : Int) ∧ xs.length = n * 8 ∧ xs.take (q * 8) = Qw css1 ∧ RdAs (G + 1) wr (l.take q) css1 ∧ wr.ownsRow G 65 8 (.slice (some ⟨G, 0, none⟩) n n) n xs ∧ G < wr.heap.size ∧ Below w.heap.size w wr) (fun i _ => n - (intOf i).toNat)
 case atStart => exact ⟨0, (0 : Int), [], xs0, Qr _, rfl, HO1.out.1, by simp, by simp [RdAs], HO1.out, HGI.out, ⟨HG1.out.os, HG1.out.tape, HG1.out.output, HG1.out.size, fun i hi => HG1.out.block i hi (by simp)⟩⟩
 case round =>
  obtain ⟨q, L1, css1, xs, hq, rfl, hxl, hxt, hra, hown, hgs, hg⟩ := hrel
  have HXL := hid hxl
  have HXT := hid hxt
  have HRA := hid hra
  have HO := hid hown
  have HGS := hid hgs
  have HG := hid hg
  have HBR := hid (HB.out.trans (hg.mono HB.out.size))
  clear hxl hxt hra hown hgs hg
  by_cases hlt : q < n
  ·obtain ⟨p, hp⟩ : ∃ p, l[q]? = some p := ⟨_, Qb (by rw [<- HN.out]; exact hlt)⟩
   have HTK := hid (show l.take (q + 1) = l.take q ++ [p] by rw [Qx, hp]; rfl)
   obtain ⟨cs, hcs, hrd⟩ := zFq HT.out hp
   have HP := hid (HIH.out q p hp)
   clear hp
   have hat := (HS.out.kept HBR.out).at hcs
   have HRD := hid hrd
   obtain ⟨pk, pc, po, pv, pl⟩ := p
   unfold RdT1 at hrd
   obtain ⟨es, els, ecss, rfl, hok, hels, hets⟩ := hrd
   obtain ⟨sa, sc, hes⟩ := zAf hok.1
   obtain ⟨ea, ec, hel⟩ := zAk hels
   simp only at hes
   subst hes hel
   obtain ⟨pu, pvk, pvn, pb2⟩ := pv
   obtain ⟨b, off, rfl, hcell⟩ := hat
   have k0 : wr.cell? ⟨b, off + q * 8 + 0, none⟩ = some (.int .i64 pk) := hcell 0 _ rfl
   have k1 : wr.cell? ⟨b, off + q * 8 + 1, none⟩ = some (.int .i64 pc) := hcell 1 _ rfl
   have k2 : wr.cell? ⟨b, off + q * 8 + 2, none⟩ = some (.int .i64 po) := hcell 2 _ rfl
   have k3 : wr.cell? ⟨b, off + q * 8 + 3, none⟩ = some (.bool pu) := hcell 3 _ rfl
   have k4 : wr.cell? ⟨b, off + q * 8 + 4, none⟩ = some (.int .i64 pvk) := hcell 4 _ rfl
   have k5 : wr.cell? ⟨b, off + q * 8 + 5, none⟩ = some (.int .i64 pvn) := hcell 5 _ rfl
   have k6 : wr.cell? ⟨b, off + q * 8 + 6, none⟩ = some (.slice sa pb2.length sc) := hcell 6 _ rfl
   have k7 : wr.cell? ⟨b, off + q * 8 + 7, none⟩ = some (.slice ea ecss.length ec) := hcell 7 _ rfl
   simp only [Qj] at k0
   clear hok hels hets hcell hcs
   have HSZ := hid (show (wr.alloc (.cells #[.int .i64 pk, .int .i64 pc, .int .i64 po, .bool pu, .int .i64 pvk, .int .i64 pvn, .slice sa pb2.length sc, .slice ea ecss.length ec] 65)).heap.size = wr.heap.size + 1 by simp)
   have HCALL := hid (HP.out _ (wr.alloc (.cells #[.int .i64 pk, .int .i64 pc, .int .i64 po, .bool pu, .int .i64 pvk, .int .i64 pvn, .slice sa pb2.length sc, .slice ea ecss.length ec] 65)) (RdT1.kept (HBR.out.alloc HBR.out.size _) _ HRD.out))
   unfold cellsP at HCALL
   simp only at HCALL
   go_wp2_with fail
   refine HCALL.out.mono ?_
   rintro e w2 ⟨cs', rfl, ha, hb2⟩
   have HGW := hid (zAa (zAd wr _) hb2)
   have HA := hid ha
   unfold RdA1 at ha
   obtain ⟨s', ls', css', rfl, hok', hls', _⟩ := ha
   obtain ⟨sa', sc', hes'⟩ := zA6 hok'.1
   obtain ⟨ea', ec', hel'⟩ := zAk hls'.rd
   simp only at hes'
   subst hes' hel'
   have HO2 := hid (show w2.ownsRow G 65 8 (.slice (some ⟨G, 0, none⟩) n n) n xs from HO.out.kept (⟨HGW.out.os, HGW.out.tape, HGW.out.output, HGW.out.size, fun i hi _ => HGW.out.block i hi⟩ : wr.grownBy w2 none) (.inr (by simp [Value.ownBlock])))
   have hx : ∀ j, j < 8 -> ∃ u, w2.cell? ⟨G, q * 8 + j, none⟩ = some u := fun j hj => by
    have hlt2 : q * 8 + j < xs.length := by rw [HXL.out]; omega
    exact ⟨_, (HO2.out.cellAt (q * 8 + j) (by omega)).trans (Qb hlt2)⟩
   obtain ⟨u0, c0⟩ := hx 0 (by decide)
   obtain ⟨u1, c1⟩ := hx 1 (by decide)
   obtain ⟨u2, c2⟩ := hx 2 (by decide)
   obtain ⟨u3, c3⟩ := hx 3 (by decide)
   obtain ⟨u4, c4⟩ := hx 4 (by decide)
   obtain ⟨u5, c5⟩ := hx 5 (by decide)
   obtain ⟨u6, c6⟩ := hx 6 (by decide)
   obtain ⟨u7, c7⟩ := hx 7 (by decide)
   have f0 := HO2.out.frozenAt (q * 8 + 0)
   have f1 := HO2.out.frozenAt (q * 8 + 1)
   have f2 := HO2.out.frozenAt (q * 8 + 2)
   have f3 := HO2.out.frozenAt (q * 8 + 3)
   have f4 := HO2.out.frozenAt (q * 8 + 4)
   have f5 := HO2.out.frozenAt (q * 8 + 5)
   have f6 := HO2.out.frozenAt (q * 8 + 6)
   have f7 := HO2.out.frozenAt (q * 8 + 7)
   simp only [Qj] at c0 f0
   clear hok' hls' hx k0 k1 k2 k3 k4 k5 k6 k7 hb2
   unfold cellsP
   simp only
   go_wp2_with fail
   go_roundw
   case rel =>
    have hst := (((((((((HO2.out.stored (q * 8) (.int .i64 pk)).1.stored (q * 8 + 1) (.int .i64 pc)).1.stored (q * 8 + 2) (.int .i64 po)).1.stored (q * 8 + 3) (.bool pu)).1.stored (q * 8 + 4) (.int .i64 pvk)).1.stored (q * 8 + 5) (.int .i64 pvn)).1.stored (q * 8 + 6) (.slice sa' pb2.length sc')).1.stored (q * 8 + 7) (.slice ea' css'.length ec')).1)
    have hset : ∀ K i u (wx : World), G < K -> Above K w2 wx -> Above K w2 (wx.setCell ⟨G, i, none⟩ u) := fun K i u wx hK h => zBp h _ _ hK
    have hab : ∀ K (hK : G < K), Above K w2 _ := fun K hK => hset K (q * 8 + 7) (.slice ea' css'.length ec') _ hK (hset K (q * 8 + 6) (.slice sa' pb2.length sc') _ hK (hset K (q * 8 + 5) (.int .i64 pvn) _ hK (hset K (q * 8 + 4) (.int .i64 pvk) _ hK (hset K (q * 8 + 3) (.bool pu) _ hK (hset K (q * 8 + 2) (.int .i64 po) _ hK (hset K (q * 8 + 1) (.int .i64 pc) _ hK (hset K (q * 8) (.int .i64 pk) _ hK (Above.refl _ _))))))))
    have hgl := HGS.out
    refine ⟨q + 1, 0, css1 ++ [cellsP pk pc po ⟨pu, pvk, pvn, pb2⟩ (.slice sa' pb2.length sc') (.slice ea' css'.length ec')], _, by omega, by go_num, ?_, ?_, ?_, hst, ?_, ?_⟩
    ·exact (zHn xs (q * 8) _ _ _ _ _ _ _ _).trans HXL.out
    ·rw [Qy, <- HXT.out, show (q + 1) * 8 = q * 8 + 8 by omega]
     exact zIh xs (q * 8) (by rw [HXL.out]; omega) _ _ _ _ _ _ _ _
    ·rw [HTK.out]
     refine RdAs.snoc (RdA1.above (K := wr.heap.size + 1) (w := w2) (hab _ (by omega)) (by omega) _ (by have := HA.out; rw [HSZ.out] at this; exact this)) ?_
     exact RdAs.above (K := G + 1) (w := wr) ((zCd HGW.out).trans HGW.out.size (hab _ (by omega))) (Qa _) _ HRA.out
    ·simp [Qe]; have := HGW.out.size; omega
    ·have h0 := zAa HG.out HGW.out
     have hgs : ∀ i u (wx : World), Below w.heap.size w wx -> Below w.heap.size w (wx.setCell ⟨G, i, none⟩ u) := fun i u wx h => h.setCell (p := ⟨G, i, none⟩) (by show _ <= G; have := HGG.out; omega) _
     exact hgs _ _ _ (hgs _ _ _ (hgs _ _ _ (hgs _ _ _ (hgs _ _ _ (hgs _ _ _ (hgs _ _ _ (hgs _ _ _ h0)))))))
   case measure => simp [intOf]; omega
  ·have hqn : q = n := by omega
   have htk : l.take q = l := Qg (by rw [<- HN.out]; omega)
   have HF := hid (show RdSK w.heap.size wr 8 (.slice (some ⟨G, 0, none⟩) n n) css1 ∧ RdAs w.heap.size wr l css1 ∧ Below w.heap.size w wr from by
    have h1 := HRA.out
    rw [htk] at h1
    have h2 := HXT.out
    rw [hqn, Qg (by rw [HXL.out]; exact Qa _)] at h2
    have h3 := HO.out
    rw [h2] at h3
    refine ⟨?_, RdAs.above (Above.refl _ _) (by have := HGG.out; omega) _ h1, HG.out⟩
    rw [<- HGG.out]
    exact zC8 h3 (by rw [zJ5 h1, <- HN.out]) (zGe h1))
   clear htk hqn
   go_wp2_with fail
   go_ret
   exact ⟨_, css1, rfl, HF.out⟩
theorem zR4 (l : List Pt) (hl : l.length <= 1000000) (ih : ∀ (i : Nat) (q : Pt), l[i]? = some q -> PredOK q) (ls : Value) (css : List (List Value)) (w : World) (hs : RdS w 8 ls css) (ht : RdTs w l css) :
  Calls Tryz.prog 114 #[ls] w fun e w' => ∃ ls' css', e = .returned ls' ∧ RdSK w.heap.size w' 8 ls' css' ∧ RdAs w.heap.size w' l css' ∧ Below w.heap.size w w' := by
 have HC := hid (zR3 l hl ih ls css w w hs ht (Qh _ _))
 obtain ⟨ao, cap, rfl⟩ := zAk hs
 clear hs ht ih
 go_enter Tryz.func114, Tryz.ntmps114
 go_wp2_with fail
 refine HC.out.mono ?_
 rintro e w2 ⟨ls', css', rfl, h1, h2, h3⟩
 obtain ⟨ea, ec, hel⟩ := zAk h1.rd
 subst hel
 have H1 := hid h1
 have H2 := hid h2
 have H3 := hid h3
 clear h1 h2 h3 HC
 go_wp2_with fail
 go_ret
 exact ⟨_, css', rfl, H1.out, H2.out, H3.out⟩
def zeroV : Vc := ⟨false, 0, 0, []⟩
end Go.Proofs.YtmpgnjhgegbdkaaGreat
