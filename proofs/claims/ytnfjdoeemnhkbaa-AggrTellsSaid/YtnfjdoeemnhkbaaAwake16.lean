import Derived.Test.YtnfjdoeemnhkbaaCanonP
import Derived.Test.YtnfjdoeemnhkbaaProg
import Derived.KernelRfl
set_option linter.unusedVariables false
set_option linter.unusedSimpArgs false
namespace Go.Proofs.Ytnfjdoeemnhkbaa.Canon
open Go.RowKit
open _root_.List renaming getElem?_eq_getElem -> Qa, getElem?_take -> Qq, getElem?_eq_some_iff -> Qr, mapM_cons -> Qw, mem_cons_self -> Qz, getElem?_cons_zero -> Ja, mem_cons -> Jc, countP_eq_zero -> Jf, mem_of_getElem? -> Jg, drop_zero -> Jh, size_toArray -> Ji
open _root_.Array renaming getElem?_toList -> Qb, getD_eq_getD_getElem? -> Qc, length_toList -> Qj, getElem?_eq_getElem -> Qn, getElem?_eq_some_iff -> Qt, replicate -> Qv
open _root_.Nat renaming lt_or_ge -> Qd, le_refl -> Qe, zero_le -> Qf, zero_add -> Qg, blt -> Qh, lt_of_lt_of_le -> Qk, le_trans -> Ql, add_zero -> Qm, lor -> Qo, min_le_left -> Qu, shiftLeft -> Qx, testBit_or -> Qy, le_of_lt -> Jd, min_le_right -> Jj
open _root_.Option renaming ne_none_iff_exists' -> Qi, getD_some -> Jb
open _root_.Bool renaming or_eq_true -> Qp, false_eq_true -> Je
def em (acc : List Nat) (o : Oper) : Nat :=
 o.after.toList.foldl (fun m e => bif Region.binds .any e then Qo m (Qo (Qx 1 e.on) (match nth acc e.on with | some x => x | none => 0)) else m) 0
theorem zKy (acc : List Nat) (k : Nat) : ∀ (l : List Edge) (m : Nat),
  (l.foldl (fun m e => bif Region.binds .any e then Qo m (Qo (Qx 1 e.on) (match nth acc e.on with | some x => x | none => 0)) else m) m).testBit k = true ->
  m.testBit k = true ∨ ∃ e ∈ l, Region.binds .any e = true ∧ (e.on = k ∨ ∃ x, acc[e.on]? = some x ∧ x.testBit k = true)
 | [], m, h => .inl h
 | e :: l, m, h => by
  rw [List.foldl_cons] at h
  rcases zKy acc k l _ h with h1 | ⟨e', h1, h2⟩
  ·cases hb : Region.binds .any e with
   | false => rw [hb, cond_false] at h1; exact .inl h1
   | true =>
    rw [hb, cond_true] at h1
    have h2 : (m ||| ((1 <<< e.on) ||| (match nth acc e.on with | some x => x | none => 0))).testBit k = true := h1
    rw [Qy, Qy, Qp, Qp] at h2
    rcases h2 with h2 | h2 | h2
    ·exact .inl h2
    ·rw [Nat.shiftLeft_eq, Nat.one_mul, Nat.testBit_two_pow] at h2
     exact .inr ⟨e, Qz, hb, .inl (by simpa using h2)⟩
    ·rw [zB4] at h2
     split at h2
     ·rename_i x hx
      exact .inr ⟨e, Qz, hb, .inr ⟨x, hx, h2⟩⟩
     ·simp at h2
  ·exact .inr ⟨e', List.mem_cons_of_mem _ h1, h2⟩
theorem zHv : ∀ (rest : List Oper) (acc : List Nat), (masks rest acc).take acc.length = acc ∧ (masks rest acc).length = acc.length + rest.length ∧
  ∀ j o, rest[j]? = some o -> (masks rest acc)[acc.length + j]? = some (em ((masks rest acc).take (acc.length + j)) o)
 | [], acc => ⟨by simp [masks], by simp [masks], fun j o h => by simp at h⟩
 | o :: rest, acc => by
  have e : masks (o :: rest) acc = masks rest (acc ++ [em acc o]) := by rw [<- zBq]; rfl
  obtain ⟨h1, h2, h3⟩ := zHv rest (acc ++ [em acc o])
  rw [List.length_append, List.length_singleton] at h1 h2 h3
  rw [e]
  have h4 : (masks rest (acc ++ [em acc o])).take acc.length = acc := by
   have := congrArg (List.take acc.length) h1
   rw [List.take_take, Nat.min_eq_left (by omega)] at this
   rw [this]; simp
  refine ⟨h4, by rw [h2, List.length_cons]; omega, fun j o' hj => ?_⟩
  cases j with
  | zero =>
   simp only [Ja, Option.some.injEq] at hj
   subst hj
   rw [Qm, h4]
   have := congrArg (fun l => l[acc.length]?) h1
   simp only [Qq] at this
   rw [if_pos (by omega)] at this
   rw [this]; simp
  | succ j =>
   have := h3 j o' (by simpa using hj)
   rw [show acc.length + (j + 1) = acc.length + 1 + j by omega]
   exact this
theorem zIu {ops : List Oper} {i : Nat} {o : Oper} (hi : ops[i]? = some o) {k : Nat} (h : ((masks ops []).getD i 0).testBit k = true) :
  ∃ e ∈ o.after.toList, Region.binds .any e = true ∧ (e.on = k ∨ ((masks ops []).getD e.on 0).testBit k = true) := by
 obtain ⟨_, _, h3⟩ := zHv ops []
 have h4 := h3 i o hi
 rw [List.length_nil, Qg] at h4
 rw [List.getD, h4] at h
 simp only [Jb] at h
 rcases zKy _ k _ _ h with h5 | ⟨e, h5, h6, h7⟩
 ·simp at h5
 ·refine ⟨e, h5, h6, h7.imp id fun ⟨x, h8, h9⟩ => ?_⟩
  rw [Qq] at h8
  split at h8
  ·rw [List.getD, h8]; exact h9
  ·cases h8
theorem zGu {ops : Array Oper} {oj : Oper} {m : Nat} : ∀ (l : List Oper) (i : Nat), pairOK ops oj m l i = true -> ∀ k o, l[k]? = some o -> m.testBit (i + k) = true ∨ Oper.apart ops o oj = true
 | [], i, h, k, o, hk => by simp at hk
 | x :: l, i, h, k, o, hk => by
  unfold pairOK at h
  have next : pairOK ops oj m l (i + 1) = true -> ∀ k', l[k']? = some o -> m.testBit (i + (k' + 1)) = true ∨ Oper.apart ops o oj = true := fun hp k' hk' => by
   have := zGu l (i + 1) hp k' o hk'
   rwa [show i + 1 + k' = i + (k' + 1) by omega] at this
  cases hb : m.testBit i with
  | true =>
   rw [hb, cond_true] at h
   cases k with
   | zero => exact .inl (by rw [Qm]; exact hb)
   | succ k => exact next h k (by simpa using hk)
  | false =>
   rw [hb, cond_false] at h
   cases ha : Oper.apart ops x oj with
   | false => rw [ha] at h; cases h
   | true =>
    rw [ha, cond_true] at h
    cases k with
    | zero => simp only [Ja, Option.some.injEq] at hk; subst hk; exact .inr ha
    | succ k => exact next h k (by simpa using hk)
theorem zEf {j : Nat} : ∀ (l : List Edge), edgesOK j l = true -> ∀ e ∈ l, Region.binds .any e = true -> e.on < j
 | [], h, e, he, _ => by cases he
 | x :: l, h, e, he, hb => by
  unfold edgesOK at h
  rcases Jc.1 he with rfl | he
  ·rw [hb, cond_true] at h
   cases hl : Qh e.on j with
   | false => rw [hl] at h; cases h
   | true => rwa [Nat.blt_eq] at hl
  ·cases hx : Region.binds .any x with
   | false => rw [hx, cond_false] at h; exact zEf l h e he hb
   | true =>
    rw [hx, cond_true] at h
    cases hl : Qh x.on j with
    | false => rw [hl] at h; cases h
    | true => rw [hl, cond_true] at h; exact zEf l h e he hb
theorem zF6 {ops : Array Oper} {M : List Nat} : ∀ (rest : List Oper) (j : Nat), (∀ k, rest[k]? = ops.toList[j + k]?) -> j <= ops.toList.length -> drawnOK ops (ops.toList.take j) rest (M.drop j) j = true ->
  ∀ k, j <= k -> ∀ o, ops.toList[k]? = some o -> (∀ e ∈ o.after.toList, Region.binds .any e = true -> e.on < k) ∧ ∀ i oi, i < k -> ops.toList[i]? = some oi -> (M.getD k 0).testBit i = true ∨ Oper.apart ops oi o = true
 | [], j, hj, hle, h, k, hk, o, ho => by
  have := hj (k - j)
  rw [show j + (k - j) = k by omega, ho] at this
  simp at this
 | oj :: rest, j, hj, hle, h, k, hk, o, ho => by
  unfold drawnOK at h
  cases he : edgesOK j oj.after.toList with
  | false => rw [he] at h; cases h
  | true =>
   rw [he, cond_true] at h
   cases hp : pairOK ops oj (headN (M.drop j)) (ops.toList.take j) 0 with
   | false => rw [hp] at h; cases h
   | true =>
    rw [hp, cond_true] at h
    have h0 : ops.toList[j]? = some oj := by have := hj 0; simpa using this.symm
    have hlt : j < ops.toList.length := (Qr.1 h0).1
    rcases Qd j k with h1 | h1
    ·refine zF6 rest (j + 1) (fun q => ?_) hlt ?_ k h1 o ho
     ·have := hj (q + 1)
      rw [List.getElem?_cons_succ] at this
      rw [this]; congr 1; omega
     ·rw [zHu, zBq] at h
      have e : ops.toList.take (j + 1) = ops.toList.take j ++ [oj] := by
       rw [List.take_add_one, h0]; rfl
      rw [e]; exact h
    ·obtain rfl : k = j := by omega
     rw [h0] at ho
     simp only [Option.some.injEq] at ho
     subst ho
     refine ⟨zEf _ he, fun i oi hi hoi => ?_⟩
     have := zGu _ _ hp i oi (by rw [Qq, if_pos hi]; exact hoi)
     rwa [zHt, Qg] at this
structure HRF (Φ : Fx) (P : Program) (c : Ctx) (D : Nat -> Prop) (F : Nat -> Option AObj) (w : World) : Prop where
 dom : ∀ o, F o ≠ none -> D o ∧ o ≠ zId P ∧ o < 4000000
 rows : ∀ o obj, F o = some obj -> Row (zId P) P c D o obj w
 inj : ∀ o o', F o ≠ none -> F o' ≠ none -> c.ρ o = c.ρ o' -> o = o'
 bel : Below Φ.w0.heap.size Φ.w0 w
 up : ∀ o, F o ≠ none -> Φ.w0.heap.size <= c.ρ o
 nm : ∀ o, 5000000 <= o -> c.x o = Φ.nm o
 fz : ∀ b o, c.fz b = some o -> w.heap[b]? = some o
 fr : ∀ o, F o ≠ none -> c.fz (c.ρ o) = none
 kn : ∀ o, c.nv o ≠ [] -> Φ.kn o (c.nv o) c.fz
theorem HR.toF {Φ : Fx} {P : Program} {c : Ctx} {D : Nat -> Prop} {H : T AObj} {w : World} (h : HR Φ P c D H w) : HRF Φ P c D H.get w := ⟨h.dom, h.rows, h.inj, h.bel, h.up, h.nm, h.fz, h.fr, h.kn⟩
theorem HRF.toT {Φ : Fx} {P : Program} {c : Ctx} {D : Nat -> Prop} {H : T AObj} {w : World} (h : HRF Φ P c D H.get w) : HR Φ P c D H w := ⟨h.dom, h.rows, h.inj, h.bel, h.up, h.nm, h.fz, h.fr, h.kn⟩
theorem HRF.sub {Φ : Fx} {P : Program} {c : Ctx} {D : Nat -> Prop} {F : Nat -> Option AObj} {H : T AObj} {w : World} (h : HRF Φ P c D F w) (hs : ∀ o obj, H.get o = some obj -> F o = some obj) : HR Φ P c D H w := by
 have hn : ∀ o, H.get o ≠ none -> F o ≠ none := fun o ho => by
  obtain ⟨obj, hob⟩ := Qi.1 ho
  rw [hs o obj hob]; simp
 exact ⟨fun o ho => h.dom o (hn o ho), fun o obj ho => h.rows o obj (hs o obj ho), fun o o' h1 h2 he => h.inj o o' (hn o h1) (hn o' h2) he, h.bel, fun o ho => h.up o (hn o ho), h.nm, h.fz, fun o ho => h.fr o (hn o ho), h.kn⟩
theorem Row.keep {Z : Nat} {P : Program} {c c' : Ctx} {D D' : Nat -> Prop} {o : Nat} {obj : AObj} {w w' : World} (h : Row Z P c D o obj w) (hc : ∀ p, D p -> c'.ρ p = c.ρ p ∧ c'.x p = c.x p ∧ c'.nv p = c.nv p) (hD : ∀ p, D p -> D' p)
  (ho : D o) (hw : w'.heap[c.ρ o]? = w.heap[c.ρ o]?) : Row Z P c' D' o obj w' := by
 obtain ⟨cs, fr, h1, h2, h3, h4⟩ := h.row
 exact ⟨fun he => by rw [(hc o ho).2.1]; exact h.ex he, cs, fr, by rw [(hc o ho).1, hw]; exact h1, h2, by rw [(hc o ho).2.1]; exact h3, h4.mono hc hD⟩
theorem HRF.read {Φ : Fx} {P : Program} {c c' : Ctx} {D : Nat -> Prop} {F : Nat -> Option AObj} {w w' : World} {r : Rec} (h : HRF Φ P c D F w) (hsub : ∀ o obj, r.i.heap.get o = some obj -> F o = some obj)
  (hst : Step Φ P c c' D r.i.heap r.o.heap r.i.next r.o.next r.o.mw w w') (hbd : Bd r.i) (hkept : ∀ p, r.o.mw <= p -> p < r.i.next -> (r.i.heap.get p = none ↔ r.o.heap.get p = none)) (hf : ∀ o, r.i.next <= o -> o < r.o.next -> ¬D o) :
  (∀ b, b < w.heap.size -> (¬∃ p, r.o.mw <= p ∧ F p ≠ none ∧ c.ρ p = b) -> w'.heap[b]? = w.heap[b]?) ∧
  HRF Φ P c' (Dm D r.i.next r.o.next) (fun p => ov r p (F p)) w' ∧
  ∀ o, r.i.next <= o -> o < r.o.next -> r.o.heap.get o ≠ none -> w.heap.size <= c'.ρ o := by
 have hs : ∀ p, r.i.heap.get p ≠ none -> F p ≠ none := fun p hp => by
  obtain ⟨obj, hob⟩ := Qi.1 hp
  rw [hsub p obj hob]; simp
 have hfar : ∀ b, b < w.heap.size -> (¬∃ p, r.o.mw <= p ∧ r.i.heap.get p ≠ none ∧ c.ρ p = b) -> w'.heap[b]? = w.heap[b]? := fun b hb hno => hst.far b hb hno
 have hag : ∀ p, D p -> c'.ρ p = c.ρ p ∧ c'.x p = c.x p ∧ c'.nv p = c.nv p := fun p hp => hst.agree p fun ⟨h1, h2⟩ => hf p h1 h2 hp
 have hDD : ∀ p, D p -> Dm D r.i.next r.o.next p := fun p hp => .inl hp
 have hnew : ∀ o, r.i.next <= o -> o < r.o.next -> r.o.heap.get o ≠ none -> w.heap.size <= c'.ρ o := fun o h1 h2 h3 => by
  rcases hst.live o h3 with h4 | ⟨_, _, h5 | ⟨p, h6, h7, h8⟩⟩
  ·have := hbd.2 o h4; omega
  ·exact h5
  ·have hp := hbd.2 p h7
   have h9 : r.o.heap.get p ≠ none := fun e => h7 ((hkept p h6 hp).2 e)
   have : c'.ρ p = c'.ρ o := by rw [(hst.agree p (by omega)).1]; exact h8
   have := hst.hr.inj p o h9 h3 this
   omega
 have hnot : ∀ p, ¬own r p -> F p ≠ none -> w'.heap[c.ρ p]? = w.heap[c.ρ p]? := fun p ho hp => by
  obtain ⟨obj, hob⟩ := Qi.1 hp
  refine hfar _ (h.rows p obj hob).lt ?_
  rintro ⟨q, h1, h2, h3⟩
  have := h.inj q p (hs q h2) hp h3
  subst this
  have hq := hbd.2 q h2
  have := hst.le
  exact ho ⟨.inl h1, by omega, fun e => h2 ((hkept q h1 hq).2 e)⟩
 have old : ∀ q, F q ≠ none -> c'.ρ q = c.ρ q ∧ c.ρ q < w.heap.size := fun q hq => by
  obtain ⟨obj, hob⟩ := Qi.1 hq
  exact ⟨(hag q (h.dom q hq).1).1, (h.rows q obj hob).lt⟩
 have mixed : ∀ p q, own r p -> F q ≠ none -> c'.ρ p = c'.ρ q -> p = q := fun p q ho hq he => by
  obtain ⟨o1, o2⟩ := old q hq
  rcases Qd p r.i.next with h1 | h1
  ·have h2 : r.o.mw <= p := by have := ho.1; omega
   have h3 : F p ≠ none := hs p fun e => ho.2.2 ((hkept p h2 h1).1 e)
   refine h.inj p q h3 hq ?_
   rw [<- (old p h3).1, he, o1]
  ·have := hnew p h1 ho.2.1 ho.2.2
   omega
 refine ⟨fun b hb hno => hfar b hb fun ⟨p, h1, h2, h3⟩ => hno ⟨p, h1, hs p h2, h3⟩, ⟨fun o ho => ?_, fun o obj ho => ?_, fun o o' h1 h2 he => ?_, hst.hr.bel, fun o ho => ?_, hst.hr.nm, hst.hr.fz, fun o ho => (by
  by_cases hw : own r o
  ·exact hst.hr.fr o hw.2.2
  ·rw [zBr hw] at ho
   rw [(old o ho).1, hst.low _ (old o ho).2]; exact h.fr o ho), hst.hr.kn⟩, hnew⟩
 rotate_right 1
 ·by_cases hw : own r o
  ·exact hst.hr.up o hw.2.2
  ·rw [zBr hw] at ho
   rw [(old o ho).1]; exact h.up o ho
 ·by_cases hw : own r o
  ·exact hst.hr.dom o hw.2.2
  ·rw [zBr hw] at ho
   have := h.dom o ho; exact ⟨.inl this.1, this.2⟩
 ·by_cases hw : own r o
  ·rw [zHs hw] at ho; exact hst.hr.rows o obj ho
  ·rw [zBr hw] at ho
   have hn : F o ≠ none := by rw [ho]; simp
   exact (h.rows o obj ho).keep hag hDD (h.dom o hn).1 (hnot o hw hn)
 ·by_cases hw : own r o
  ·by_cases hw' : own r o'
   ·exact hst.hr.inj o o' hw.2.2 hw'.2.2 he
   ·rw [zBr hw'] at h2; exact mixed o o' hw h2 he
  ·rw [zBr hw] at h1
   by_cases hw' : own r o'
   ·exact (mixed o' o hw' h1 he.symm).symm
   ·rw [zBr hw'] at h2
    rw [(old o h1).1, (old o' h2).1] at he
    exact h.inj o o' h1 h2 he
section
variable {Φ : Fx} {P : Program} {E : Env} {call : CallF} {ops : Array Oper} {tm0 : List Value}
structure OH (Φ : Fx) (P : Program) (ops : Array Oper) (R : Nat -> Rec) (c0 : Ctx) (D0 : Nat -> Prop) (H0 : Nat -> Option AObj) (w0 : World) (n0 n1 m : Nat)
  (ex : Nat -> Bool) (c : Ctx) (D : Nat -> Prop) (F : Nat -> Option AObj) (w : World) : Prop where
 hr : HRF Φ P c D F w
 form : ((∀ j, ex j = true -> j < ops.toList.length -> (R j).kind ≠ 3) ∧ ∀ p, F p = selTo R H0 ex ops.toList.length p) ∨
  ∃ t, t < ops.toList.length ∧ (R t).kind = 3 ∧ F = (R t).o.heap.get ∧ ∀ j, j < ops.toList.length -> 2 <= (R j).kind -> (ex j = true ↔ j <= t)
 fresh : ∀ k, k < ops.toList.length -> ex k = false -> 2 <= (R k).kind -> ∀ o, (R k).i.next <= o -> o < (R k).o.next -> ¬D o
 agree : ∀ o, ¬(n0 <= o ∧ o < n1) -> c.ρ o = c0.ρ o ∧ c.x o = c0.x o ∧ c.nv o = c0.nv o
 low : ∀ b, b < w0.heap.size -> c.fz b = c0.fz b
 dom1 : ∀ o, D o -> Dm D0 n0 n1 o
 dom2 : ∀ o, D0 o -> D o
 os : w.os = w0.os
 tape : w.tape = w0.tape
 output : w.output = w0.output
 size : w0.heap.size <= w.heap.size
 far : ∀ b, b < w0.heap.size -> (¬∃ o, m <= o ∧ H0 o ≠ none ∧ c0.ρ o = b) -> w.heap[b]? = w0.heap[b]?
 live : ∀ o, F o ≠ none -> H0 o ≠ none ∨ (n0 <= o ∧ o < n1 ∧ (w0.heap.size <= c.ρ o ∨ ∃ p, m <= p ∧ H0 p ≠ none ∧ c0.ρ p = c.ρ o))
structure TI (P : Program) (E : Env) (call : CallF) (ops : Array Oper) (tm0 : List Value) (R : Nat -> Rec) (D0 : Nat -> Prop) (H0 : Nat -> Option AObj) (n0 n1 m : Nat) : Prop where
 cr : ∀ k o, ops.toList[k]? = some o -> CR P E call ops.toList (masks ops.toList []) tm0 H0 n0 R k o
 ok : opsOK (zId P) ops.toList = true
 pr : ∀ k o, ops.toList[k]? = some o -> (∀ e ∈ o.after.toList, Region.binds .any e = true -> e.on < k) ∧ ∀ i oi, i < k -> ops.toList[i]? = some oi -> ((masks ops.toList []).getD k 0).testBit i = true ∨ Oper.apart ops oi o = true
 hi : ∀ k, k < ops.toList.length -> 2 <= (R k).kind -> (R k).o.next <= n1
 mw : ∀ k, k < ops.toList.length -> (R k).kind = 3 -> m <= (R k).o.mw ∨ (R k).i.next <= (R k).o.mw
 h0 : ∀ o, H0 o ≠ none -> o < n0
 step : ∀ k, k < ops.toList.length -> 2 <= (R k).kind -> (R k).i.next <= (R k).o.next
 d0 : ∀ o, n0 <= o -> o < n1 -> ¬D0 o
 z : zId P < n0
theorem TI.apart {R : Nat -> Rec} {D0 : Nat -> Prop} {H0 : Nat -> Option AObj} {n0 n1 m : Nat} (T : TI P E call ops tm0 R D0 H0 n0 n1 m) {j k : Nat} (hj : j < ops.toList.length) (hk : k < ops.toList.length)
  (h1 : 2 <= (R j).kind) (h2 : 2 <= (R k).kind) (hne : j ≠ k) (o : Nat) (hoj : (R j).i.next <= o ∧ o < (R j).o.next) : ¬((R k).i.next <= o ∧ o < (R k).o.next) := by
 rcases Qd j k with h | h
 ·have := ((T.cr k _ (Qa hk)).k2 h2).2.2.2.2.2 j h h1
  omega
 ·have := ((T.cr j _ (Qa hj)).k2 h1).2.2.2.2.2 k (by omega) h2
  omega
theorem zKz {R : Nat -> Rec} {D0 : Nat -> Prop} {H0 : Nat -> Option AObj} {n0 n1 m : Nat} (T : TI P E call ops tm0 R D0 H0 n0 n1 m) : ∀ i, i < ops.toList.length -> ∀ k, ((masks ops.toList []).getD i 0).testBit k = true -> k < i := by
 intro i
 induction i using Nat.strongRecOn with
 | _ i ih =>
  intro hi k hk
  obtain ⟨e, he, hb, h4⟩ := zIu (Qa hi) hk
  have := (T.pr i _ (Qa hi)).1 e (by simpa using he) hb
  rcases h4 with rfl | h4
  ·exact this
  ·have := ih e.on this (by omega) k h4; omega
theorem TI.sees {R : Nat -> Rec} {D0 : Nat -> Prop} {H0 : Nat -> Option AObj} {n0 n1 m : Nat} (T : TI P E call ops tm0 R D0 H0 n0 n1 m) {i j : Nat} (hi : i < ops.toList.length) (hj : j < ops.toList.length)
  (h1 : (R i).kind = 2) (h2 : (R j).kind = 2) (hne : j ≠ i) {p : Nat} (ho : own (R j) p) (hs : (R i).i.heap.get p ≠ none) :
  ((masks ops.toList []).getD i 0).testBit j = true ∨ ((masks ops.toList []).getD j 0).testBit i = true := by
 have Ci := T.cr i _ (Qa hi)
 have Cj := T.cr j _ (Qa hj)
 rcases Qd j i with h | h
 ·rcases (Ci.kr h1).2.2.2.2 j h h2 with h3 | ⟨h3, _⟩
  ·exact .inl h3
  ·exact absurd (h3 p ho) hs
 ·rcases (Cj.kr h2).2.2.2.2 i (by omega) h1 with h3 | ⟨_, h3⟩
  ·exact .inr h3
  ·have hb := (Ci.k2 (by omega)).2.2.2.1.2 p hs
   have hn := (Cj.k2 (by omega)).2.2.2.2.2 i (by omega) (by omega)
   have hmono := (Ci.k2 (by omega))
   refine absurd (h3 p ?_ ho) hs
   have := T.step i hi (by omega)
   omega
theorem TI.both {R : Nat -> Rec} {D0 : Nat -> Prop} {H0 : Nat -> Option AObj} {n0 n1 m : Nat} (T : TI P E call ops tm0 R D0 H0 n0 n1 m) {i j : Nat} (hi : i < ops.toList.length) (hj : j < ops.toList.length)
  (h1 : (R i).kind = 2) (h2 : (R j).kind = 2) (hne : j ≠ i) {p : Nat} (ho : own (R j) p) (ho' : own (R i) p) :
  ((masks ops.toList []).getD i 0).testBit j = true ∨ ((masks ops.toList []).getD j 0).testBit i = true := by
 have see : ∀ k, k < ops.toList.length -> (R k).kind = 2 -> own (R k) p -> p < (R k).i.next -> (R k).i.heap.get p ≠ none := fun k hk h2 ho hp e => by
  have C := T.cr k _ (Qa hk)
  have hlo : (R k).o.mw <= p := by have := ho.1; omega
  exact ho.2.2 (((C.kr h2).2.1 p hlo hp).1 e)
 rcases Qd p (R i).i.next with h3 | h3
 ·exact T.sees hi hj h1 h2 hne ho (see i hi h1 ho' h3)
 ·rcases Qd p (R j).i.next with h4 | h4
  ·exact (T.sees hj hi h2 h1 (fun e => hne e.symm) ho' (see j hj h2 ho h4)).symm
  ·exact absurd ⟨h3, ho'.2.1⟩ (T.apart hj hi (by omega) (by omega) hne p ⟨h4, ho.2.1⟩)
def exI (ex : Nat -> Bool) (i : Nat) : Nat -> Bool := fun j => ex j || decide (j = i)
theorem zJv {ex : Nat -> Bool} {i j : Nat} (h : ex j = true) : exI ex i j = true := by unfold exI; rw [h]; rfl
theorem zPu {ex : Nat -> Bool} {i : Nat} : exI ex i i = true := by unfold exI; simp
theorem zDt {ex : Nat -> Bool} {i j : Nat} (h : exI ex i j = true) : ex j = true ∨ j = i := by
 unfold exI at h; rw [Qp] at h; exact h.imp id (by simp)
theorem zIv {ex : Nat -> Bool} {i j : Nat} (h : exI ex i j = false) : ex j = false ∧ j ≠ i := by
 unfold exI at h; rw [Bool.or_eq_false_iff] at h; exact ⟨h.1, by simpa using h.2⟩
theorem OH.touch {R : Nat -> Rec} {c0 : Ctx} {D0 : Nat -> Prop} {H0 : Nat -> Option AObj} {w0 : World} {n0 n1 m : Nat} (T : TI P E call ops tm0 R D0 H0 n0 n1 m)
  {ex : Nat -> Bool} {c : Ctx} {D : Nat -> Prop} {F : Nat -> Option AObj} {w : World} (I : OH Φ P ops R c0 D0 H0 w0 n0 n1 m ex c D F w) {i : Nat} {o : Oper} (hi : ops.toList[i]? = some o) (hex : ex i = false)
  (hmask : ∀ k, ((masks ops.toList []).getD i 0).testBit k = true -> ex k = true) (hcl : ∀ j k, ex j = true -> ((masks ops.toList []).getD j 0).testBit k = true -> ex k = true) (h2 : 2 <= (R i).kind)
  (hmo : Mo (R i).i (R i).o) :
  HR Φ P c D (R i).i.heap w ∧ ∀ c' w', Step Φ P c c' D (R i).i.heap (R i).o.heap (R i).i.next (R i).o.next (R i).o.mw w w' ->
   ∃ F', OH Φ P ops R c0 D0 H0 w0 n0 n1 m (exI ex i) c' (Dm D (R i).i.next (R i).o.next) F' w' := by
 have hil : i < ops.toList.length := (Qr.1 hi).1
 have C := T.cr i o hi
 obtain ⟨_, _, _, hbd, hge, hnx⟩ := C.k2 h2
 have hh1 := T.hi i hil h2
 have hfr : ∀ p, (R i).i.next <= p -> p < (R i).o.next -> ¬D p := I.fresh i hil hex h2
 -- what is common to both kinds
 have fresh' : ∀ k, k < ops.toList.length -> exI ex i k = false -> 2 <= (R k).kind -> ∀ p, (R k).i.next <= p -> p < (R k).o.next -> ¬Dm D (R i).i.next (R i).o.next p := by
  intro k hk hek hk2 p hp1 hp2 hp
  obtain ⟨e1, e2⟩ := zIv hek
  rcases hp with hp | hp
  ·exact I.fresh k hk e1 hk2 p hp1 hp2 hp
  ·exact T.apart hk hil hk2 h2 e2 p ⟨hp1, hp2⟩ hp
 have dom1' : ∀ p, Dm D (R i).i.next (R i).o.next p -> Dm D0 n0 n1 p := by
  rintro p (hp | hp)
  ·exact I.dom1 p hp
  ·exact .inr ⟨by omega, by omega⟩
 have agree' : ∀ {c' : Ctx}, (∀ p, ¬((R i).i.next <= p ∧ p < (R i).o.next) -> c'.ρ p = c.ρ p ∧ c'.x p = c.x p ∧ c'.nv p = c.nv p) -> ∀ p, ¬(n0 <= p ∧ p < n1) -> c'.ρ p = c0.ρ p ∧ c'.x p = c0.x p ∧ c'.nv p = c0.nv p := by
  intro c' hag p hp
  have h1 := hag p (by omega)
  have h3 := I.agree p hp
  exact ⟨h1.1.trans h3.1, h1.2.1.trans h3.2.1, h1.2.2.trans h3.2.2⟩
 have hk : (R i).kind = 2 ∨ (R i).kind = 3 := by have := C.le; omega
 rcases hk with hk | hk
 ·-- it reads
  obtain ⟨hmw, hkept, hno3, hview, _⟩ := C.kr hk
  have hform : (∀ j, ex j = true -> j < ops.toList.length -> (R j).kind ≠ 3) ∧ ∀ p, F p = selTo R H0 ex ops.toList.length p := by
   rcases I.form with h | ⟨t, ht, ht3, _, htj⟩
   ·exact h
   ·have : ¬ i <= t := fun h => by have := (htj i hil h2).2 h; rw [hex] at this; cases this
    exact absurd ht3 (hno3 t (by omega))
  obtain ⟨f1, f2⟩ := hform
  have hne : ∀ j, ex j = true -> j ≠ i := fun j hj e => by rw [e, hex] at hj; cases hj
  have hnomask : ∀ j, ex j = true -> ((masks ops.toList []).getD j 0).testBit i = true -> False := fun j hj hm => by
   have := hcl j i hj hm; rw [hex] at this; cases this
  have hsub : ∀ p obj, (R i).i.heap.get p = some obj -> F p = some obj := by
   intro p obj hp
   have hs : (R i).i.heap.get p ≠ none := by rw [hp]; simp
   have hv := hview p obj hp
   rw [f2, zD1 (k := i) p _ (Jd hil), <- hv]
   ·refine zB3 i p fun j hj hj2 ho => ?_
    cases hej : ex j with
    | true =>
     rcases T.sees hil (by omega) hk hj2 (by omega) ho hs with h3 | h3
     ·exact h3.symm
     ·exact absurd h3 fun h3 => hnomask j hej h3
    | false =>
     cases hmj : ((masks ops.toList []).getD i 0).testBit j with
     | false => rfl
     | true => rw [hmask j hmj] at hej; cases hej
   ·intro j h1 h3 hj2 ho
    cases hej : ex j with
    | false => rfl
    | true =>
     exfalso
     rcases T.sees hil h3 hk hj2 (hne j hej) ho hs with h4 | h4
     ·have := zKz T i hil j h4; omega
     ·exact hnomask j hej h4
  refine ⟨I.hr.sub hsub, fun c' w' hst => ?_⟩
  obtain ⟨r1, r2, r3⟩ := I.hr.read hsub hst hbd hkept hfr
  have hlow : ∀ p, F p ≠ none -> n0 <= p -> ∀ b, b < w0.heap.size -> c.ρ p = b -> ∃ q, m <= q ∧ H0 q ≠ none ∧ c0.ρ q = b := by
   intro p hp hp0 b hb he
   rcases I.live p hp with h | ⟨_, _, h5 | ⟨q, h6, h7, h8⟩⟩
   ·have := T.h0 p h; omega
   ·omega
   ·exact ⟨q, h6, h7, by rw [h8]; exact he⟩
  refine ⟨_, r2, .inl ⟨fun j hj hjl => ?_, fun p => ?_⟩, fresh', agree' hst.agree, fun b hb => (hst.low b (Qk hb I.size)).trans (I.low b hb), dom1', fun p hp => .inl (I.dom2 p hp), hst.os.trans I.os, hst.tape.trans I.tape, hst.output.trans I.output, Ql I.size hst.size, fun b hb hno => ?_, fun p hp => ?_⟩
  ·rcases zDt hj with h | rfl
   ·exact f1 j h hjl
   ·omega
  ·by_cases ho : own (R i) p
   ·rw [zHs ho, zL1 hil hk zPu ho]
    intro j h1 h3 hj2 hoj
    cases hej : exI ex i j with
    | false => rfl
    | true =>
     exfalso
     have hej' : ex j = true := by rcases zDt hej with h | h; exact h; omega
     rcases T.both hil h3 hk hj2 (by omega) hoj ho with h4 | h4
     ·have := zKz T i hil j h4; omega
     ·exact hnomask j hej' h4
   ·rw [zBr ho, f2]
    refine zB3 _ p fun j hj hj2 hoj => ?_
    have hji : j ≠ i := fun e => ho (e ▸ hoj)
    unfold exI
    simp [hji]
  ·rw [r1 b (Qk hb I.size) fun ⟨p, h1, h3, h4⟩ => hno (hlow p h3 (by omega) b hb h4)]
   exact I.far b hb hno
  ·have back : F p ≠ none -> (H0 p ≠ none ∨ (n0 <= p ∧ p < n1 ∧ (w0.heap.size <= c'.ρ p ∨ ∃ q, m <= q ∧ H0 q ≠ none ∧ c0.ρ q = c'.ρ p))) ∨ ((R i).i.next <= p ∧ p < (R i).o.next) := fun hFp => by
    by_cases hin : (R i).i.next <= p ∧ p < (R i).o.next
    ·exact .inr hin
    ·left
     rcases I.live p hFp with h | ⟨h3, h4, h5⟩
     ·exact .inl h
     ·refine .inr ⟨h3, h4, ?_⟩
      rw [(hst.agree p hin).1]; exact h5
   by_cases ho : own (R i) p
   ·rcases Qd p (R i).i.next with h3 | h3
    ·have hlo : (R i).o.mw <= p := by have := ho.1; omega
     have hFp : F p ≠ none := by
      have hs : (R i).i.heap.get p ≠ none := fun e => ho.2.2 ((hkept p hlo h3).1 e)
      obtain ⟨obj, hob⟩ := Qi.1 hs
      rw [hsub p obj hob]; simp
     rcases back hFp with h | h
     ·exact h
     ·omega
    ·exact .inr ⟨by omega, by have := ho.2.1; omega, .inl (Ql I.size (r3 p h3 ho.2.1 ho.2.2))⟩
   ·have hFp : F p ≠ none := by rwa [zBr ho] at hp
    rcases back hFp with h | h
    ·exact h
    ·exact absurd (I.hr.dom p hFp).1 (hfr p h.1 h.2)
 ·-- it stands in a row
  obtain ⟨hb3, hheap, _⟩ := C.k3 hk
  have hall : ∀ j, j < i -> 2 <= (R j).kind -> ex j = true := fun j hj hj2 => hmask j (hb3 j hj hj2)
  have hnone : ∀ j, j < ops.toList.length -> i < j -> 2 <= (R j).kind -> ex j = false := by
   intro j hj hij hj2
   cases hej : ex j with
   | false => rfl
   | true =>
    exfalso
    have Cj := T.cr j _ (Qa hj)
    have hj3 : (R j).kind = 3 := by
     rcases (show (R j).kind = 2 ∨ (R j).kind = 3 by have := Cj.le; omega) with h | h
     ·exact absurd hk ((Cj.kr h).2.2.1 i hij)
     ·exact h
    have := hcl j i hej ((Cj.k3 hj3).1 i hij h2)
    rw [hex] at this; cases this
  have hF : F = (R i).i.heap.get := by
   rw [hheap]
   rcases I.form with ⟨f1, f2⟩ | ⟨t, ht, ht3, hFt, htj⟩
   ·have hno3 : ∀ j, j < i -> (R j).kind ≠ 3 := fun j hj h => f1 j (hall j hj (by omega)) (by omega) h
    funext p
    rw [f2, zD9 i p hno3, zD1 (k := i) p _ (Jd hil)]
    ·exact zB3 i p fun j hj hj2 _ => hall j hj (by omega)
    ·intro j h1 h3 hj2 _
     by_cases hji : j = i
     ·rw [hji]; exact hex
     ·exact hnone j h3 (by omega) (by omega)
   ·-- the last of the row before
    have hti : t < i := by
     rcases Qd t i with h | h
     ·exact h
     ·have := (htj i hil h2).2 h; rw [hex] at this; cases this
    rw [hFt]
    have key : ∀ k, t < k -> k <= i -> fullTo R H0 k = (R t).o.heap.get := by
     intro k
     induction k with
     | zero => intro h; omega
     | succ k ih =>
      intro h1 h3
      unfold fullTo
      by_cases htk : t = k
      ·subst htk
       rw [if_neg (by omega), if_pos ht3]
      ·have hk2 : ¬ 2 <= (R k).kind := fun h => by
        have := (htj k (by omega) h).1 (hall k (by omega) h); omega
       rw [if_neg (by omega), if_neg (by omega)]
       exact ih (by omega) (by omega)
    rw [key i hti (Qe _)]
  have hHR : HR Φ P c D (R i).i.heap w := HRF.toT (hF ▸ I.hr)
  refine ⟨hHR, fun c' w' hst => ?_⟩
  refine ⟨(R i).o.heap.get, hst.hr.toF, .inr ⟨i, hil, hk, rfl, fun j hj hj2 => ⟨fun h => ?_, fun h => ?_⟩⟩, fresh', agree' hst.agree, fun b hb => (hst.low b (Qk hb I.size)).trans (I.low b hb), dom1', fun p hp => .inl (I.dom2 p hp), hst.os.trans I.os, hst.tape.trans I.tape, hst.output.trans I.output, Ql I.size hst.size, fun b hb hno => ?_, fun p hp => ?_⟩
  ·rcases Qd i j with h3 | h3
   ·have := hnone j hj h3 hj2
    rcases zDt h with h4 | h4
    ·rw [this] at h4; cases h4
    ·omega
   ·exact h3
  ·by_cases hji : j = i
   ·unfold exI; simp [hji]
   ·unfold exI; rw [hall j (by omega) hj2]; rfl
  ·rw [hst.far b (Qk hb I.size)]
   ·exact I.far b hb hno
   ·rintro ⟨p, hp1, hp2, hp3⟩
    have hpF : F p ≠ none := by rw [hF]; exact hp2
    have hpb := hbd.2 p hp2
    have hmp : m <= p := by
     rcases T.mw i hil hk with h | h <;> omega
    rcases I.live p hpF with h | ⟨h3, h4, h5 | ⟨q, h6, h7, h8⟩⟩
    ·exact hno ⟨p, hmp, h, by rw [<- (I.agree p (by have := T.h0 p h; omega)).1]; exact hp3⟩
    ·omega
    ·exact hno ⟨q, h6, h7, by rw [h8]; exact hp3⟩
  ·rcases hst.live p hp with h | ⟨h3, h4, h5⟩
   ·have hpF : F p ≠ none := by rw [hF]; exact h
    have hpb := hbd.2 p h
    rcases I.live p hpF with h6 | ⟨h7, h8, h9⟩
    ·exact .inl h6
    ·refine .inr ⟨h7, h8, ?_⟩
     rw [(hst.agree p (by omega)).1]; exact h9
   ·refine .inr ⟨by omega, by omega, ?_⟩
    rcases h5 with h5 | ⟨q, h6, h7, h8⟩
    ·exact .inl (Ql I.size h5)
    ·have hqF : F q ≠ none := by rw [hF]; exact h7
     have hqb := hbd.2 q h7
     have hmq : m <= q := by rcases T.mw i hil hk with h | h <;> omega
     rcases I.live q hqF with h9 | ⟨_, _, h9 | ⟨r, hr1, hr2, hr3⟩⟩
     ·exact .inr ⟨q, hmq, h9, by rw [<- (I.agree q (by have := T.h0 q h9; omega)).1]; exact h8⟩
     ·exact .inl (by rw [<- h8]; exact h9)
     ·exact .inr ⟨r, hr1, hr2, by rw [hr3]; exact h8⟩
end
section
variable {Φ : Fx} {P : Program} {E : Env} {call : CallF} {ops : Array Oper} {tm0 : List Value}
theorem HR.dm {c : Ctx} {D D' : Nat -> Prop} {H : T AObj} {w : World} (h : HR Φ P c D H w) (hD : ∀ o, D o -> D' o) : HR Φ P c D' H w :=
 ⟨fun o ho => ⟨hD o (h.dom o ho).1, (h.dom o ho).2⟩, fun o obj ho => (h.rows o obj ho).keep (fun _ _ => ⟨rfl, rfl, rfl⟩) hD (h.dom o (by rw [ho]; simp)).1 rfl, h.inj, h.bel, h.up, h.nm, h.fz, h.fr, h.kn⟩
theorem zK0 : ∀ (l : List Bool) (i : Nat), l[i]? = some false -> (l.set i true).countP (fun b => !b) + 1 = l.countP (fun b => !b)
 | [], i, h => by simp at h
 | b :: l, 0, h => by simp at h; subst h; simp
 | b :: l, i + 1, h => by
  have := zK0 l i (by simpa using h)
  simp only [List.set_cons_succ, List.countP_cons]
  omega
theorem zOm {o : Oper} {t : Tmp} (h : (Operand.tmp t) ∈ o.op.operands) : t ∈ o.looksAt ops := by
 unfold Oper.looksAt
 exact List.mem_append_left _ (List.mem_filterMap.2 ⟨.tmp t, by simpa using h, rfl⟩)
theorem zL3 {R : Nat -> Rec} {D0 : Nat -> Prop} {H0 : Nat -> Option AObj} {n0 n1 m : Nat} (T : TI P E call ops tm0 R D0 H0 n0 n1 m) {ex : Nat -> Bool} {i : Nat} {o : Oper} (hi : ops.toList[i]? = some o) (hex : ex i = false)
  (hmask : ∀ k, ((masks ops.toList []).getD i 0).testBit k = true -> ex k = true) (hcl : ∀ j k, ex j = true -> ((masks ops.toList []).getD j 0).testBit k = true -> ex k = true) {t : Tmp} (ht : t ∈ o.looksAt ops) :
  (tmSel R ex ops.toList 0 tm0)[t]? = (text ops.toList tm0 R i)[t]? := by
 refine zFj ops.toList 0 tm0 tm0 rfl fun j oj hj hd => ?_
 rw [Qg]
 rcases Nat.lt_trichotomy j i with h | h | h
 ·rcases (T.pr i o hi).2 j oj h hj with h1 | h1
  ·rw [hmask j h1]; simp [h]
  ·exact absurd ht ((Oper.apart_spec h1).1 t hd)
 ·rw [h, hex]; simp
 ·rcases (T.pr j oj hj).2 i o h hi with h1 | h1
  ·cases hej : ex j with
   | false => symm; simp; omega
   | true => have := hcl j i hej h1; rw [hex] at this; cases this
  ·exact absurd ht ((Oper.apart_spec h1).2.2 t hd)
theorem zFm {Z : Nat} {tm tm' : List Value} {o : Oper} (h : ∀ t, t ∈ o.looksAt ops -> tm[t]? = tm'[t]?) : ∀ x ∈ o.op.operands, aeval Z tm x = aeval Z tm' x := by
 intro x hx
 cases x with
 | tmp t => simp only [aeval, zB4, h t (zOm hx)]
 | _ => rfl
theorem zKf {tm tm' : List Value} {o : Oper} (h : ∀ t, t ∈ o.looksAt ops -> tm[t]? = tm'[t]?) : wanted ops.toList tm o = wanted ops.toList tm' o := by
 unfold wanted
 cases hg : o.guard with
 | none => rfl
 | some jw =>
  obtain ⟨j, want⟩ := jw
  simp only
  cases hd : dstOf ops.toList j with
  | none => rfl
  | some d =>
   have hl : d ∈ o.looksAt ops := by
    unfold Oper.looksAt
    refine List.mem_append_right _ ?_
    rw [hg]
    unfold dstOf at hd
    rw [zB4, Qb] at hd
    cases hj : ops[j]? with
    | none => rw [hj] at hd; cases hd
    | some oj => rw [hj] at hd; simp only at hd; simp [hj, hd]
   simp only [zB4, h d hl]
theorem zOn {R : Nat -> Rec} {D0 : Nat -> Prop} {H0 : Nat -> Option AObj} {n0 n1 m : Nat} (T : TI P E call ops tm0 R D0 H0 n0 n1 m) {ex : Nat -> Bool} {i : Nat} {o : Oper} (hi : ops.toList[i]? = some o) (hex : ex i = false)
  (hcl : ∀ j k, ex j = true -> ((masks ops.toList []).getD j 0).testBit k = true -> ex k = true) : tmSel R (exI ex i) ops.toList 0 tm0 = putT (tmSel R ex ops.toList 0 tm0) o.dst (R i).v := by
 apply List.ext_getElem?
 intro t
 have h := zF1 (R := R) (sel := ex) (i := i) (t := t) (oi := o) ops.toList 0 tm0 (Qf _) (by simpa using hi) (fun j oj hj hlt hd hd' => by
  rw [Qg] at hlt ⊢
  rcases (T.pr j oj hj).2 i o hlt hi with h1 | h1
  ·cases hej : ex j with
   | false => rfl
   | true => have := hcl j i hej h1; rw [hex] at this; cases this
  ·exact absurd hd ((Oper.apart_spec h1).2.1 t hd'))
 have e : (fun j => ex j && !decide (j = i)) = ex := by
  funext j
  by_cases hji : j = i
  ·rw [hji, hex]; simp
  ·simp [hji]
 rw [e] at h
 exact h
theorem zJw {R : Nat -> Rec} {H0 : Nat -> Option AObj} {t : Nat} (ht3 : (R t).kind = 3) : ∀ n, t < n -> (∀ j, j < n -> 2 <= (R j).kind -> j <= t) -> fullTo R H0 n = (R t).o.heap.get
 | 0, h, _ => by omega
 | k + 1, h, hj => by
  unfold fullTo
  by_cases htk : t = k
  ·subst htk; rw [if_neg (by omega), if_pos ht3]
  ·have hk2 : ¬ 2 <= (R k).kind := fun h2 => by have := hj k (by omega) h2; omega
   rw [if_neg (by omega), if_neg (by omega)]
   exact zJw ht3 k (by omega) fun j hj' => hj j (by omega)
theorem LoadsTo.congr {ev ev2 : Operand -> Value} {o : Oper} {ad : Addr} {n : Nat} {cs : List Value} {v : Value} (h : LoadsTo P ev o ad n cs v) (he : ∀ x ∈ o.op.operands, ev2 x = ev x) : LoadsTo P ev2 o ad n cs v := by
 obtain ⟨t, a, h1, h2, h3⟩ := h
 exact ⟨t, a, h1, by rw [he a (by rw [h1]; simp [Op.operands])]; exact h2, h3⟩
theorem zNe {c : Ctx} {D : Nat -> Prop} {F : Nat -> Option AObj} {w : World} {ev ev' : Operand -> Value} {o : Oper} {ad : Addr} {n : Nat} {cs : List Value} {v : Value} (h : HRF Φ P c D F w) (hF : cellsF F ad n = some cs)
  (hl : LoadsTo P ev o ad n cs v) (hev : ∀ x, VR (zId P) c D (ev x) (ev' x)) : ∃ v', VR (zId P) c D v v' ∧ (execOp ev' o).run P w = .ok (.value v') w := by
 obtain ⟨t, a, h1, h2, h3⟩ := hl
 have hH : ∃ H : T AObj, HR Φ P c D H w ∧ cellsAt H ad n = some cs := by
  have hF2 := hF
  unfold cellsF at hF2
  split at hF2
  ·rename_i obj hob
   have hb : ad.block < 4000000 := (h.dom ad.block (by rw [hob]; simp)).2.2
   have hg : ∀ p, (T.set (some obj) deep (.leaf : T AObj) ad.block).get p = if p = ad.block then some obj else none := fun p => by
    rw [zBx _ _ _ _ _ (by unfold deep; omega), zB7]
   refine ⟨T.set (some obj) deep .leaf ad.block, h.sub fun p ob hp => ?_, ?_⟩
   ·rw [hg] at hp
    by_cases e : p = ad.block
    ·rw [if_pos e] at hp; rw [e, hob]; exact hp
    ·rw [if_neg e] at hp; cases hp
   ·unfold cellsAt
    rw [hg, if_pos rfl]; exact hF2
  ·cases hF2
 obtain ⟨H, hH, hc⟩ := hH
 obtain ⟨ob, off, rfl, e3, hd⟩ := zCu (h2 ▸ hev a)
 obtain ⟨l', r1, r2, r3, r4⟩ := zBi hH hc
 rcases h3 with ⟨hag, hsz, rfl⟩ | ⟨hag, ⟨sz, hsz⟩, rfl, rfl⟩
 ·refine ⟨_, VR.agg_of r1, ?_⟩
  unfold execOp
  rw [h1]
  simp only [Instr.loadAt, e3, Instr.sureAddr, loadVar, Sem.run_bind, Sem.run_pure, Result.andThen_ok, zCs hag, if_true, zAx hsz]
  rw [zC9 (by rw [<- r1.1, r2]) r3]
  rfl
 ·obtain ⟨u', k1, k2⟩ := r1.at (i := 0) rfl
  refine ⟨u', k2, ?_⟩
  have := r3 0 u' k1
  rw [Qm] at this
  unfold execOp
  rw [h1]
  simp only [Instr.loadAt, e3, Instr.sureAddr, loadVar, Sem.run_bind, Sem.run_pure, Result.andThen_ok, zCs hag, Je, if_false, run_load, this]
theorem zNf (hE : E.P = P) (hc : CallOK Φ P call) {R : Nat -> Rec} {c0 : Ctx} {D0 : Nat -> Prop} {H0 : Nat -> Option AObj} {w0 : World} {n0 n1 m : Nat} (T : TI P E call ops tm0 R D0 H0 n0 n1 m) {a0 : Act} (hG0 : Glob (zId P) c0 D0)
  {Q : Exit -> Act -> World -> Prop}
  (hQ : ∀ c D F a w, OH Φ P ops R c0 D0 H0 w0 n0 n1 m (fun j => decide (j < ops.toList.length)) c D F w -> F = fullTo R H0 ops.toList.length -> LR (zId P) c D (text ops.toList tm0 R ops.toList.length) a.tmps.toList -> a.defers = a0.defers -> Q .normal a w) :
  ∀ (fuel : Nat) (listed : Array Bool) (c : Ctx) (D : Nat -> Prop) (F : Nat -> Option AObj) (a : Act) (w : World), listed.size = ops.size -> listed.toList.countP (fun b => !b) = fuel ->
   (∀ j k, listed.getD j false = true -> ((masks ops.toList []).getD j 0).testBit k = true -> listed.getD k false = true) ->
   OH Φ P ops R c0 D0 H0 w0 n0 n1 m (fun j => listed.getD j false) c D F w -> LR (zId P) c D (tmSel R (fun j => listed.getD j false) ops.toList 0 tm0) a.tmps.toList -> a.defers = a0.defers ->
   wpAny P .any ops Q fuel listed a w := by
 -- all have come up
 have fin : ∀ (listed : Array Bool) (c : Ctx) (D : Nat -> Prop) (F : Nat -> Option AObj) (a : Act) (w : World), listed.size = ops.size -> (∀ j, j < ops.size -> listed.getD j false = true) ->
   OH Φ P ops R c0 D0 H0 w0 n0 n1 m (fun j => listed.getD j false) c D F w -> LR (zId P) c D (tmSel R (fun j => listed.getD j false) ops.toList 0 tm0) a.tmps.toList -> a.defers = a0.defers -> Q .normal a w := by
  intro listed c D F a w hs hall I hT hd
  have hlen : ops.toList.length = ops.size := Qj
  have hex : (fun j => listed.getD j false) = fun j => decide (j < ops.toList.length) := by
   funext j
   by_cases hj : j < ops.size
   ·rw [hall j hj, hlen]; simp [hj]
   ·rw [hlen, decide_eq_false hj, Qc, Array.getElem?_eq_none (by omega)]; rfl
  rw [hex] at I hT
  refine hQ c D F a w I ?_ hT hd
  rcases I.form with ⟨f1, f2⟩ | ⟨t, ht, ht3, hFt, htj⟩
  ·funext p
   rw [f2, zD9 _ p fun j hj => f1 j (by simpa using hj) hj]
   exact zB3 _ p fun j hj _ _ => by simpa using hj
  ·rw [hFt]
   exact (zJw ht3 _ ht fun j hj hj2 => (htj j hj hj2).1 (by simpa using hj)).symm
 intro fuel
 induction fuel with
 | zero =>
  intro listed c D F a w hs hcnt hcl I hT hd
  have hall : ∀ j, j < ops.size -> listed.getD j false = true := by
   intro j hj
   have hj' : j < listed.toList.length := by rw [Qj]; omega
   have := Jf.1 hcnt (listed.toList[j]) (List.getElem_mem hj')
   rw [Qc, <- Qb, Qa hj']
   simpa using this
  refine ⟨?_, fin listed c D F a w hs hall I hT hd⟩
  rw [List.eq_nil_iff_forall_not_mem]
  intro i hir
  obtain ⟨h1, oi, h2, _⟩ := mem_ready.1 hir
  have hlt : i < ops.size := (Qt.1 h2).1
  have := hall i hlt
  rw [Qc, Qn (by omega)] at this h1
  simp only [Jb] at this h1
  rw [h1] at this; cases this
 | succ fuel ih =>
  intro listed c D F a w hs hcnt hcl I hT hd
  have notlisted : ∀ j, j < ops.size -> listed.getD j false = false -> listed.getD j true = false := by
   intro j hj h
   rw [Qc, Qn (by omega)] at h ⊢
   exact h
  refine ⟨fun hnil => ?_, fun i hir => ?_⟩
  ·exfalso
   -- the first that has not come up is ready
   have hex : ∃ j, j < ops.size ∧ listed.getD j false = false := by
    refine Classical.byContradiction fun hno => ?_
    have : listed.toList.countP (fun b => !b) = 0 := by
     rw [Jf]
     intro b hb
     obtain ⟨j, hj⟩ := List.mem_iff_getElem?.1 hb
     have hjl : j < ops.size := by have := (Qr.1 hj).1; rw [Qj] at this; omega
     cases b with
     | true => simp
     | false =>
      exfalso
      refine hno ⟨j, hjl, ?_⟩
      rw [Qc, <- Qb, hj]; rfl
    omega
   have least : ∀ k j, j <= k -> j < ops.size -> listed.getD j false = false -> ∃ i, i < ops.size ∧ listed.getD i false = false ∧ ∀ q, q < i -> listed.getD q false = true := by
    intro k
    induction k with
    | zero => intro j h1 h2 h3; exact ⟨j, h2, h3, fun q hq => by omega⟩
    | succ k ihk =>
     intro j h1 h2 h3
     by_cases hq : ∃ q, q < j ∧ listed.getD q false = false
     ·obtain ⟨q, hq1, hq2⟩ := hq
      exact ihk q (by omega) (by omega) hq2
     ·refine ⟨j, h2, h3, fun q hqj => ?_⟩
      cases hb : listed.getD q false with
      | true => rfl
      | false => exact absurd ⟨q, hqj, hb⟩ hq
   obtain ⟨j, hj1, hj2⟩ := hex
   obtain ⟨i, hi1, hi2, hi3⟩ := least j j (Qe _) hj1 hj2
   have hmem : i ∈ Region.ready .any ops listed := by
    rw [mem_ready]
    refine ⟨notlisted i hi1 hi2, ops[i], Qn hi1, fun e he hb => hi3 _ ?_⟩
    exact (T.pr i ops[i] (by rw [Qb]; exact Qn hi1)).1 e (by simpa using he) hb
   rw [hnil] at hmem; cases hmem
  ·obtain ⟨h1, oi, h2, h3⟩ := mem_ready.1 hir
   have hlt : i < ops.size := (Qt.1 h2).1
   have hi : ops.toList[i]? = some oi := by rw [Qb]; exact h2
   have hil : i < ops.toList.length := by rw [Qj]; exact hlt
   have hex : listed.getD i false = false := by
    rw [Qc, Qn (by omega)] at h1 ⊢
    exact h1
   have hmask : ∀ k, ((masks ops.toList []).getD i 0).testBit k = true -> listed.getD k false = true := by
    intro k hk
    obtain ⟨e, he, hb, h4⟩ := zIu hi hk
    have := h3 e (by simpa using he) hb
    rcases h4 with rfl | h4
    ·exact this
    ·exact hcl _ _ this h4
   have hlook : ∀ t, t ∈ oi.looksAt ops -> (tmSel R (fun j => listed.getD j false) ops.toList 0 tm0)[t]? = (text ops.toList tm0 R i)[t]? := fun t ht => zL3 T hi hex hmask hcl ht
   have hoo : opOK (zId P) oi = true := by
    have := T.ok
    unfold opsOK at this
    rw [zA8] at this
    exact this oi (Jg hi)
   have hG : Glob (zId P) c D := fun g hg => ⟨I.dom2 g (hG0 g hg).1, by rw [(I.agree g (by have := T.z; omega)).1]; exact (hG0 g hg).2⟩
   -- the next place
   have hset : ∀ j, (listed.setIfInBounds i true).getD j false = exI (fun j => listed.getD j false) i j := by
    intro j
    show _ = (listed.getD j false || decide (j = i))
    rw [Qc, Qc, Array.getElem?_setIfInBounds]
    by_cases hji : j = i
    ·subst hji; rw [if_pos rfl, if_pos (by omega)]; simp
    ·rw [if_neg (fun e => hji e.symm)]; simp [hji]
   have hsetf : (fun j => (listed.setIfInBounds i true).getD j false) = exI (fun j => listed.getD j false) i := funext hset
   have hcl' : ∀ j k, (listed.setIfInBounds i true).getD j false = true -> ((masks ops.toList []).getD j 0).testBit k = true -> (listed.setIfInBounds i true).getD k false = true := by
    intro j k hj hk
    rw [hset] at hj ⊢
    rcases zDt hj with h | rfl
    ·exact zJv (hcl j k h hk)
    ·exact zJv (hmask k hk)
   have hcnt' : (listed.setIfInBounds i true).toList.countP (fun b => !b) = fuel := by
    rw [Array.toList_setIfInBounds]
    have hl : listed.toList[i]? = some false := by
     rw [Qc, <- Qb, Qa (by rw [Qj]; omega)] at hex
     rw [Qa (by rw [Qj]; omega)]
     simpa using hex
    have := zK0 _ _ hl
    omega
   have hs' : (listed.setIfInBounds i true).size = ops.size := by simpa using hs
   have go : ∀ c' D' F' a' w', OH Φ P ops R c0 D0 H0 w0 n0 n1 m (exI (fun j => listed.getD j false) i) c' D' F' w' -> LR (zId P) c' D' (putT (tmSel R (fun j => listed.getD j false) ops.toList 0 tm0) oi.dst (R i).v) a'.tmps.toList ->
     a'.defers = a0.defers -> wpAny P .any ops Q fuel (listed.setIfInBounds i true) a' w' := by
    intro c' D' F' a' w' I' hT' hd'
    refine ih _ c' D' F' a' w' hs' hcnt' hcl' ?_ ?_ hd'
    ·rw [hsetf]; exact I'
    ·rw [hsetf, zOn T hi hex hcl]; exact hT'
   -- no memory: the same memory
   have same : (R i).kind < 2 -> OH Φ P ops R c0 D0 H0 w0 n0 n1 m (exI (fun j => listed.getD j false) i) c D F w := by
    intro hk
    refine ⟨I.hr, ?_, fun k hk1 hk2 => I.fresh k hk1 (zIv hk2).1, I.agree, I.low, I.dom1, I.dom2, I.os, I.tape, I.output, I.size, I.far, I.live⟩
    rcases I.form with ⟨f1, f2⟩ | ⟨t, ht, ht3, hFt, htj⟩
    ·refine .inl ⟨fun j hj hjl => ?_, fun p => ?_⟩
     ·rcases zDt hj with h | rfl
      ·exact f1 j h hjl
      ·omega
     ·rw [f2]
      refine zB3 _ p fun j hj hj2 _ => ?_
      have hji : j ≠ i := fun e => by rw [e] at hj2; omega
      unfold exI
      simp [hji]
    ·refine .inr ⟨t, ht, ht3, hFt, fun j hj hj2 => ⟨fun h => ?_, fun h => ?_⟩⟩
     ·rcases zDt h with h | rfl
      ·exact (htj j hj hj2).1 h
      ·omega
     ·exact zJv ((htj j hj hj2).2 h)
   have C := T.cr i oi hi
   unfold wpOp
   simp only [h2]
   rw [<- zIt hT ops oi, zKf hlook]
   by_cases hk0 : (R i).kind = 0
   ·obtain ⟨k1, k2⟩ := C.k0 hk0
    rw [k1, if_neg (by simp)]
    refine go c D F _ w (same (by omega)) ?_ (by rw [<- hd]; cases oi.dst <;> rfl)
    rw [k2]; exact hT.put .undef _
   ·by_cases hk1 : (R i).kind = 1
    ·obtain ⟨k1, k2⟩ := C.k1 hk1
     rw [k1, if_pos rfl]
     refine .inl ?_
     rcases k2 with k2 | ⟨ad, n, cs, q1, q2, q3, q4⟩
     ·rw [zNc oi (fun x hx => (zFm hlook x hx).symm)] at k2
      obtain ⟨v', k3, k4⟩ := zIq (zEb hT hG) oi _ k2
      unfold Oper.wp
      rw [zFz hoo, k4 w]
      exact go c D F _ w (same (by omega)) (hT.put k3 _) (by rw [<- hd]; cases oi.dst <;> rfl)
     ·-- a load that reads the same whenever it comes up
      have hF : cellsF F ad n = some cs := by
       rcases I.form with ⟨f1, f2⟩ | ⟨t, ht, ht3, hFt, htj⟩
       ·have hFb : F ad.block = H0 ad.block := by
         rw [f2]
         rcases zFi (R := R) (H0 := H0) (sel := fun j => listed.getD j false) ops.toList.length ad.block with h | ⟨j, j1, j2, j3, j4⟩
         ·exact h
         ·exfalso
          have Cj := T.cr j _ (Qa j1)
          have b1 := (Cj.kr j2).1
          have b2 := (Cj.k2 (by omega)).2.2.2.2.1
          have := j4.1
          omega
        rcases q4 with ⟨j, j1, j2, j3, _⟩ | ⟨q5, _⟩
        ·exact absurd j2 (f1 j (hmask j j3) (by omega))
        ·unfold cellsF at q5 ⊢; rw [hFb]; exact q5
       ·rw [hFt]
        rcases Qd t i with hti | hti
        ·rcases q4 with ⟨j, j1, j2, j3, j4⟩ | ⟨_, q5⟩
         ·exact j4 t ((htj j (by omega) (by omega)).1 (hmask j j3)) hti ht3
         ·exact q5 t hti ht3
        ·have hne : i ≠ t := fun e => by rw [e] at hk1; omega
         have Ct := T.cr t _ (Qa ht)
         rcases (Ct.k3 ht3).2.2 i (by omega) ad n cs q1 with h | h
         ·have := hcl t i ((htj t ht (by omega)).2 (Qe _)) h
          rw [hex] at this; cases this
         ·exact h
      obtain ⟨v', k3, k4⟩ := zNe (ev' := ev1 (zId P) a) I.hr hF (q3.congr fun x hx => zFm hlook x hx) (zEb hT hG)
      unfold Oper.wp
      rw [zFz hoo, k4]
      exact go c D F _ w (same (by omega)) (hT.put k3 _) (by rw [<- hd]; cases oi.dst <;> rfl)
    ·have hk2 : 2 <= (R i).kind := by omega
     obtain ⟨k1, k2, k3, k4, k5, _⟩ := C.k2 hk2
     rw [k1, if_pos rfl]
     refine .inl ?_
     have hz : zId P < (R i).i.next := by have := T.z; omega
     have hmo := zDc hc k2 hz
     obtain ⟨hHR, hnext⟩ := I.touch T hi hex hmask hcl hk2 hmo
     rw [zL0 oi _ (fun x hx => (zFm hlook x hx).symm)] at k2
     have hfr := I.fresh i hil hex hk2
     refine zHr hE hc k2 hz k4 hHR hG hfr (zEb hT hG) (zFz hoo) fun c' v' w' hst hv => ?_
     obtain ⟨F', I'⟩ := hnext c' w' hst
     refine go c' _ F' _ w' I' ?_ (by rw [<- hd]; cases oi.dst <;> rfl)
     exact (hT.mono (fun p hp => hst.agree p fun ⟨h5, h6⟩ => hfr p h5 h6 hp) (fun p hp => .inl hp)).put hv _
end
section
variable {Φ : Fx} {P : Program} {E : Env} {call : CallF}
theorem zCf (hc : CallOK Φ P call) {n0 : Nat} {ops : List Oper} : ∀ (rest : List Oper) (ms : List Nat) (i touched : Nat) (seq : Bool) (base : T AObj) (outs : List (Nat × T AObj)) (reads : List Rdg) (deltas : List Delta) (tm : List Value) (s : St) (tm' : List Value) (s' : St),
  runDrawn E call n0 ops rest ms i touched seq base outs reads deltas tm s = some (tm', s') -> zId P < s.next -> s.next <= s'.next ∧ s'.mw <= s.mw
 | [], ms, i, touched, seq, base, outs, reads, deltas, tm, s, tm', s', h, hZ => by
  simp only [runDrawn, Option.some.injEq, Prod.mk.injEq] at h
  obtain ⟨_, rfl⟩ := h
  exact ⟨Qe _, Qe _⟩
 | o :: rest, ms, i, touched, seq, base, outs, reads, deltas, tm, s, tm', s', h, hZ => by
  unfold runDrawn at h
  simp only at h
  cases hw : wanted ops tm o with
  | false => rw [hw, cond_false] at h; exact zCf hc rest _ _ _ _ _ _ _ _ _ _ _ _ h hZ
  | true =>
   rw [hw, cond_true] at h
   split at h
   ·rw [zCd] at h; exact zCf hc rest _ _ _ _ _ _ _ _ _ _ _ _ h hZ
   ·split at h
    ·rw [zCd] at h; exact zCf hc rest _ _ _ _ _ _ _ _ _ _ _ _ h hZ
    obtain ⟨_, h⟩ := zKx h
    split at h
    ·rename_i v s1 hd
     rw [zCd] at h
     obtain ⟨m1, m2, _⟩ := zDc hc hd hZ
     dsimp only at m1 m2
     rcases zD0 h with ⟨_, h⟩ | ⟨_, h⟩
     ·obtain ⟨h1, h2⟩ := zCf hc rest _ _ _ _ _ _ _ _ _ _ _ _ h (by dsimp only; omega)
      dsimp only at h1 h2
      exact ⟨by omega, Ql h2 (Qu _ _)⟩
     ·obtain ⟨_, h⟩ := zAk h
      obtain ⟨h1, h2⟩ := zCf hc rest _ _ _ _ _ _ _ _ _ _ _ _ h (by dsimp only; omega)
      dsimp only at h1 h2
      exact ⟨by omega, Ql h2 (Qu _ _)⟩
    ·cases h
theorem zJx (hE : E.P = P) (hc : CallOK Φ P call) (hmix : P.follows .mixedOrders = true) {ops : Array Oper} (hok : opsOK (zId P) ops.toList = true)
  (hdr : drawnOK ops [] ops.toList (masks ops.toList []) 0 = true) {tm tm' : List Value} {s s' : St}
  (h : runDrawn E call s.next ops.toList ops.toList (masks ops.toList []) 0 0 false s.heap [] [] [] tm s = some (tm', s')) (hZ : zId P < s.next) :
  Mo s s' ∧ ∀ (c : Ctx) (D : Nat -> Prop) (w : World) (a : Act) (id : Nat) (Q : Exit -> Act -> World -> Prop), Bd s -> HR Φ P c D s.heap w -> Glob (zId P) c D -> (∀ o, s.next <= o -> o < s'.next -> ¬D o) -> LR (zId P) c D tm a.tmps.toList ->
   (∀ c' a' w', Step Φ P c c' D s.heap s'.heap s.next s'.next s'.mw w w' -> LR (zId P) c' (Dm D s.next s'.next) tm' a'.tmps.toList -> a'.defers = a.defers -> Q .normal a' w') ->
   (Code.region id ops true).wp P Q a w := by
 obtain ⟨le1, le2⟩ := zCf hc _ _ _ _ _ _ _ _ _ _ _ _ _ h hZ
 have tr : Bd s -> Traced P E call ops.toList (masks ops.toList []) tm s.heap.get s.next 0 (fun _ => ⟨0, undef, s, s, none⟩) s tm' s' := fun hB => by
  refine zCe hE hc ops.toList 0 _ 0 false s.heap [] [] [] tm s tm' s' (fun j => by rw [Qg]) ?_ hZ ?_ (Qf _)
  ·rw [Jh]; exact h
  ·refine ⟨?_, hB, rfl, Qe _, fun j hj => by omega, fun j hj => by omega, fun _ => ⟨fun j hj => by omega, fun m p => rfl, fun d hd => (by cases hd), fun j hj => by omega⟩, hB.2, rfl, fun j hj => by omega, fun j hj => by omega⟩
   unfold text
   exact (zEa _ _ _ fun j _ => by simp).symm
 refine ⟨⟨le1, le2, fun hB => ?_⟩, fun c D w a id Q hB hH hG hf hT hQ => ?_⟩
 ·obtain ⟨R, _, _, _, _, _, _, b7, _, _, b10⟩ := tr hB
  exact ⟨b7, b10⟩
 ·obtain ⟨R, b1, b2, b3, b4, b5, b6, b7, b8, b9, b10⟩ := tr hB
  refine wp_region_any hmix ?_
  have T : TI P E call ops tm R D s.heap.get s.next s'.next s'.mw := by
   refine ⟨fun k o ho => b2 k (Qf _) o ho, hok, fun k o ho => ?_, fun k hk => b8 k (Qf _) hk, fun k hk => b9 k (Qf _) hk, hB.2, ?_, hf, hZ⟩
   rotate_left
   ·intro k hk hk2
    have C := (b2 k (Qf _) _ (Qa hk)).k2 hk2
    exact (zDc hc C.2.1 (by have := C.2.2.2.2.1; omega)).1
   refine zF6 ops.toList 0 (fun q => by rw [Qg]) (Qf _) ?_ k (Qf _) o ho
   rw [List.take_zero, Jh]; exact hdr
  have hrep : ∀ j, (Qv ops.size false).getD j false = false := fun j => by
   rw [Qc, Array.getElem?_replicate]; split <;> rfl
  have hrepf : (fun j => (Qv ops.size false).getD j false) = fun _ => false := funext hrep
  refine zNf hE hc T hG (c0 := c) (w0 := w) (a0 := a) ?_ ops.size _ c D s.heap.get a _ (by simp) (by simp [List.countP_replicate]) (fun j k hj => by rw [hrep] at hj; cases hj) ?_ ?_ rfl
  ·intro c' D' F a' w' I hF hT' hd'
   rw [hF, <- b4] at I
   rw [<- b3] at hT'
   have hHR : HR Φ P c' (Dm D s.next s'.next) s'.heap w' := I.hr.toT.dm I.dom1
   refine hQ c' a' w' ⟨b5, I.agree, I.low, hHR, I.os, I.tape, I.output, I.size, I.far, I.live, fun p hp hl => b10 p hp (hB.2 p hl)⟩ (hT'.mono (fun _ _ => ⟨rfl, rfl, rfl⟩) I.dom1) hd'
  ·rw [hrepf]
   refine ⟨(hH.drawn _).toF, .inl ⟨fun j hj => (by cases hj), fun p => (zD1 (k := 0) p _ (Qf _) (fun _ _ _ _ _ => rfl)).symm⟩, fun k hk _ hk2 p hp1 hp2 => ?_, fun _ _ => ⟨rfl, rfl, rfl⟩, fun _ _ => rfl, fun p hp => .inl hp, fun p hp => hp, rfl, rfl, rfl, Qe _, fun _ _ _ => rfl, fun p hp => .inl hp⟩
   have C := (T.cr k _ (Qa hk)).k2 hk2
   have := T.hi k hk hk2
   exact hf p (by have := C.2.2.2.2.1; omega) (by omega)
  ·rw [hrepf, zEa _ _ _ fun _ _ => rfl]; exact hT
def AExit.toExit : AExit -> Exit
 | .normal => .normal
 | .exit id => .exit id
 | .ret => .ret
def Behind (Φ : Fx) (P : Program) (c : Ctx) (D : Nat -> Prop) (w : World) (s s' : St) (tm' : List Value) (a a' : Act) (w' : World) : Prop :=
 ∃ c', Step Φ P c c' D s.heap s'.heap s.next s'.next s'.mw w w' ∧ LR (zId P) c' (Dm D s.next s'.next) tm' a'.tmps.toList ∧ a'.defers = a.defers
theorem Behind.trans {c : Ctx} {D : Nat -> Prop} {w w1 w2 : World} {s s1 s2 : St} {tm2 : List Value} {a a1 a2 : Act} {c1 : Ctx} (hH : HR Φ P c D s.heap w) (hf : ∀ o, s.next <= o -> o < s2.next -> ¬D o)
  (h1 : Step Φ P c c1 D s.heap s1.heap s.next s1.next s1.mw w w1) (hd : a1.defers = a.defers) (hm : s2.mw <= s1.mw)
  (h : Behind Φ P c1 (Dm D s.next s1.next) w1 s1 s2 tm2 a1 a2 w2) : Behind Φ P c D w s s2 tm2 a a2 w2 := by
 obtain ⟨c2, k1, k2, k3⟩ := h
 refine ⟨c2, (h1.weaken hm).trans (fun o ho hoo => hf o hoo.1 hoo.2 ho) hH k1, ?_, k3.trans hd⟩
 rw [Dm.trans h1.le k1.le] at k2
 exact k2
def CodeOK (Φ : Fx) (P : Program) (code : Code) (tm : List Value) (s : St) (x : AExit) (tm' : List Value) (s' : St) : Prop :=
 Mo s s' ∧ ∀ (c : Ctx) (D : Nat -> Prop) (w : World) (a : Act) (Q : Exit -> Act -> World -> Prop), Bd s -> HR Φ P c D s.heap w -> Glob (zId P) c D -> (∀ o, s.next <= o -> o < s'.next -> ¬D o) -> LR (zId P) c D tm a.tmps.toList ->
  (∀ a' w', Behind Φ P c D w s s' tm' a a' w' -> Q x.toExit a' w') -> code.wp P Q a w
theorem Behind.refl {c : Ctx} {D : Nat -> Prop} {w : World} {s : St} {tm : List Value} {a : Act} (hH : HR Φ P c D s.heap w) (hT : LR (zId P) c D tm a.tmps.toList) : Behind Φ P c D w s s tm a a w :=
 ⟨c, .refl hH, by rw [Dm.nil]; exact hT, rfl⟩
theorem zL4 (hE : E.P = P) (hc : CallOK Φ P call) (hmix : P.follows .mixedOrders = true) : ∀ (code : Code) (tm : List Value) (s : St) (x : AExit) (tm' : List Value) (s' : St),
  exec E call code tm s = some (x, tm', s') -> zId P < s.next -> CodeOK Φ P code tm s x tm' s' := by
 intro code
 induction code with
 | skip =>
  intro tm s x tm' s' h hZ
  simp only [exec, Option.some.injEq, Prod.mk.injEq] at h
  obtain ⟨rfl, rfl, rfl⟩ := h
  exact ⟨.refl _, fun c D w a Q hB hH hG hf hT hQ => wp_skip (hQ a w (.refl hH hT))⟩
 | region id ops draw =>
  intro tm s x tm' s' h hZ
  unfold exec at h
  rw [hE] at h
  obtain ⟨hok, h⟩ := zAk h
  cases draw with
  | true =>
   rw [cond_true] at h
   obtain ⟨hdr, h⟩ := zAk h
   split at h
   ·rename_i tm1 s1 hr
    simp only [Option.some.injEq, Prod.mk.injEq] at h
    obtain ⟨rfl, rfl, rfl⟩ := h
    obtain ⟨h1, h2⟩ := zJx hE hc hmix hok hdr hr hZ
    exact ⟨h1, fun c D w a Q hB hH hG hf hT hQ => h2 c D w a id Q hB hH hG hf hT fun c' a' w' k1 k2 k3 => hQ a' w' ⟨c', k1, k2, k3⟩⟩
   ·cases h
  | false =>
   rw [cond_false] at h
   split at h
   ·rename_i tm1 s1 hr
    simp only [Option.some.injEq, Prod.mk.injEq] at h
    obtain ⟨rfl, rfl, rfl⟩ := h
    refine ⟨zC0 hc _ _ _ _ _ hr hZ, fun c D w a Q hB hH hG hf hT hQ => ?_⟩
    refine wp_region ?_
    have := zDi hE hc hok (Q := Q) ops.toList 0 tm tm1 s s1 (fun j => by rw [Qg, Qb]) hr hZ c D w a hB hH hG hf hT fun c' a' w' k1 k2 k3 => hQ a' w' ⟨c', k1, k2, k3⟩
    rw [Qj] at this
    rw [List.range_eq_range']
    exact this
   ·cases h
 | seq x y ihx ihy =>
  intro tm s e tm' s' h hZ
  unfold exec at h
  split at h
  ·rename_i tm1 s1 h1
   obtain ⟨m1, k1⟩ := ihx tm s _ tm1 s1 h1 hZ
   obtain ⟨m2, k2⟩ := ihy tm1 s1 e tm' s' h (by have := m1.1; omega)
   refine ⟨m1.trans m2, fun c D w a Q hB hH hG hf hT hQ => wp_seq ?_⟩
   obtain ⟨f1, f2⟩ := zF0 hf m1.1 m2.1
   refine k1 c D w a _ hB hH hG f1 hT fun a1 w1 hb => ?_
   obtain ⟨c1, st1, l1, d1⟩ := hb
   exact k2 c1 (Dm D s.next s1.next) w1 a1 Q (m1.2.2 hB).1 st1.hr (hG.step st1 hZ) f2 l1 fun a2 w2 hb2 => hQ a2 w2 (.trans hH hf st1 d1 m2.2.1 hb2)
  ·rename_i r hr
   obtain ⟨m1, k1⟩ := ihx tm s e tm' s' h hZ
   refine ⟨m1, fun c D w a Q hB hH hG hf hT hQ => wp_seq (k1 c D w a _ hB hH hG hf hT fun a' w' hb => ?_)⟩
   have := hQ a' w' hb
   cases e with
   | normal => exact absurd h (hr _ _)
   | exit id => exact this
   | ret => exact this
 | cond cn t e iht ihe =>
  intro tm s x tm' s' h hZ
  unfold exec at h
  have heval : ∀ (c : Ctx) (D : Nat -> Prop) (a : Act) (b : Bool), Glob (zId P) c D -> LR (zId P) c D tm a.tmps.toList -> aeval (zId E.P) tm cn = .bool b -> a.eval cn = .bool b := by
   intro c D a b hG hT hb
   rw [hE] at hb
   have := zEb hT hG cn
   rw [hb] at this
   have h2 := zCk this
   cases cn with
   | const v =>
    simp only [aeval] at hb
    cases hv : ground2 v with
    | false => rw [hv] at hb; cases hb
    | true => rw [hv] at hb; exact hb
   | global g =>
    simp only [aeval] at hb
    cases hv : Qh g (zId P) <;> rw [hv] at hb <;> cases hb
   | tmp t => exact h2
   | func f => exact h2
  split at h
  ·rename_i hb
   obtain ⟨m1, k1⟩ := iht tm s x tm' s' h hZ
   exact ⟨m1, fun c D w a Q hB hH hG hf hT hQ => wp_cond_true (heval c D a true hG hT hb) (k1 c D w a Q hB hH hG hf hT hQ)⟩
  ·rename_i hb
   obtain ⟨m1, k1⟩ := ihe tm s x tm' s' h hZ
   exact ⟨m1, fun c D w a Q hB hH hG hf hT hQ => wp_cond_false (heval c D a false hG hT hb) (k1 c D w a Q hB hH hG hf hT hQ)⟩
  ·cases h
 | block id b ih =>
  intro tm s x tm' s' h hZ
  unfold exec at h
  split at h
  ·rename_i k tm1 s1 h1
   obtain ⟨m1, k1⟩ := ih tm s _ tm1 s1 h1 hZ
   cases hk : Nat.beq k id with
   | true =>
    rw [hk, cond_true] at h
    simp only [Option.some.injEq, Prod.mk.injEq] at h
    obtain ⟨rfl, rfl, rfl⟩ := h
    rw [Nat.beq_eq] at hk
    subst hk
    exact ⟨m1, fun c D w a Q hB hH hG hf hT hQ => wp_block (k1 c D w a _ hB hH hG hf hT fun a' w' hb => by
     show (if k = k then Q .normal a' w' else _)
     rw [if_pos rfl]; exact hQ a' w' hb)⟩
   | false =>
    rw [hk, cond_false] at h
    simp only [Option.some.injEq, Prod.mk.injEq] at h
    obtain ⟨rfl, rfl, rfl⟩ := h
    have hne : k ≠ id := fun e => by rw [e, zBp rfl] at hk; cases hk
    exact ⟨m1, fun c D w a Q hB hH hG hf hT hQ => wp_block (k1 c D w a _ hB hH hG hf hT fun a' w' hb => by
     show (if k = id then _ else Q (.exit k) a' w')
     rw [if_neg hne]; exact hQ a' w' hb)⟩
  ·rename_i r hr
   obtain ⟨m1, k1⟩ := ih tm s x tm' s' h hZ
   refine ⟨m1, fun c D w a Q hB hH hG hf hT hQ => wp_block (k1 c D w a _ hB hH hG hf hT fun a' w' hb => ?_)⟩
   have := hQ a' w' hb
   cases x with
   | normal => exact this
   | exit k => exact absurd h (hr _ _ _)
   | ret => exact this
 | loop body ih =>
  intro tm s x tm' s' h hZ
  unfold exec at h
  -- rounds
  have key : ∀ (n : Nat) (tm : List Value) (s : St), iter (fun tm s => exec E call body tm s) n tm s = some (x, tm', s') -> zId P < s.next ->
    Mo s s' ∧ ∀ (c : Ctx) (D : Nat -> Prop) (w : World) (a : Act) (Q : Exit -> Act -> World -> Prop), Bd s -> HR Φ P c D s.heap w -> Glob (zId P) c D -> (∀ o, s.next <= o -> o < s'.next -> ¬D o) -> LR (zId P) c D tm a.tmps.toList ->
     (∀ a' w', Behind Φ P c D w s s' tm' a a' w' -> Q x.toExit a' w') -> ∀ b k cs, ∃ e a' w', Q e a' w' ∧ Arrives P (lone (b.at a (.code body :: .inLoop body :: k)) cs w) b k cs e a' w' := by
   intro n
   induction n with
   | zero => intro tm s h; cases h
   | succ n ihn =>
    intro tm s h hZ
    unfold iter at h
    split at h
    ·rename_i tm1 s1 h1
     obtain ⟨m1, k1⟩ := ih tm s _ tm1 s1 h1 hZ
     obtain ⟨m2, k2⟩ := ihn tm1 s1 h (by have := m1.1; omega)
     refine ⟨m1.trans m2, fun c D w a Q hB hH hG hf hT hQ b k cs => ?_⟩
     obtain ⟨f1, f2⟩ := zF0 hf m1.1 m2.1
     obtain ⟨e, a1, w1, ⟨rfl, hb⟩, harr⟩ := k1 c D w a (fun e a' w' => e = .normal ∧ Behind Φ P c D w s s1 tm1 a a' w') hB hH hG f1 hT (fun a' w' hb => ⟨rfl, hb⟩) b (.inLoop body :: k) cs
     obtain ⟨c1, st1, l1, d1⟩ := hb
     obtain ⟨e2, a2, w2, hq2, harr2⟩ := k2 c1 (Dm D s.next s1.next) w1 a1 Q (m1.2.2 hB).1 st1.hr (hG.step st1 hZ) f2 l1 (fun a2 w2 hb2 => hQ a2 w2 (.trans hH hf st1 d1 m2.2.1 hb2)) b k cs
     exact ⟨e2, a2, w2, hq2, .of_steps (Steps.trans harr (.one step_inLoop)) harr2⟩
    ·rename_i r hr
     obtain ⟨m1, k1⟩ := ih tm s x tm' s' h hZ
     refine ⟨m1, fun c D w a Q hB hH hG hf hT hQ b k cs => ?_⟩
     obtain ⟨e, a1, w1, ⟨rfl, hq⟩, harr⟩ := k1 c D w a (fun e a' w' => e = x.toExit ∧ Q x.toExit a' w') hB hH hG hf hT (fun a' w' hb => ⟨rfl, hQ a' w' hb⟩) b (.inLoop body :: k) cs
     cases x with
     | normal => exact absurd h (hr _ _)
     | exit id => exact ⟨_, a1, w1, hq, .pass (x := .inLoop body) rfl (fun _ _ => .inl (by simp [AExit.toExit])) harr⟩
     | ret => exact ⟨_, a1, w1, hq, .pass (x := .inLoop body) rfl (fun _ _ => .inl (by simp [AExit.toExit])) harr⟩
  obtain ⟨m1, k1⟩ := key rounds tm s h hZ
  refine ⟨m1, fun c D w a Q hB hH hG hf hT hQ b k cs => ?_⟩
  obtain ⟨e, a', w', hq, harr⟩ := k1 c D w a Q hB hH hG hf hT hQ b k cs
  exact ⟨e, a', w', hq, .of_steps (.one step_loop) harr⟩
 | exit id =>
  intro tm s x tm' s' h hZ
  simp only [exec, Option.some.injEq, Prod.mk.injEq] at h
  obtain ⟨rfl, rfl, rfl⟩ := h
  exact ⟨.refl _, fun c D w a Q hB hH hG hf hT hQ => wp_exit (hQ a w (.refl hH hT))⟩
 | ret =>
  intro tm s x tm' s' h hZ
  simp only [exec, Option.some.injEq, Prod.mk.injEq] at h
  obtain ⟨rfl, rfl, rfl⟩ := h
  exact ⟨.refl _, fun c D w a Q hB hH hG hf hT hQ => wp_ret (hQ a w (.refl hH hT))⟩
 | _ => intro tm s x tm' s' h; cases h
end
section
variable {Φ : Fx} {P : Program} {E : Env}
def resF (tmps : Array Value) : ResultVar -> Sem Value
 | .tmp t => pure (tmps.getD t undef)
 | .cell a t => do loadVar t (<- asAddr (tmps.getD a undef))
theorem zPh {c : Ctx} {D : Nat -> Prop} {Z : Nat} {tm : List Value} {tmps : Array Value} (h : LR Z c D tm tmps.toList) (t : Nat) : VR Z c D (match nth tm t with | some v => v | none => undef) (tmps.getD t undef) := by
 rw [zB4]
 cases ht : tm[t]? with
 | none =>
  have : tmps.toList[t]? = none := by rw [List.getElem?_eq_none]; rw [<- h.1]; exact List.getElem?_eq_none_iff.1 ht
  have : tmps.getD t undef = undef := by
   rw [Qb] at this
   simp [this]
  rw [this]; exact .undef
 | some v =>
  obtain ⟨v', h1, h2⟩ := h.at ht
  have : tmps.getD t undef = v' := by
   rw [Qb] at h1
   simp [h1]
  rw [this]; exact h2
theorem zC1 {c : Ctx} {D : Nat -> Prop} {w : World} {s : St} (h : HR Φ P c D s.heap w) {tm : List Value} {tmps : Array Value} (hT : LR (zId P) c D tm tmps.toList) :
  ∀ (rs : List ResultVar) (l : List Value), resultsOf P tm s rs = some l -> ∃ l', LR (zId P) c D l l' ∧
   (rs.mapM (resF tmps)).run P w = .ok l' w
 | [], l, hr => by
  simp only [resultsOf, Option.some.injEq] at hr
  subst hr
  exact ⟨[], .nil, rfl⟩
 | .tmp t :: rs, l, hr => by
  unfold resultsOf at hr
  split at hr
  ·rename_i l1 h1
   simp only [Option.some.injEq] at hr
   subst hr
   obtain ⟨l', k1, k2⟩ := zC1 h hT rs l1 h1
   refine ⟨_ :: l', .cons (zPh hT t) k1, ?_⟩
   have hx : (resF tmps (.tmp t)).run P w = .ok (tmps.getD t undef) w := rfl
   rw [Qw]
   simp only [Sem.run_bind, hx, Sem.run_pure, Result.andThen_ok, k2]
  ·cases hr
 | .cell a t :: rs, l, hr => by
  unfold resultsOf at hr
  split at hr
  ·rename_i ad sz l1 ha hag hsz h1
   split at hr
   ·rename_i cs hcs
    simp only [Option.some.injEq] at hr
    subst hr
    obtain ⟨l', k1, k2⟩ := zC1 h hT rs l1 h1
    rw [zB4] at ha
    obtain ⟨v', q1, q2⟩ := hT.at ha
    obtain ⟨o, off, rfl, e3, hd⟩ := zCu q2
    have e4 : tmps.getD a undef = .pointer (some ⟨c.ρ o, off, none⟩) := by
     rw [Qb] at q1; rw [Qc, q1, e3]; rfl
    obtain ⟨l2, r1, r2, r3, r4⟩ := zBi h hcs
    refine ⟨_ :: l', .cons (VR.agg_of r1) k1, ?_⟩
    have hx : (resF tmps (.cell a t)).run P w = .ok (.agg l2.toArray) w := by
     simp only [resF, Sem.run_bind, e4, asAddr, Sem.run_pure, Result.andThen_ok, loadVar, zCs hag, if_true, zAx hsz]
     rw [zC9 (by rw [<- r1.1, r2]) r3]
     rfl
    rw [Qw]
    simp only [Sem.run_bind, hx, Sem.run_pure, Result.andThen_ok, k2]
   ·cases hr
  ·rename_i ad sz l1 ha hag hsz h1
   split at hr
   ·rename_i u hcs
    simp only [Option.some.injEq] at hr
    subst hr
    obtain ⟨l', k1, k2⟩ := zC1 h hT rs l1 h1
    rw [zB4] at ha
    obtain ⟨v', q1, q2⟩ := hT.at ha
    obtain ⟨o, off, rfl, e3, hd⟩ := zCu q2
    have e4 : tmps.getD a undef = .pointer (some ⟨c.ρ o, off, none⟩) := by
     rw [Qb] at q1; rw [Qc, q1, e3]; rfl
    obtain ⟨l2, r1, r2, r3, r4⟩ := zBi h hcs
    obtain ⟨u', p1, p2⟩ := r1.at (i := 0) rfl
    have := r3 0 u' p1
    rw [Qm] at this
    refine ⟨u' :: l', .cons p2 k1, ?_⟩
    have hx : (resF tmps (.cell a t)).run P w = .ok u' w := by
     simp only [resF, Sem.run_bind, e4, asAddr, Sem.run_pure, Result.andThen_ok, loadVar, zCs hag, Je, if_false, run_load, this]
    rw [Qw]
    simp only [Sem.run_bind, hx, Sem.run_pure, Result.andThen_ok, k2]
   ·cases hr
  ·cases hr
theorem zPi {c : Ctx} {D : Nat -> Prop} {l l' : List Value} (h : LR (zId P) c D l l') : VR (zId P) c D (one l) (if h : l'.toArray.size = 1 then l'.toArray[0] else .tuple l'.toArray) := by
 unfold one
 split
 ·rename_i v
  obtain ⟨v', r', rfl, h1, h2⟩ := h.inv_cons
  rw [h2.inv_nil]
  exact h1
 ·rename_i l2 hn
  rw [dif_neg]
  ·exact VR.tuple_of h
  ·intro hs
   rw [Ji, <- h.1] at hs
   obtain ⟨x, hx⟩ := List.length_eq_one_iff.1 hs
   exact hn x hx
theorem zKg {c : Ctx} {D : Nat -> Prop} {w : World} {s : St} (h : HR Φ P c D s.heap w) {tm : List Value} {tmps : Array Value} (hT : LR (zId P) c D tm tmps.toList) {fn : Func} {l : List Value}
  (hl : resultsOf P tm s fn.results.toList = some l) : ∃ v', VR (zId P) c D (one l) v' ∧ (results fn tmps).run P w = .ok v' w := by
 obtain ⟨l', k1, k2⟩ := zC1 h hT _ _ hl
 refine ⟨_, zPi k1, ?_⟩
 have e : results fn tmps = (do
   let vs <- fn.results.mapM (resF tmps)
   pure (if h : vs.size = 1 then vs[0] else .tuple vs)) := rfl
 rw [e, Array.mapM_eq_mapM_toList]
 simp only [Sem.run_bind, Sem.run_map, k2, Result.andThen_ok, Sem.run_pure]
theorem LR.undefs {c : Ctx} {D : Nat -> Prop} {Z : Nat} : ∀ n, LR Z c D (Canon.undefs n) (List.replicate n undef)
 | 0 => .nil
 | n + 1 => .cons .undef (LR.undefs n)
theorem zBt {n0 : Nat} {h : T AObj} (hb : ∀ o, h.get o ≠ none -> o < 4000000) : ∀ (f : Nat) (vs : List Value) (acc : T AObj) (o : Nat),
  (reach n0 h f vs acc).get o = acc.get o ∨ (n0 <= o ∧ (reach n0 h f vs acc).get o = h.get o)
 | 0, vs, acc, o => .inl (by unfold reach; rfl)
 | f + 1, [], acc, o => .inl (by unfold reach; rfl)
 | f + 1, v :: vs, acc, o => by
  have block : ∀ (b : Nat) (vs : List Value),
    (bif Qh b n0 then reach n0 h f vs acc
     else match acc.get b with
      | some _ => reach n0 h f vs acc
      | none => match h.get b with
       | none => reach n0 h f vs acc
       | some ob => reach n0 h f (bif allL ground0 ob.cells then vs else app ob.cells vs) (T.set (some ob) deep acc b)).get o = acc.get o ∨
    (n0 <= o ∧ (bif Qh b n0 then reach n0 h f vs acc
     else match acc.get b with
      | some _ => reach n0 h f vs acc
      | none => match h.get b with
       | none => reach n0 h f vs acc
       | some ob => reach n0 h f (bif allL ground0 ob.cells then vs else app ob.cells vs) (T.set (some ob) deep acc b)).get o = h.get o) := by
   intro b vs
   cases hlt : Qh b n0 with
   | true => exact zBt hb f vs acc o
   | false =>
    rw [cond_false]
    have hge : n0 <= b := by
     rw [nblt] at hlt; simpa using hlt
    split
    ·exact zBt hb f vs acc o
    ·split
     ·exact zBt hb f vs acc o
     ·rename_i ob hob
      have hbb := hb b (by rw [hob]; simp)
      rcases zBt hb f (bif allL ground0 ob.cells then vs else app ob.cells vs) (T.set (some ob) deep acc b) o with h1 | h1
      ·rw [h1, zBx _ _ _ _ _ (by unfold deep; omega)]
       by_cases hob2 : o = b
       ·rw [if_pos hob2]; exact .inr ⟨by omega, by rw [hob2, hob]⟩
       ·rw [if_neg hob2]; exact .inl rfl
      ·exact .inr h1
  unfold reach
  split
  ·exact block _ _
  ·exact block _ _
  ·exact zBt hb f _ acc o
  ·exact zBt hb f _ acc o
  ·exact zBt hb f _ acc o
  ·exact zBt hb f _ acc o
  ·exact zBt hb f _ acc o
theorem Step.quiet {c c' : Ctx} {D : Nat -> Prop} {s s' : St} {w w' : World} (h : Step Φ P c c' D s.heap s'.heap s.next s'.next s'.mw w w') (hB : Bd s) (hr : s.next <= s'.mw) {H : T AObj} (m : Nat)
  (h1 : ∀ o obj, H.get o = some obj -> s'.heap.get o = some obj) (h2 : ∀ o, o < s.next -> H.get o = s.heap.get o) : Step Φ P c c' D s.heap H s.next s'.next m w w' := by
 have hno : ¬∃ p, s'.mw <= p ∧ s.heap.get p ≠ none := fun ⟨p, h3, h4⟩ => by have := hB.2 p h4; omega
 have hn : ∀ o, H.get o ≠ none -> s'.heap.get o ≠ none := fun o ho => by
  obtain ⟨obj, hob⟩ := Qi.1 ho
  rw [h1 o obj hob]; simp
 refine ⟨h.le, h.agree, h.low, h.hr.sub h1, h.os, h.tape, h.output, h.size, fun b hb _ => h.far b hb fun ⟨p, h3, h4, _⟩ => hno ⟨p, h3, h4⟩, fun o ho => ?_, fun o _ hl => h2 o (hB.2 o hl)⟩
 rcases h.live o (hn o ho) with h3 | ⟨h3, h4, h5 | ⟨p, h6, h7, _⟩⟩
 ·exact .inl h3
 ·exact .inr ⟨h3, h4, .inl h5⟩
 ·exact absurd ⟨p, h6, h7⟩ hno
theorem zF7 {c : Ctx} {D : Nat -> Prop} {w : World} {H : T AObj} (h : HR Φ P c D H w) {v v' : Value} (hv : VR (zId P) c D v v') {r : List UInt8} (hr : byteList H v = some r) :
  (Extern.Bytes.bytesOf v').run P w = .ok ⟨r.toArray⟩ w := by
 unfold byteList at hr
 split at hr
 ·simp only [Option.some.injEq] at hr
  subst hr
  rw [zBv hv]
  rfl
 ·simp only [Option.some.injEq] at hr
  subst hr
  cases hv; rfl
 ·rename_i a n cap
  rcases zD0 hr with ⟨h1, h2⟩ | ⟨_, h2⟩
  ·rw [Nat.beq_eq] at h1
   subst h1
   simp only [Option.some.injEq] at h2
   subst h2
   cases hv <;> rfl
  ·split at h2
   ·rename_i l hl
    obtain ⟨ns, k1, k2⟩ := zFh l r h2
    obtain ⟨o, off, sp⟩ := a
    have hlive : H.get o ≠ none := by
     unfold cellsAt at hl
     split at hl
     ·rename_i obj ho; dsimp only at ho; rw [ho]; simp
     ·cases hl
    cases hv with
    | sl o off l2 cp hd hz2 =>
     obtain ⟨l', r1, r2, r3, r4⟩ := zBi h hl
     have g : allL Canon.ground0 l = true := by
      rw [k1, zA8]; intro y hy
      obtain ⟨z, _, rfl⟩ := List.mem_map.1 hy
      rfl
     have e : l' = l := r1.ground0 g
     have hn : ns.length = n := by rw [<- r2, k1]; simp
     have := Lib.run_loadBytesX (P := P) (w := w) ns ⟨c.ρ o, off, none⟩ .empty (fun j x hj => by
      rw [addr_add]
      refine r3 j _ ?_
      rw [e, k1, List.getElem?_map, hj]; rfl)
     rw [hn] at this
     refine this.trans ?_
     rw [k2]
     simp [Lib.bytesOf, UInt8.ofNat]
    | z0 a2 => exact absurd rfl (h.dom _ hlive).2.1
    | z1 a2 cp => exact absurd rfl (h.dom _ hlive).2.1
   ·cases h2
 ·cases hr
theorem zNg {f : FuncId} {fn : Func} (hfn : P.funcs[f]? = some fn) (hb : fn.body = none) (hname : (fn.name == "runtime.NumGoroutine") = false) (ho : fn.origin = "") {args : List Value} {s : St} {v : Value}
  (h : ext fn.name args s = some v) : ∃ fn row, P.funcs[f]? = some fn ∧ fn.body.isNone = true ∧ (fn.name == "runtime.NumGoroutine") = false ∧ Extern.findNext fn = none ∧ Extern.find fn = some row ∧
  ∀ c D w args', HR Φ P c D s.heap w -> LR (zId P) c D args args' -> ∃ v', VR (zId P) c D v v' ∧ (row args'.toArray).run P w = .ok v' w := by
 unfold ext at h
 rcases zD0 h with ⟨h1, h⟩ | ⟨_, h⟩
 ·have hn : fn.name = "math/bits.Add64" := by simpa using h1
  split at h
  ·rename_i x y k hold
   obtain ⟨g1, g2⟩ := zAk h
   simp only [Option.some.injEq] at g2
   subst g2
   rw [Nat.ble_eq] at g1
   refine ⟨fn, (Extern.MathBitsCarry.rows[0]'(by decide)).2, hfn, by rw [hb]; rfl, hname, ?_, ?_, fun c D w args' hH hA => ?_⟩
   ·unfold Extern.findNext; rw [hn, ho]; rfl
   ·unfold Extern.find; rw [hn]; rfl
   ·obtain ⟨v1, r1, rfl, a1, a2⟩ := hA.inv_cons
    obtain ⟨v2, r2, rfl, a3, a4⟩ := a2.inv_cons
    obtain ⟨v3, r3, rfl, a5, a6⟩ := a4.inv_cons
    rw [zAt a1, zAt a3, zAt a5, a6.inv_nil]
    refine ⟨_, .tuple_of (LR.cons (.int _ _) (LR.cons (.int _ _) LR.nil)), ?_⟩
    have h3 : (Extern.MathBitsCarry.three "Add64" #[.int .u64 (.ofNat x), .int .u64 (.ofNat y), .int .u64 (.ofNat k)]).run P w = .ok (x, y, k) w := by
     have : k = 0 ∨ k = 1 := by omega
     rcases this with rfl | rfl <;> rfl
    show (Extern.MathBitsCarry.three "Add64" _ >>= _).run P w = _
    rw [Sem.run_bind, h3, Result.andThen_ok]
    rfl
  ·cases h
 ·rcases zD0 h with ⟨h1, h⟩ | ⟨_, h⟩
  ·have hn : fn.name = "internal/bytealg.Compare" := by simpa using h1
   split at h
   ·rename_i a b
    split at h
    ·rename_i x y hx hy
     simp only [Option.some.injEq] at h
     subst h
     refine ⟨fn, Extern.BytealgCompare.compare, hfn, by rw [hb]; rfl, hname, ?_, ?_, fun c D w args' hH hA => ?_⟩
     ·unfold Extern.findNext; rw [hn, ho]; rfl
     ·unfold Extern.find; rw [hn]; rfl
     ·obtain ⟨v1, r1, rfl, a1, a2⟩ := hA.inv_cons
      obtain ⟨v2, r2, rfl, a3, a4⟩ := a2.inv_cons
      rw [a4.inv_nil]
      refine ⟨_, .int _ _, ?_⟩
      show (do pure (goInt (Extern.BytealgCompare.cmp (<- Extern.Bytes.bytesOf v1) (<- Extern.Bytes.bytesOf v2))) : Sem Value).run P w = _
      simp only [Sem.run_bind, zF7 hH a1 hx, zF7 hH a3 hy, Result.andThen_ok, Sem.run_pure]
      rw [Lib.cmp_eq]
      rfl
    ·cases h
   ·cases h
  ·cases h
theorem Step.of_named {c : Ctx} {D : Nat -> Prop} {H : T AObj} {n n' m : Nat} {w w' : World} {nl : Nat -> List Value} {fz : Nat -> Option Obj} (h : HR Φ P c D H w) (hle : n <= n') (hf : ∀ o, n <= o -> o < n' -> ¬D o) (hb : Below w.heap.size w w') (hn : Named Φ c n n' nl fz w w') :
  Step Φ P c ⟨c.ρ, c.x, nl, fz⟩ D H H n n' m w w' where
 le := hle
 agree := fun o ho => ⟨rfl, rfl, hn.old o ho⟩
 low := hn.low
 hr := by
  refine ⟨fun o ho => ⟨.inl (h.dom o ho).1, (h.dom o ho).2⟩, fun o obj ho => ?_, h.inj, h.belOf hb.os hb.tape hb.output hb.size (fun b hb' => hb.block b (Qk hb' h.bel.size)), h.up, h.nm, hn.at_, fun o ho => ?_, fun o ho => ?_⟩
  ·have hr := h.rows o obj ho
   obtain ⟨cs, fr, k1, k2, k3, k4⟩ := hr.row
   refine ⟨hr.ex, cs, fr, by rw [hb.block _ hr.lt]; exact k1, k2, k3, ?_⟩
   exact k4.mono (fun o ho => ⟨rfl, rfl, hn.old o fun ⟨a, b⟩ => hf o a b ho⟩) fun o ho => .inl ho
  ·exact (hn.low _ (h.lt ho)).trans (h.fr o ho)
  ·by_cases ho2 : n <= o ∧ o < n'
   ·exact hn.kn o ho2.1 ho2.2 ho
   ·dsimp only at ho ⊢
    rw [hn.old o ho2] at ho ⊢
    exact Φ.mono o _ _ _ hn.more (h.kn o ho)
 os := hb.os
 tape := hb.tape
 output := hb.output
 size := hb.size
 far := fun b hlt _ => hb.block b hlt
 live := fun o ho => .inl ho
 same := fun _ _ _ => rfl
theorem Step.of_below {c : Ctx} {D : Nat -> Prop} {H : T AObj} {n m : Nat} {w w' : World} (h : HR Φ P c D H w) (hb : Below w.heap.size w w') : Step Φ P c c D H H n n m w w' :=
 Step.of_named (nl := c.nv) (fz := c.fz) h (Qe _) (fun o h1 h2 => by omega) hb ⟨fun _ _ => rfl, fun _ _ hx => hx, fun b x hx => (hb.block b (Qt.1 (h.fz b x hx)).1).trans (h.fz b x hx), fun _ _ => rfl, fun o h1 h2 => by omega⟩
theorem zGv (hE : E.P = P) (hEo : EnvOK Φ E) : ∀ d, CallOK Φ P (callN E d)
 | 0 => fun f args s v s' h => by cases h
 | d + 1 => by
  intro f args s v s' h hZ
  unfold callN at h
  split at h
  ·cases h
  ·rename_i fn hfn
   have hfn' := hEo.fn f fn hfn
   rw [hE] at hfn'
   split at h
   ·rename_i hbody
    obtain ⟨ho, h⟩ := zAk h
    split at h
    ·rename_i v1 hx
     simp only [Option.some.injEq, Prod.mk.injEq] at h
     obtain ⟨rfl, rfl⟩ := h
     exact ⟨.refl _, .inr ⟨rfl, zNg hfn' hbody (hEo.name f fn hfn) (by simpa using ho) hx⟩⟩
    ·cases h
   ·rename_i code hbody
    rcases zD0 h with ⟨hk, h⟩ | ⟨_, h⟩
    ·simp only [Option.some.injEq, Prod.mk.injEq] at h
     obtain ⟨rfl, rfl⟩ := h
     have hk1 : E.known f = true := by
      cases hkf : E.known f with
      | true => rfl
      | false => rw [hkf] at hk; cases hk
     have hk2 : noArg args = true := by rw [hk1] at hk; exact hk
     refine ⟨.refl _, .inl ⟨⟨fn, hfn', by rw [hbody]; rfl, hEo.name f fn hfn⟩, fun c D w args' hB hH hG hf hA => ?_⟩⟩
     have ha : args = [] := by cases args with
      | nil => rfl
      | cons _ _ => cases hk2
     subst ha
     rw [hA.inv_nil]
     have := hEo.known f hk1 w
     rw [hE] at this
     exact this.mono fun e w' hp => ⟨c, .bool true, hp.1, Step.of_below hH hp.2, .bool true⟩
    cases hor : E.orc f args s with
    | some u =>
     rw [hor] at h
     simp only [Option.some.injEq] at h
     subst h
     obtain ⟨o1, o2, o3, o4, o5⟩ := hEo.orc f args _ _ _ hor
     refine ⟨⟨o3, by rw [o2]; exact Qe _, fun hB => ⟨⟨o4 hB.1, fun o ho => ?_⟩, fun o _ _ => by rw [o1]⟩⟩, .inl ⟨⟨fn, hfn', by rw [hbody]; rfl, hEo.name f fn hfn⟩, fun c D w args' hB hH hG hf hA => ?_⟩⟩
     ·rw [o1] at ho; have := hB.2 o ho; omega
     have := o5 c D w args' (by rw [hE]; exact hH) hf (by rw [hE]; exact hA)
     rw [hE] at this
     exact this.mono fun e w' ⟨nl, fz, v', h1, h2, h3, h4⟩ => ⟨_, v', h1, by rw [o1, o2]; exact Step.of_named hH o3 hf h2 h3, h4⟩
    | none =>
    rw [hor] at h
    simp only at h
    split at h
    ·rename_i x tm' s1 hex
     obtain ⟨m1, k1⟩ := zL4 hE (zGv hE hEo d) (by rw [<- hE]; exact hEo.mixed) code _ _ x tm' s1 hex hZ
     have hnx : ∀ id, x ≠ .exit id := by
      rintro id rfl
      cases h
     have h' : (match resultsOf E.P tm' s1 fn.results.toList with
      | some l =>
       let v := one l
       bif Nat.ble s.next s1.mw then
        (bif ground2 v then some (v, { next := s1.next, mw := s.mw, heap := s.heap })
        else some (v, { next := s1.next, mw := s.mw, heap := reach s.next s1.heap 1000000 [v] s.heap }))
       else some (v, { next := s1.next, mw := Nat.min s.mw s1.mw, heap := s1.heap })
      | none => none : Option (Value × St)) = some (v, s') := by
      cases x with
      | exit id => exact absurd rfl (hnx id)
      | normal => exact h
      | ret => exact h
     clear h
     split at h'
     ·rename_i l hl
      rw [hE] at hl
      -- what is left of memory
      have hfinal : v = one l ∧ Mo s s' ∧ s'.next = s1.next ∧ ∀ c c' D w w', Bd s -> Step Φ P c c' D s.heap s1.heap s.next s1.next s1.mw w w' -> Step Φ P c c' D s.heap s'.heap s.next s'.next s'.mw w w' := by
       simp only at h'
       cases hr : Nat.ble s.next s1.mw with
       | true =>
        rw [hr, cond_true] at h'
        rw [Nat.ble_eq] at hr
        have quiet : ∀ H : T AObj, (Bd s -> (∀ o obj, H.get o = some obj -> s1.heap.get o = some obj) ∧ ∀ o, o < s.next -> H.get o = s.heap.get o) ->
          Mo s ⟨s1.next, s.mw, H⟩ ∧ ∀ c c' D w w', Bd s -> Step Φ P c c' D s.heap s1.heap s.next s1.next s1.mw w w' -> Step Φ P c c' D s.heap H s.next s1.next s.mw w w' := by
         intro H hH
         refine ⟨⟨m1.1, Qe _, fun hB => ?_⟩, fun c c' D w w' hB hst => ?_⟩
         ·obtain ⟨q1, q2⟩ := hH hB
          have b1 := (m1.2.2 hB).1
          refine ⟨⟨b1.1, fun o ho => ?_⟩, fun o _ h2 => q2 o h2⟩
          obtain ⟨obj, hob⟩ := Qi.1 ho
          exact b1.2 o (by rw [q1 o obj hob]; simp)
         ·obtain ⟨q1, q2⟩ := hH hB
          exact Step.quiet (s := s) (s' := s1) hst hB hr s.mw q1 q2
        cases hg : ground2 (one l) with
        | true =>
         rw [hg, cond_true] at h'
         simp only [Option.some.injEq, Prod.mk.injEq] at h'
         obtain ⟨rfl, rfl⟩ := h'
         obtain ⟨q1, q2⟩ := quiet s.heap fun hB => ⟨fun o obj ho => by
          have hlt := hB.2 o (by rw [ho]; simp)
          rw [(m1.2.2 hB).2 o (by omega) hlt]; exact ho, fun _ _ => rfl⟩
         exact ⟨rfl, q1, rfl, q2⟩
        | false =>
         rw [hg, cond_false] at h'
         simp only [Option.some.injEq, Prod.mk.injEq] at h'
         obtain ⟨rfl, rfl⟩ := h'
         obtain ⟨q1, q2⟩ := quiet (reach s.next s1.heap 1000000 [one l] s.heap) fun hB => by
          have b1 := (m1.2.2 hB).1
          have hrg := zBt (n0 := s.next) (h := s1.heap) (fun o ho => by have := b1.2 o ho; have := b1.1; omega) 1000000 [one l] s.heap
          refine ⟨fun o obj ho => ?_, fun o ho => ?_⟩
          ·rcases hrg o with h1 | ⟨_, h1⟩
           ·rw [h1] at ho
            have hlt := hB.2 o (by rw [ho]; simp)
            rw [(m1.2.2 hB).2 o (by omega) hlt]; exact ho
           ·rw [<- h1]; exact ho
          ·rcases hrg o with h1 | ⟨h2, _⟩
           ·exact h1
           ·omega
         exact ⟨rfl, q1, rfl, q2⟩
       | false =>
        rw [hr, cond_false] at h'
        simp only [Option.some.injEq, Prod.mk.injEq] at h'
        obtain ⟨rfl, rfl⟩ := h'
        refine ⟨rfl, ⟨m1.1, Qu _ _, fun hB => ?_⟩, rfl, fun c c' D w w' hB hst => hst.weaken (Jj _ _)⟩
        obtain ⟨b1, b2⟩ := m1.2.2 hB
        exact ⟨b1, fun o h1 h2 => b2 o (Qk h1 (Jj _ _)) h2⟩
      obtain ⟨rfl, hmo, hnext, hstep⟩ := hfinal
      refine ⟨hmo, .inl ⟨⟨fn, hfn', by rw [hbody]; rfl, hEo.name f fn hfn⟩, fun c D w args' hB hH hG hf hA => ?_⟩⟩
      refine calls_of_wp hfn' hbody ?_
      have hT : LR (zId P) c D (app args (undefs (fn.ntmps - lenN args 0))) (args'.toArray ++ Qv (fn.ntmps - args'.toArray.size) undef).toList := by
       rw [zBq, zBu, Qm, Array.toList_append, Array.toList_replicate, Ji, <- hA.1]
       exact hA.append (LR.undefs _)
      refine k1 c D w _ _ hB hH hG (by rw [<- hnext]; exact hf) hT fun a' w' hb => ?_
      obtain ⟨c', st, l1, d1⟩ := hb
      obtain ⟨v', p1, p2⟩ := zKg st.hr l1 hl
      have hpost : a'.defers = [] ∧ ∃ v, (results fn a'.tmps).run P w' = .ok v w' ∧ ∃ c' v', Ending.returned v = .returned v' ∧ Step Φ P c c' D s.heap s'.heap s.next s'.next s'.mw w w' ∧ VR (zId P) c' (Dm D s.next s'.next) (one l) v' :=
       ⟨d1, v', p2, c', v', rfl, hstep c c' D w w' hB st, by rw [hnext]; exact p1⟩
      cases x with
      | exit id => exact absurd rfl (hnx id)
      | normal => exact hpost
      | ret => exact hpost
     ·cases h'
    ·cases h
end
section
variable {Φ : Fx} {P : Program} {E : Env}
def hasBody (P : Program) (f : FuncId) : Bool := match P.funcs[f]? with | some fn => fn.body.isSome | none => false
theorem zF8 (hE : E.P = P) (hEo : ∀ Φ, EnvOK Φ E) (hz : base P < 4000000) {d : Nat} {f : FuncId} (hbody : hasBody P f = true) {args args' : List Value} {v : Value} {s' : St}
  (h : callN E d f args ⟨base P, base P, .leaf⟩ = some (v, s')) (ha : ∀ c, LR (zId P) c (fun o => o < zId P) args args') (hv : ground2 v = true) (w : World) :
  Calls P f args'.toArray w fun e w' => e = .returned v ∧ Below w.heap.size w w' := by
 have hZ : zId P < base P := by unfold zId base; omega
 obtain ⟨m1, ⟨_, k1⟩ | ⟨_, fn, row, h6, h7, _⟩⟩ := zGv (Φ := ⟨w, fun _ => 0, fun _ _ _ => True, fun _ _ _ _ _ _ => trivial⟩) hE (hEo _) d f args _ v s' h hZ
 rotate_left
 ·exfalso
  unfold hasBody at hbody
  rw [h6] at hbody
  simp only at hbody
  cases hf : fn.body with
  | none => rw [hf] at hbody; cases hbody
  | some _ => rw [hf] at h7; cases h7
 let c : Ctx := ⟨fun o => o, fun _ => 0, fun _ => [], fun _ => none⟩
 let D : Nat -> Prop := fun o => o < zId P
 have hH : HR ⟨w, fun _ => 0, fun _ _ _ => True, fun _ _ _ _ _ _ => trivial⟩ P c D (T.leaf : T AObj) w := ⟨fun o ho => absurd (zB7 o) ho, fun o obj ho => (by rw [zB7] at ho; cases ho), fun o o' ho => absurd (zB7 o) ho, Below.refl _ _, fun o ho => absurd (zB7 o) ho, fun _ _ => rfl, fun b x hx => (by cases hx), fun o ho => absurd (zB7 o) ho, fun o ho => trivial⟩
 have hB : Bd ⟨base P, base P, .leaf⟩ := ⟨by dsimp only; omega, fun o ho => absurd (zB7 o) ho⟩
 refine (k1 c D w args' hB hH (fun g hg => ⟨hg, rfl⟩) (fun o h1 _ h2 => by dsimp only at h1; have h2' : o < zId P := h2; omega) (ha c)).mono fun e w' hp => ?_
 obtain ⟨c', v', rfl, st, hvv⟩ := hp
 refine ⟨by rw [hvv.ground2 hv], ⟨st.os, st.tape, st.output, st.size, fun b hb => st.far b hb fun ⟨o, _, h2, _⟩ => absurd (zB7 o) h2⟩⟩
def start (P : Program) : St := ⟨base P, base P, .leaf⟩
def isTrue : Option (Value × St) -> Bool
 | some (.bool b, _) => b
 | _ => false
theorem zEs {r : Option (Value × St)} (h : isTrue r = true) : ∃ s', r = some (.bool true, s') := by
 unfold isTrue at h
 split at h
 ·rename_i b s; exact ⟨s, by rw [h]⟩
 ·cases h
def envOf (P : Program) : Env := ⟨P, fun f => P.funcs[f]?, fun _ => false, fun _ _ _ => none⟩
def namesOK : List Func -> Bool
 | [] => true
 | f :: l => bif f.name == "runtime.NumGoroutine" then false else namesOK l
theorem zF9 : ∀ {l : List Func}, namesOK l = true -> ∀ f ∈ l, (f.name == "runtime.NumGoroutine") = false
 | f :: l, h, g, hg => by
  unfold namesOK at h
  cases hf : f.name == "runtime.NumGoroutine" with
  | true => rw [hf, cond_true] at h; cases h
  | false =>
   rw [hf, cond_false] at h
   rcases Jc.1 hg with rfl | hg
   ·exact hf
   ·exact zF9 h g hg
structure Fit (P : Program) : Prop where
 names : namesOK P.funcs.toList = true
 mixed : P.follows .mixedOrders = true
 small : Qh (base P) 4000000 = true
theorem Fit.env (h : Fit P) (Φ : Fx) : EnvOK Φ (envOf P) :=
 ⟨fun f fn hf => hf, fun f fn hf => zF9 h.names fn (Jg (by rw [Qb]; exact hf)), h.mixed, fun f hf => (by cases hf), fun f args s v s2 ho => (by cases ho)⟩
theorem Fit.plain (h : Fit P) {d : Nat} {f : FuncId} (hb : hasBody P f = true) (ht : isTrue (callN (envOf P) d f [] (start P)) = true) (w : World) :
  Calls P f #[] w fun e w' => e = .returned (.bool true) ∧ Below w.heap.size w w' := by
 obtain ⟨s', hs⟩ := zEs ht
 have hz : base P < 4000000 := by have := h.small; rwa [nblt, decide_eq_true_eq] at this
 exact zF8 (P := P) (E := envOf P) rfl h.env hz hb hs (fun c => LR.nil) rfl w
def RowOK (P : Program) (d : Nat) (f : FuncId) (l k : Nat) : Prop := isTrue (callN (envOf P) d f [.complex .f64 l k] (start P)) = true
theorem Fit.form (h : Fit P) {d : Nat} {f : FuncId} (hb : hasBody P f = true) (l : Nat) (hl : 0 < l) (ht : ∀ k, k < l -> RowOK P d f l k) (a : Int) (w : World) :
  Calls P f #[.int .i64 a] w fun e w' => e = .returned (.bool true) ∧ Below w.heap.size w w' := by
 have hk : a % 256 % (l : Int) = ((a % 256 % (l : Int)).toNat : Int) := by
  have : 0 <= a % 256 % (l : Int) := Int.emod_nonneg _ (by omega)
  omega
 have hlt : (a % 256 % (l : Int)).toNat < l := by
  have := Int.emod_lt_of_pos (a % 256) (b := (l : Int)) (by omega)
  omega
 obtain ⟨s', hs⟩ := zEs (ht _ hlt)
 have hz : base P < 4000000 := by have := h.small; rwa [nblt, decide_eq_true_eq] at this
 exact zF8 (P := P) (E := envOf P) rfl h.env hz hb hs (fun c => LR.cons (.symA l _ a hk) LR.nil) rfl w
theorem Fit.args (h : Fit P) {d : Nat} {f : FuncId} (hb : hasBody P f = true) {args args' : List Value} (ha : ∀ c, LR (zId P) c (fun o => o < zId P) args args')
  (ht : isTrue (callN (envOf P) d f args (Canon.start P)) = true) (w : World) : Calls P f args'.toArray w fun e w' => e = .returned (.bool true) ∧ Below w.heap.size w w' := by
 obtain ⟨s', hs⟩ := zEs ht
 have hz : base P < 4000000 := by have := h.small; rwa [nblt, decide_eq_true_eq] at this
 exact zF8 (P := P) (E := envOf P) rfl h.env hz hb hs ha rfl w
end
end Go.Proofs.Ytnfjdoeemnhkbaa.Canon
namespace Go.Proofs.Ytnfjdoeemnhkbaa
open Canon
theorem fit : Fit Try.prog := ⟨by kernel_rfl, by kernel_rfl, by kernel_rfl⟩
open Canon Go.RowKit
theorem zKh : isTrue (callN (envOf Try.prog) 60 13 [] (Canon.start Try.prog)) = true := by kernel_rfl
theorem zJy : hasBody Try.prog 13 = true := by kernel_rfl
theorem zKi (w : World) :
  Calls Try.prog 13 #[] w fun e w' => e = .returned (.bool true) ∧ Below w.heap.size w w' :=
 fit.plain zJy zKh w
end Go.Proofs.Ytnfjdoeemnhkbaa
