/-
  Predicates as trees; how they read; what they are of a row.
  Contracts of package pred's small ones: holds, verdict, other, evalCmp, evalNull.
  Contracts of pred's eval and evalList, by induction; pred.Eval.
  Contract of pred's eval, by induction; pred.Eval.
  What lies from a block on; contracts of bytes.Clone and fresh.Val.
  Predicates that lie from a block on; rows of eight cells, written one by one.
  Contracts of fresh's pred$1 and of its list at predicates, over such copies of what is in the list.
  Contract of fresh's list at predicates, with its pred$1.
  Contract of fresh's pred, by induction.
  Contract of fresh.Pred.
  Contracts of pred's All, Any, Not.
-/
import Derived.Test.YtnfjdoeemnhkbaaLsix
import Derived.Deep.RegionHeld3
import Derived.BigRegion
import Derived.Deep.DeepCutAuto
namespace Go.Proofs.Ytnfjdoeemnhkbaa
set_option linter.unusedVariables false
set_option linter.unusedSimpArgs false
open Go.RowKit

/-- A predicate: its kind, column, op, value, list. -/
inductive Pt where
  | mk (k c o : Int) (v : Vc) (l : List Pt)

/-- The cells of a predicate. -/
def cellsP (k c o : Int) (v : Vc) (s ls : Value) : List Value := [.int .i64 k, .int .i64 c, .int .i64 o, .bool v.u, .int .i64 v.k, .int .i64 v.n, s, ls]
def aggP (k c o : Int) (v : Vc) (s ls : Value) : Value := .agg #[.int .i64 k, .int .i64 c, .int .i64 o, .bool v.u, .int .i64 v.k, .int .i64 v.n, s, ls]

mutual
/-- These cells read as that predicate. -/
def RdT1 (w : World) : Pt → List Value → Prop
  | .mk k c o v l, cs => ∃ s ls css, cs = cellsP k c o v s ls ∧ OkV w (v, s) ∧ RdS w 8 ls css ∧ RdTs w l css
def RdTs (w : World) : List Pt → List (List Value) → Prop
  | [], [] => True
  | q :: r, cs :: t => RdT1 w q cs ∧ RdTs w r t
  | [], _ :: _ => False
  | _ :: _, [] => False
end

mutual
theorem RdT1.kept {w w' : World} (hb : Below w.heap.size w w') : ∀ (p : Pt) {cs : List Value}, RdT1 w p cs → RdT1 w' p cs
  | .mk k c o v l, cs, h => by
    unfold RdT1 at h ⊢
    obtain ⟨s, ls, css, h1, h2, h3, h4⟩ := h
    exact ⟨s, ls, css, h1, h2.kept hb, h3.kept hb, RdTs.kept hb l h4⟩
theorem RdTs.kept {w w' : World} (hb : Below w.heap.size w w') : ∀ (l : List Pt) {css : List (List Value)}, RdTs w l css → RdTs w' l css
  | [], [], _ => by unfold RdTs; trivial
  | q :: r, cs :: t, h => by
    unfold RdTs at h ⊢
    exact ⟨RdT1.kept hb q h.1, RdTs.kept hb r h.2⟩
  | [], _ :: _, h => by unfold RdTs at h; exact h.elim
  | _ :: _, [], h => by unfold RdTs at h; exact h.elim
end

theorem rdTs_len {w : World} : ∀ {l : List Pt} {css : List (List Value)}, RdTs w l css → css.length = l.length
  | [], [], _ => rfl
  | q :: r, cs :: t, h => by unfold RdTs at h; rw [List.length_cons, List.length_cons, rdTs_len h.2]
  | [], _ :: _, h => by unfold RdTs at h; exact h.elim
  | _ :: _, [], h => by unfold RdTs at h; exact h.elim
theorem rdTs_at {w : World} : ∀ {l : List Pt} {css : List (List Value)}, RdTs w l css → ∀ {k : Nat} {q : Pt}, l[k]? = some q → ∃ cs, css[k]? = some cs ∧ RdT1 w q cs
  | [], [], _, k, q, hk => by simp at hk
  | p :: r, cs :: t, h, 0, q, hk => by
    unfold RdTs at h
    simp only [List.getElem?_cons_zero, Option.some.injEq] at hk
    subst hk
    exact ⟨cs, rfl, h.1⟩
  | p :: r, cs :: t, h, k + 1, q, hk => by
    unfold RdTs at h
    rw [List.getElem?_cons_succ] at hk ⊢
    exact rdTs_at h.2 hk
  | [], _ :: _, h, _, _, _ => by unfold RdTs at h; exact h.elim
  | _ :: _, [], h, _, _, _ => by unfold RdTs at h; exact h.elim

mutual
def depT : Pt → Nat
  | .mk _ _ _ _ l => depL l + 1
def depL : List Pt → Nat
  | [] => 0
  | q :: r => max (depT q) (depL r)
end
mutual
/-- How many there are below, and bytes. -/
def cntT : Pt → Nat
  | .mk _ _ _ v l => l.length + v.b.length + cntL l
def cntL : List Pt → Nat
  | [] => 0
  | q :: r => cntT q + cntL r
end

/-- What an op says of an order. -/
def holdsB (o d : Int) : Bool := if o = 1 then d == 0 else if o = 2 then d != 0 else if o = 3 then decide (d < 0) else if o = 4 then decide (d ≤ 0) else if o = 5 then decide (0 < d) else if o = 6 then decide (0 ≤ d) else false
def verdB (b : Bool) : Int := if b = true then 1 else 2
def otherT (v : Int) : Int := if v = 1 then 2 else if v = 2 then 1 else v
/-- The value of a column, where there is one. -/
def colT (r : List Vc) (c : Int) : Option Vc := if c < 0 then none else r[c.toNat]?
def cmpE (r : List Vc) (c o : Int) (v : Vc) : Int := match colT r c with
  | none => 3
  | some x => if x.u = true then 3 else verdB (holdsB o (cmpT x v))
def nullE (r : List Vc) (c : Int) : Int := match colT r c with
  | none => 3
  | some x => verdB x.u
/-- Of a list: one that is s decides; else one that is none; else w. -/
def listE (s w : Int) (vs : List Int) : Int := if s ∈ vs then s else if 3 ∈ vs then 3 else w
mutual
/-- What a predicate is of a row. -/
def evalT (r : List Vc) : Pt → Int
  | .mk k c o v l =>
    if k = 1 then 1 else if k = 2 then cmpE r c o v else if k = 3 then nullE r c else if k = 4 then listE 2 1 (evalL r l) else if k = 5 then listE 1 2 (evalL r l)
    else if k = 6 then (match evalL r l with | [x] => otherT x | _ => 3) else 3
def evalL (r : List Vc) : List Pt → List Int
  | [] => []
  | q :: t => evalT r q :: evalL r t
end
theorem evalL_eq (r : List Vc) (l : List Pt) : evalL r l = l.map (evalT r) := by
  induction l with
  | nil => rfl
  | cons q t ih => rw [evalL, ih]; rfl

theorem depL_mem {l : List Pt} {k : Nat} {q : Pt} (h : l[k]? = some q) : depT q ≤ depL l := by
  induction l generalizing k with
  | nil => simp at h
  | cons p r ih =>
    cases k with
    | zero =>
      simp only [List.getElem?_cons_zero, Option.some.injEq] at h
      subst h
      unfold depL; omega
    | succ k =>
      have := ih (by simpa using h)
      unfold depL; omega
theorem cntL_take {l : List Pt} {k : Nat} {q : Pt} (h : l[k]? = some q) : cntL (l.take (k + 1)) = cntL (l.take k) + cntT q := by
  induction l generalizing k with
  | nil => simp at h
  | cons p r ih =>
    cases k with
    | zero =>
      simp only [List.getElem?_cons_zero, Option.some.injEq] at h
      subst h
      simp [cntL]
    | succ k =>
      have := ih (k := k) (by simpa using h)
      rw [List.take_succ_cons, List.take_succ_cons, cntL, cntL, this]; omega
theorem cntL_le (l : List Pt) (k : Nat) : cntL (l.take k) ≤ cntL l := by
  induction l generalizing k with
  | nil => simp
  | cons p r ih =>
    cases k with
    | zero => simp [cntL]
    | succ k => rw [List.take_succ_cons, cntL, cntL]; have := ih k; omega

end Go.Proofs.Ytnfjdoeemnhkbaa

namespace Go.Proofs.Ytnfjdoeemnhkbaa
set_option linter.unusedVariables false
set_option linter.unusedSimpArgs false
open Go.RowKit

theorem colT_cases (r : List Vc) (c : Int) : (c < 0 ∧ colT r c = none) ∨ (0 ≤ c ∧ (r.length : Int) ≤ c ∧ colT r c = none) ∨ ∃ n : Nat, ∃ x, c = (n : Int) ∧ n < r.length ∧ r[n]? = some x ∧ colT r c = some x := by
  by_cases h : c < 0
  · exact .inl ⟨h, by unfold colT; rw [if_pos h]⟩
  · by_cases h2 : (r.length : Int) ≤ c
    · exact .inr (.inl ⟨by omega, h2, by unfold colT; rw [if_neg h]; exact List.getElem?_eq_none (by omega)⟩)
    · have hlt : c.toNat < r.length := by omega
      exact .inr (.inr ⟨c.toNat, r[c.toNat], by omega, hlt, List.getElem?_eq_getElem hlt, by unfold colT; rw [if_neg h, List.getElem?_eq_getElem hlt]⟩)

end Go.Proofs.Ytnfjdoeemnhkbaa

namespace Go.Proofs.Ytnfjdoeemnhkbaa
set_option linter.unusedVariables false
set_option linter.unusedSimpArgs false
open Go.RowKit

/-- That cell holds how many are left. -/
def Lft (w : World) (lb : Nat) (L : Int) : Prop := w.heap[lb]? = some (.cells #[.int .i64 L] 3 (0, 0))

theorem lft_lt {w : World} {lb : Nat} {L : Int} (h : Lft w lb L) : lb < w.heap.size := (Array.getElem?_eq_some_iff.1 h).1
theorem lft_alloc {w : World} {lb : Nat} {L : Int} (h : Lft w lb L) (o : Obj) : Lft (w.alloc o) lb L := (heap_alloc_old w o (lft_lt h)).trans h

end Go.Proofs.Ytnfjdoeemnhkbaa

namespace Go.Proofs.Ytnfjdoeemnhkbaa
set_option linter.unusedVariables false
set_option linter.unusedSimpArgs false
open Go.RowKit

theorem cntL_mem {l : List Pt} {k : Nat} {q : Pt} (h : l[k]? = some q) : cntT q ≤ cntL l := by
  have h1 := cntL_take h
  have h2 := cntL_le l (k + 1)
  omega

end Go.Proofs.Ytnfjdoeemnhkbaa

namespace Go.Proofs.Ytnfjdoeemnhkbaa
set_option linter.unusedVariables false
set_option linter.unusedSimpArgs false
open Go.RowKit

/-- From block K on w' is as w was. -/
def Above (K : Nat) (w w' : World) : Prop := ∀ b, K ≤ b → b < w.heap.size → w'.heap[b]? = w.heap[b]?
theorem Above.refl (K : Nat) (w : World) : Above K w w := fun _ _ _ => rfl
theorem Above.trans {K : Nat} {a b c : World} (h : Above K a b) (hs : a.heap.size ≤ b.heap.size) (k : Above K b c) : Above K a c := fun x h1 h2 => (k x h1 (Nat.lt_of_lt_of_le h2 hs)).trans (h x h1 h2)
theorem Above.mono {K K' : Nat} {w w' : World} (h : Above K w w') (hk : K ≤ K') : Above K' w w' := fun x h1 h2 => h x (Nat.le_trans hk h1) h2
theorem above_below {K : Nat} {w w' : World} (h : Below w.heap.size w w') : Above K w w' := fun x _ h2 => h.block x h2
theorem above_grown {K lb : Nat} {w w' : World} (h : w.grownBy w' (some lb)) (hk : lb < K) : Above K w w' := fun x h1 h2 => h.block x h2 (fun e => by cases e; omega)
theorem above_cell {K b i : Nat} {w w' : World} {u : Value} (h : Above K w w') (hb : K ≤ b) (hc : w.cell? ⟨b, i, none⟩ = some u) : w'.cell? ⟨b, i, none⟩ = some u := by
  have hlt := World.block_lt_of_cell? w _ hc
  have := h b hb hlt
  rw [← hc]
  simp only [World.cell?, this]

/-- These bytes lie from K on. -/
def RdB (K : Nat) (w : World) (s : Value) (bs : List Nat) : Prop := ∃ ao cap, s = .slice ao bs.length cap ∧ ((ao = none → cap = 0) ∧ bs.length ≤ cap) ∧ (0 < bs.length → ∃ b off, ao = some ⟨b, off, none⟩ ∧ K ≤ b ∧ ∀ i, i < bs.length → w.cell? ⟨b, off + i, none⟩ = some (u8v (bs.getD i 0)))
theorem RdB.rd {K : Nat} {w w' : World} {s : Value} {bs : List Nat} (h : RdB K w s bs) (ha : Above K w w') : Rd w' s (bs.map u8v) := by
  obtain ⟨ao, cap, hv, hn, hc⟩ := h
  refine ⟨ao, cap, by rw [List.length_map]; exact hv, by rw [List.length_map]; exact hn, fun hp => ?_⟩
  rw [List.length_map] at hp
  obtain ⟨b, off, h1, h2, h3⟩ := hc hp
  refine ⟨b, off, h1, fun i hi => ?_⟩
  rw [List.length_map] at hi
  rw [above_cell ha h2 (h3 i hi), List.getD_eq_getElem?_getD, List.getD_eq_getElem?_getD, List.getElem?_map, List.getElem?_eq_getElem hi]
  rfl

theorem RdB.above {K K0 : Nat} {w w' : World} {s : Value} {bs : List Nat} (h : RdB K w s bs) (ha : Above K w w') (hk : K0 ≤ K) : RdB K0 w' s bs := by
  obtain ⟨ao, cap, hv, hn, hc⟩ := h
  refine ⟨ao, cap, hv, hn, fun hp => ?_⟩
  obtain ⟨b, off, h1, h2, h3⟩ := hc hp
  exact ⟨b, off, h1, Nat.le_trans hk h2, fun i hi => above_cell ha h2 (h3 i hi)⟩
theorem rdB_shape {K : Nat} {w : World} {s : Value} {bs : List Nat} (h : RdB K w s bs) : ∃ ao cap, s = .slice ao bs.length cap := by
  obtain ⟨ao, cap, hv, _⟩ := h
  exact ⟨ao, cap, hv⟩
/-- Cells below K written. -/
theorem above_set {K : Nat} {w w1 : World} (h : Above K w w1) (a : Addr) (v : Value) (ha : a.block < K) : Above K w (w1.setCell a v) := fun x h1 h2 => by
  rw [heap_setCell_other w1 a x v (by omega)]
  exact h x h1 h2

theorem info8v : (Try.prog.info? 5).map (fun i => (i.zero, i.size, i.bytes)) = some (some (.int .u8 0), 1, 1) := by kernel_rfl

theorem rd_bytes {w : World} {ao : Option Addr} {len cap : Nat} {bs : List Nat} (h : Rd w (.slice ao len cap) (bs.map u8v)) :
    len = bs.length ∧ (0 < len → ∃ b off, ao = some ⟨b, off, none⟩ ∧ ∀ i, i < len → w.cell? ⟨b, off + i, none⟩ = some (.int .u8 (bs.getD i 0 : Nat))) := by
  obtain ⟨ao', cap', hv, _, hc⟩ := h
  simp only [List.length_map, Value.slice.injEq] at hv hc
  obtain ⟨rfl, hl, rfl⟩ := hv
  refine ⟨hl, fun hp => ?_⟩
  obtain ⟨b, off, ha, hcell⟩ := hc (by omega)
  refine ⟨b, off, ha, fun i hi => ?_⟩
  have := hcell i (by omega)
  rw [this, List.getD_eq_getElem?_getD, List.getElem?_map, List.getD_eq_getElem?_getD, List.getElem?_eq_getElem (show i < bs.length by omega)]
  rfl

theorem rdB_own {w : World} {B : Nat} {E : TypeId} {v : Value} {n : Nat} {bs : List Nat} (h : w.ownsRow B E 1 v n (bs.map u8v)) : RdB B w v bs := by
  have hl : bs.length = n := by simpa using h.1
  rcases h.2 with ⟨rfl, rfl⟩ | ⟨g, cap, cur, rfl, hbg, hh, r⟩
  · have : bs = [] := List.length_eq_zero_iff.1 hl
    subst this
    exact ⟨none, 0, rfl, ⟨fun _ => rfl, by simp⟩, fun h => absurd h (by simp)⟩
  · refine ⟨some ⟨g, 0, none⟩, cap, by rw [hl], ⟨(fun h => by cases h), by rw [hl]; exact r.1⟩, fun _ => ⟨g, 0, rfl, hbg, fun i hi => ?_⟩⟩
    have := h.cellAt i (by omega)
    rw [Nat.zero_add, this, List.getElem?_map, List.getElem?_eq_getElem hi, List.getD_eq_getElem?_getD, List.getElem?_eq_getElem hi]; rfl

set_option maxHeartbeats 1000000 in
theorem bcl_any (v : Value) (bs : List Nat) (w : World) (hr : Rd w v (bs.map u8v)) (hbig : bs.length ≤ 140737488355328) :
    Calls Try.prog 112 #[v] w fun e w' => ∃ s, e = .returned s ∧ RdB w.heap.size w' s bs ∧ Below w.heap.size w w' := by
  have q22 : ∀ (w : World) (a : Option Addr) (n c n' c' : Nat), (binOp .eql 34 (.slice a n c) (.slice none n' c')).run Try.prog w = .ok (.bool a.isNone) w := fun w a n c n' c' => Lib.run_eql_slice_nil w _ _ a n c n' c' Try.underlying34
  have hr0 := hr
  obtain ⟨ao, cap, hv, _⟩ := hr
  rw [List.length_map] at hv
  subst hv
  have hc := (rd_bytes hr0).2
  obtain ⟨n, hn⟩ : ∃ n, n = bs.length := ⟨_, rfl⟩
  rw [← hn] at hc hbig hr0 ⊢
  have HN := Lib.hid hn
  have HR := Lib.hid hr0
  clear hr0 hn
  rcases ao with _ | a
  · have h0 : n = 0 := by
      rcases Nat.eq_zero_or_pos n with h | h
      · exact h
      · obtain ⟨b, off, h1, _⟩ := hc h; cases h1
    have hb : bs = [] := List.length_eq_zero_iff.1 (by rw [← HN.out]; exact h0)
    clear hc
    go_enter Try.func112, Try.ntmps112
    go_wp2
    go_ret
    subst hb
    exact ⟨.slice none 0 0, rfl, ⟨none, 0, rfl, ⟨fun _ => rfl, by simp⟩, fun h => absurd h (by simp)⟩, Below.refl _ _⟩
  · clear hc
    have H1 := Lib.hid (show (bs.map u8v).length = n * 1 by rw [List.length_map, Nat.mul_one]; exact HN.out.symm)
    have H2 := Lib.hid (rd_news (HR.out.kept (below_alloc w (.cells #[] 5))))
    have H3 := Lib.hid (ones_u8 bs)
    obtain ⟨i0, hi, hz0, hz1, hz2⟩ := info_parts info8v
    go_enter Try.func112, Try.ntmps112
    go_wp2_with (at_builtin; refine wpList_append_own _ rfl _ _ 34 rfl w.heap.size 5 i0 (.int .u8 0) 1 1 Try.underlying34 hi hz0 hz1 hz2 rfl (by decide) _ _ _ rfl (World.ownsRow_made w #[] 0 (Nat.le_refl _) (Nat.zero_le _) rfl) a n cap (bs.map u8v) rfl H1.out H2.out H3.out (by unfold maxLen; omega) (by omega) (by simp) ?_)
    intro v' w1 hown hgrow hnil
    go_wp2
    go_ret
    have hown' : w1.ownsRow w.heap.size 5 1 v' n (bs.map u8v) := by simpa using hown
    have hbl : Below w.heap.size w w1 := ((Below.refl _ w).alloc (Nat.le_refl _) _).grown hgrow (by simp) (by intro k hk; simp [Value.ownBlock] at hk; omega)
    exact ⟨v', rfl, rdB_own hown', hbl⟩

theorem four_heap' {w : World} {X : Nat} {a b c d a' b' c' d' : Value} {T : TypeId} (h : w.heap[X]? = some (.cells #[a, b, c, d] T (0, 0))) :
    ((((w.setCell ⟨X, 0, none⟩ a').setCell ⟨X, 1, none⟩ b').setCell ⟨X, 2, none⟩ c').setCell ⟨X, 3, none⟩ d').heap[X]? = some (.cells #[a', b', c', d'] T (0, 0)) := by
  have h0 := heap_setCell_same w X 0 _ _ a' h
  have h1 := heap_setCell_same (w.setCell ⟨X, 0, none⟩ a') X 1 _ _ b' h0
  have h2 := heap_setCell_same _ X 2 _ _ c' h1
  have h3 := heap_setCell_same _ X 3 _ _ d' h2
  rw [h3]
  simp
theorem infoVal4' : (Try.prog.info? 36).map (·.size) = some 4 := by kernel_rfl

set_option maxRecDepth 100000 in
set_option maxHeartbeats 1000000 in
theorem fval_any (p : Vc × Value) (w : World) (hp : OkV w p) (hbig : p.1.b.length ≤ 1000000) :
    Calls Try.prog 84 #[aggV p] w fun e w' => ∃ s, e = .returned (aggV (p.1, s)) ∧ RdB w.heap.size w' s p.1.b ∧ Below w.heap.size w w' := by
  obtain ⟨sa, sc, hs⟩ := rd_shape8 hp.1
  obtain ⟨⟨u, k, n, b⟩, s⟩ := p
  simp only at hs hbig
  subst hs
  have HC := fun w' (h : Below w.heap.size w w') => Lib.hid (bcl_any (.slice sa b.length sc) b w' (hp.1.kept h) (by omega))
  have H256 := Lib.hid hp.2
  unfold aggV
  simp only
  clear hp
  go_enter Try.func84, Try.ntmps84
  go_wp2_with fail
  refine (HC _ (below2 w _ _)).out.mono ?_
  rintro e w2 ⟨s2, rfl, hr2, hb2⟩
  have h1 : w2.heap[w.heap.size]? = some (.cells #[.bool u, .int .i64 k, .int .i64 n, .slice sa b.length sc] 36 (0, 0)) := (hb2.block w.heap.size (by simp; omega)).trans ((heap_alloc_old _ _ (by simp)).trans (heap_alloc_new w _))
  have h2 : w2.heap[w.heap.size + 1]? = some (.cells #[.bool false, .int .i64 0, .int .i64 0, .slice none 0 0] 36 (0, 0)) := (hb2.block (w.heap.size + 1) (by simp)).trans (heap2 w _ _)
  obtain ⟨ta, tc, ht⟩ := rdB_shape hr2
  subst ht
  have HR2 := Lib.hid hr2
  have HB2 := Lib.hid (below_then (below2 w _ _) hb2)
  have HS2 := Lib.hid (show ((w.alloc (.cells #[.bool u, .int .i64 k, .int .i64 n, .slice sa b.length sc] 36)).alloc (.cells #[.bool false, .int .i64 0, .int .i64 0, .slice none 0 0] 36)).heap.size = w.heap.size + 2 by simp)
  have H2 := Lib.hid h2
  obtain ⟨X, hX⟩ : ∃ X, X = w.heap.size := ⟨_, rfl⟩
  obtain ⟨Y, hY⟩ : ∃ Y, Y = w.heap.size + 1 := ⟨_, rfl⟩
  have HX := Lib.hid hX
  have HY := Lib.hid hY
  rw [← hX] at h1
  rw [← hY] at h2 H2 ⊢
  rw [← hX]
  have c0 : w2.cell? ⟨X, 0, none⟩ = some (.bool u) := by rw [cell_of_row w2 X 0 _ _ _ h1]; rfl
  have c1 : w2.cell? ⟨X, 1, none⟩ = some (.int .i64 k) := by rw [cell_of_row w2 X 1 _ _ _ h1]; rfl
  have c2 : w2.cell? ⟨X, 2, none⟩ = some (.int .i64 n) := by rw [cell_of_row w2 X 2 _ _ _ h1]; rfl
  have c3 : w2.cell? ⟨X, 3, none⟩ = some (.slice sa b.length sc) := by rw [cell_of_row w2 X 3 _ _ _ h1]; rfl
  have f3 : w2.frozen? ⟨X, 3, none⟩ = false := frozen_of_row w2 X 3 _ _ h1
  have g0 : w2.cell? ⟨Y, 0, none⟩ = some (.bool false) := by rw [cell_of_row w2 Y 0 _ _ _ h2]; rfl
  have g1 : w2.cell? ⟨Y, 1, none⟩ = some (.int .i64 0) := by rw [cell_of_row w2 Y 1 _ _ _ h2]; rfl
  have g2 : w2.cell? ⟨Y, 2, none⟩ = some (.int .i64 0) := by rw [cell_of_row w2 Y 2 _ _ _ h2]; rfl
  have g3 : w2.cell? ⟨Y, 3, none⟩ = some (.slice none 0 0) := by rw [cell_of_row w2 Y 3 _ _ _ h2]; rfl
  have e0 : w2.frozen? ⟨Y, 0, none⟩ = false := frozen_of_row w2 Y 0 _ _ h2
  have e1 : w2.frozen? ⟨Y, 1, none⟩ = false := frozen_of_row w2 Y 1 _ _ h2
  have e2 : w2.frozen? ⟨Y, 2, none⟩ = false := frozen_of_row w2 Y 2 _ _ h2
  have e3 : w2.frozen? ⟨Y, 3, none⟩ = false := frozen_of_row w2 Y 3 _ _ h2
  have hne : X ≠ Y := by omega
  have hne2 : Y ≠ X := by omega
  clear hr2 hb2 h1 h2 hX hY HC
  go_wp2_with fail
  refine bodyPost_ret (results_cell_row rfl _ _ Y _ _ (0, 0) _ rfl (four_heap' (show (w2.setCell ⟨X, 3, none⟩ (.slice ta b.length tc)).heap[Y]? = _ from (heap_setCell_other w2 ⟨X, 3, none⟩ Y _ hne2).trans H2.out)) Try.underlying36 rfl infoVal4') rfl ?_
  have hx := HX.out
  have hy := HY.out
  refine ⟨.slice ta b.length tc, rfl, HR2.out.above ?_ (by rw [HS2.out]; omega), ?_⟩
  · rw [HS2.out]
    exact above_set (above_set (above_set (above_set (above_set (Above.refl _ _) _ _ (by show X < _; omega)) _ _ (by show Y < _; omega)) _ _ (by show Y < _; omega)) _ _ (by show Y < _; omega)) _ _ (by show Y < _; omega)
  · exact ((((HB2.out.setCell (p := ⟨X, 3, none⟩) (by show _ ≤ X; omega) _).setCell (p := ⟨Y, 0, none⟩) (by show _ ≤ Y; omega) _).setCell (p := ⟨Y, 1, none⟩) (by show _ ≤ Y; omega) _).setCell (p := ⟨Y, 2, none⟩) (by show _ ≤ Y; omega) _).setCell (p := ⟨Y, 3, none⟩) (by show _ ≤ Y; omega) _

end Go.Proofs.Ytnfjdoeemnhkbaa

namespace Go.Proofs.Ytnfjdoeemnhkbaa
set_option linter.unusedVariables false
set_option linter.unusedSimpArgs false
open Go.RowKit

/-- These things lie from K on. -/
def RdSK (K : Nat) (w : World) (sz : Nat) (v : Value) (ls : List (List Value)) : Prop :=
  ∃ ao cap, v = .slice ao ls.length cap ∧ ((ao = none → cap = 0) ∧ ls.length ≤ cap) ∧
    ∀ k t, ls[k]? = some t → ∃ b off, ao = some ⟨b, off, none⟩ ∧ K ≤ b ∧ ∀ j u, t[j]? = some u → w.cell? ⟨b, off + k * sz + j, none⟩ = some u
theorem RdSK.rd {K : Nat} {w : World} {sz : Nat} {v : Value} {ls : List (List Value)} (h : RdSK K w sz v ls) : RdS w sz v ls := by
  obtain ⟨ao, cap, hv, hn, hc⟩ := h
  refine ⟨ao, cap, hv, hn, fun k t ht => ?_⟩
  obtain ⟨b, off, h1, _, h3⟩ := hc k t ht
  exact ⟨b, off, h1, h3⟩
theorem RdSK.above {K K0 : Nat} {w w' : World} {sz : Nat} {v : Value} {ls : List (List Value)} (h : RdSK K w sz v ls) (ha : Above K w w') (hk : K0 ≤ K) : RdSK K0 w' sz v ls := by
  obtain ⟨ao, cap, hv, hn, hc⟩ := h
  refine ⟨ao, cap, hv, hn, fun k t ht => ?_⟩
  obtain ⟨b, off, h1, h2, h3⟩ := hc k t ht
  exact ⟨b, off, h1, Nat.le_trans hk h2, fun j u hu => above_cell ha h2 (h3 j u hu)⟩

mutual
def RdA1 (K : Nat) (w : World) : Pt → List Value → Prop
  | .mk k c o v l, cs => ∃ s ls css, cs = cellsP k c o v s ls ∧ (RdB K w s v.b ∧ ∀ x ∈ v.b, x < 256) ∧ RdSK K w 8 ls css ∧ RdAs K w l css
def RdAs (K : Nat) (w : World) : List Pt → List (List Value) → Prop
  | [], [] => True
  | q :: r, cs :: t => RdA1 K w q cs ∧ RdAs K w r t
  | [], _ :: _ => False
  | _ :: _, [] => False
end

mutual
theorem RdA1.above {K K0 : Nat} {w w' : World} (ha : Above K w w') (hk : K0 ≤ K) : ∀ (p : Pt) {cs : List Value}, RdA1 K w p cs → RdA1 K0 w' p cs
  | .mk k c o v l, cs, h => by
    unfold RdA1 at h ⊢
    obtain ⟨s, ls, css, h1, h2, h3, h4⟩ := h
    exact ⟨s, ls, css, h1, ⟨h2.1.above ha hk, h2.2⟩, h3.above ha hk, RdAs.above ha hk l h4⟩
theorem RdAs.above {K K0 : Nat} {w w' : World} (ha : Above K w w') (hk : K0 ≤ K) : ∀ (l : List Pt) {css : List (List Value)}, RdAs K w l css → RdAs K0 w' l css
  | [], [], _ => by unfold RdAs; trivial
  | q :: r, cs :: t, h => by
    unfold RdAs at h ⊢
    exact ⟨RdA1.above ha hk q h.1, RdAs.above ha hk r h.2⟩
  | [], _ :: _, h => by unfold RdAs at h; exact h.elim
  | _ :: _, [], h => by unfold RdAs at h; exact h.elim
end
mutual
theorem RdA1.rd {K : Nat} {w : World} : ∀ (p : Pt) {cs : List Value}, RdA1 K w p cs → RdT1 w p cs
  | .mk k c o v l, cs, h => by
    unfold RdA1 at h
    unfold RdT1
    obtain ⟨s, ls, css, h1, h2, h3, h4⟩ := h
    exact ⟨s, ls, css, h1, ⟨h2.1.rd (Above.refl _ _), h2.2⟩, h3.rd, RdAs.rd l h4⟩
theorem RdAs.rd {K : Nat} {w : World} : ∀ (l : List Pt) {css : List (List Value)}, RdAs K w l css → RdTs w l css
  | [], [], _ => by unfold RdTs; trivial
  | q :: r, cs :: t, h => by
    unfold RdAs at h
    unfold RdTs
    exact ⟨RdA1.rd q h.1, RdAs.rd r h.2⟩
  | [], _ :: _, h => by unfold RdAs at h; exact h.elim
  | _ :: _, [], h => by unfold RdAs at h; exact h.elim
end
theorem rdAs_len {K : Nat} {w : World} {l : List Pt} {css : List (List Value)} (h : RdAs K w l css) : css.length = l.length := rdTs_len (RdAs.rd l h)
theorem RdAs.snoc {K : Nat} {w : World} {q : Pt} {cs : List Value} (hq : RdA1 K w q cs) : ∀ {l : List Pt} {css : List (List Value)}, RdAs K w l css → RdAs K w (l ++ [q]) (css ++ [cs])
  | [], [], _ => by unfold RdAs; exact ⟨hq, by unfold RdAs; trivial⟩
  | p :: r, c :: t, h => by
    unfold RdAs at h
    show RdAs K w (p :: (r ++ [q])) (c :: (t ++ [cs]))
    unfold RdAs
    exact ⟨h.1, RdAs.snoc hq h.2⟩
  | [], _ :: _, h => by unfold RdAs at h; exact h.elim
  | _ :: _, [], h => by unfold RdAs at h; exact h.elim
theorem rdA1_len {K : Nat} {w : World} {p : Pt} {cs : List Value} (h : RdA1 K w p cs) : cs.length = 8 := by
  obtain ⟨k, c, o, v, l⟩ := p
  unfold RdA1 at h
  obtain ⟨s, ls, css, rfl, _⟩ := h
  rfl
theorem rdAs_each {K : Nat} {w : World} : ∀ {l : List Pt} {css : List (List Value)}, RdAs K w l css → ∀ t ∈ css, t.length = 8
  | [], [], _ => fun t ht => by cases ht
  | p :: r, c :: t, h => fun u hu => by
    unfold RdAs at h
    rcases List.mem_cons.1 hu with h1 | h1
    · rw [h1]; exact rdA1_len h.1
    · exact rdAs_each h.2 u h1
  | [], _ :: _, h => by unfold RdAs at h; exact h.elim
  | _ :: _, [], h => by unfold RdAs at h; exact h.elim

theorem set_at {α : Type} (A t : List α) (j : Nat) (v : α) : (A ++ t).set (A.length + j) v = A ++ t.set j v := by
  rw [List.set_append_right _ _ (by omega), Nat.add_sub_cancel_left]
/-- Eight cells of a row written. -/
def set8 (xs : List Value) (m : Nat) (v0 v1 v2 v3 v4 v5 v6 v7 : Value) : List Value :=
  (((((((xs.set m v0).set (m + 1) v1).set (m + 2) v2).set (m + 3) v3).set (m + 4) v4).set (m + 5) v5).set (m + 6) v6).set (m + 7) v7
theorem set8_take (xs : List Value) (m : Nat) (h : m + 8 ≤ xs.length) (v0 v1 v2 v3 v4 v5 v6 v7 : Value) : (set8 xs m v0 v1 v2 v3 v4 v5 v6 v7).take (m + 8) = xs.take m ++ [v0, v1, v2, v3, v4, v5, v6, v7] := by
  obtain ⟨A, B, rfl, hA⟩ : ∃ A B, xs = A ++ B ∧ A.length = m := ⟨xs.take m, xs.drop m, (List.take_append_drop m xs).symm, by rw [List.length_take]; omega⟩
  subst hA
  rw [List.length_append] at h
  obtain ⟨b0, b1, b2, b3, b4, b5, b6, b7, C, rfl⟩ : ∃ b0 b1 b2 b3 b4 b5 b6 b7 C, B = b0 :: b1 :: b2 :: b3 :: b4 :: b5 :: b6 :: b7 :: C := by
    rcases B with _ | ⟨b0, B⟩
    · simp at h <;> omega
    rcases B with _ | ⟨b1, B⟩
    · simp at h <;> omega
    rcases B with _ | ⟨b2, B⟩
    · simp at h <;> omega
    rcases B with _ | ⟨b3, B⟩
    · simp at h <;> omega
    rcases B with _ | ⟨b4, B⟩
    · simp at h <;> omega
    rcases B with _ | ⟨b5, B⟩
    · simp at h <;> omega
    rcases B with _ | ⟨b6, B⟩
    · simp at h <;> omega
    rcases B with _ | ⟨b7, B⟩
    · simp at h <;> omega
    exact ⟨b0, b1, b2, b3, b4, b5, b6, b7, B, rfl⟩
  unfold set8
  have e0 := set_at A (b0 :: b1 :: b2 :: b3 :: b4 :: b5 :: b6 :: b7 :: C) 0 v0
  rw [Nat.add_zero] at e0
  rw [e0, set_at, set_at, set_at, set_at, set_at, set_at, set_at]
  simp only [List.set_cons_zero, List.set_cons_succ]
  rw [List.take_append, List.take_append, List.take_of_length_le (show A.length ≤ A.length + 8 by omega), List.take_of_length_le (Nat.le_refl A.length)]
  simp
theorem set8_len (xs : List Value) (m : Nat) (v0 v1 v2 v3 v4 v5 v6 v7 : Value) : (set8 xs m v0 v1 v2 v3 v4 v5 v6 v7).length = xs.length := by simp [set8]

theorem infoPred : (Try.prog.info? 65).map (fun i => (i.zero, i.size, i.bytes)) = some (some (.agg #[.int .i64 0, .int .i64 0, .int .i64 0, .bool false, .int .i64 0, .int .i64 0, .slice none 0 0, .slice none 0 0]), 8, 96) := by kernel_rfl

/-- An owned row that reads as such things. -/
theorem rdSK_own {w : World} {B : Nat} {E : TypeId} {sz : Nat} {v : Value} {n : Nat} {ls : List (List Value)} (h : w.ownsRow B E sz v n ls.flatten) (hn : n = ls.length) (hl : ∀ t ∈ ls, t.length = sz) : RdSK B w sz v ls := by
  have h1 := rdS_own h hn hl
  obtain ⟨ao, cap, hv, hnn, hc⟩ := h1
  refine ⟨ao, cap, hv, hnn, fun k t ht => ?_⟩
  obtain ⟨b, off, ha, hcell⟩ := hc k t ht
  refine ⟨b, off, ha, ?_, hcell⟩
  exact own_base h b (by rw [hv, ha]; rfl)

end Go.Proofs.Ytnfjdoeemnhkbaa

namespace Go.Proofs.Ytnfjdoeemnhkbaa
set_option linter.unusedVariables false
set_option linter.unusedSimpArgs false
open Go.RowKit

/-- What pred$1 has captured. -/
structure Cap (w : World) (db pb lb : Nat) (D : Int) : Prop where
  d : w.heap[db]? = some (.cells #[.int .i64 D] 3 (0, 0))
  p : w.heap[pb]? = some (.cells #[.pointer (some ⟨lb, 0, none⟩)] 138 (0, 0))
  nd : db ≠ lb
  np : pb ≠ lb
theorem Cap.grown {w w' : World} {db pb lb : Nat} {D : Int} (h : Cap w db pb lb D) (hg : w.grownBy w' (some lb)) : Cap w' db pb lb D :=
  ⟨(hg.block db (Array.getElem?_eq_some_iff.1 h.d).1 (fun e => by cases e; exact h.nd rfl)).trans h.d, (hg.block pb (Array.getElem?_eq_some_iff.1 h.p).1 (fun e => by cases e; exact h.np rfl)).trans h.p, h.nd, h.np⟩

theorem infoPred8 : (Try.prog.info? 65).map (·.size) = some 8 := by kernel_rfl
/-- Eight cells of a block, written one behind the other. -/
theorem eight_heap {w : World} {X : Nat} {a0 a1 a2 a3 a4 a5 a6 a7 b0 b1 b2 b3 b4 b5 b6 b7 : Value} {T : TypeId} (h : w.heap[X]? = some (.cells #[a0, a1, a2, a3, a4, a5, a6, a7] T (0, 0))) :
    ((((((((w.setCell ⟨X, 0, none⟩ b0).setCell ⟨X, 1, none⟩ b1).setCell ⟨X, 2, none⟩ b2).setCell ⟨X, 3, none⟩ b3).setCell ⟨X, 4, none⟩ b4).setCell ⟨X, 5, none⟩ b5).setCell ⟨X, 6, none⟩ b6).setCell ⟨X, 7, none⟩ b7).heap[X]? = some (.cells #[b0, b1, b2, b3, b4, b5, b6, b7] T (0, 0)) := by
  have h0 := heap_setCell_same w X 0 _ _ b0 h
  have h1 := heap_setCell_same _ X 1 _ _ b1 h0
  have h2 := heap_setCell_same _ X 2 _ _ b2 h1
  have h3 := heap_setCell_same _ X 3 _ _ b3 h2
  have h4 := heap_setCell_same _ X 4 _ _ b4 h3
  have h5 := heap_setCell_same _ X 5 _ _ b5 h4
  have h6 := heap_setCell_same _ X 6 _ _ b6 h5
  have h7 := heap_setCell_same _ X 7 _ _ b7 h6
  rw [h7]
  simp

end Go.Proofs.Ytnfjdoeemnhkbaa

namespace Go.Proofs.Ytnfjdoeemnhkbaa
set_option linter.unusedVariables false
set_option linter.unusedSimpArgs false
open Go.RowKit

theorem World.grownBy_refl' (w : World) (r : Option Nat) : w.grownBy w r := ⟨rfl, rfl, rfl, Nat.le_refl _, fun _ _ _ => rfl⟩
theorem own_lt' {w : World} {B g : Nat} {E : TypeId} {size n cap : Nat} {xs : List Value} (h : w.ownsRow B E size (.slice (some ⟨g, 0, none⟩) n cap) n xs) : g < w.heap.size := by
  rcases h.2 with ⟨h, _⟩ | ⟨g', cap', cur, h, hbg, hh, _⟩
  · cases h
  · cases h
    exact (Array.getElem?_eq_some_iff.1 hh).1

end Go.Proofs.Ytnfjdoeemnhkbaa

namespace Go.Proofs.Ytnfjdoeemnhkbaa
set_option linter.unusedVariables false
set_option linter.unusedSimpArgs false
open Go.RowKit

theorem heaps4 (w : World) (o1 o2 o3 o4 : Obj) : ((((w.alloc o1).alloc o2).alloc o3).alloc o4).heap[w.heap.size]? = some o1 ∧ ((((w.alloc o1).alloc o2).alloc o3).alloc o4).heap[w.heap.size + 1]? = some o2 ∧
    ((((w.alloc o1).alloc o2).alloc o3).alloc o4).heap[w.heap.size + 1 + 1]? = some o3 ∧ ((((w.alloc o1).alloc o2).alloc o3).alloc o4).heap[w.heap.size + 1 + 1 + 1]? = some o4 := by
  have s1 : (w.alloc o1).heap.size = w.heap.size + 1 := by simp
  have s2 : ((w.alloc o1).alloc o2).heap.size = w.heap.size + 1 + 1 := by simp
  have s3 : (((w.alloc o1).alloc o2).alloc o3).heap.size = w.heap.size + 1 + 1 + 1 := by simp
  refine ⟨?_, ?_, ?_, ?_⟩
  · exact (heap_alloc_old _ o4 (by rw [s3]; omega)).trans ((heap_alloc_old _ o3 (by rw [s2]; omega)).trans ((heap_alloc_old _ o2 (by rw [s1]; omega)).trans (heap_alloc_new w o1)))
  · have := heap_alloc_new (w.alloc o1) o2
    rw [s1] at this
    exact (heap_alloc_old _ o4 (by rw [s3]; omega)).trans ((heap_alloc_old _ o3 (by rw [s2]; omega)).trans this)
  · have := heap_alloc_new ((w.alloc o1).alloc o2) o3
    rw [s2] at this
    exact (heap_alloc_old _ o4 (by rw [s3]; omega)).trans this
  · have := heap_alloc_new (((w.alloc o1).alloc o2).alloc o3) o4
    rw [s3] at this
    exact this
/-- Four cells of eight written. -/
theorem mid_heap {w : World} {X : Nat} {a0 a1 a2 a3 a4 a5 a6 a7 b3 b4 b5 b6 : Value} {T : TypeId} (h : w.heap[X]? = some (.cells #[a0, a1, a2, a3, a4, a5, a6, a7] T (0, 0))) :
    ((((w.setCell ⟨X, 3, none⟩ b3).setCell ⟨X, 4, none⟩ b4).setCell ⟨X, 5, none⟩ b5).setCell ⟨X, 6, none⟩ b6).heap[X]? = some (.cells #[a0, a1, a2, b3, b4, b5, b6, a7] T (0, 0)) := by
  have h3 := heap_setCell_same w X 3 _ _ b3 h
  have h4 := heap_setCell_same _ X 4 _ _ b4 h3
  have h5 := heap_setCell_same _ X 5 _ _ b5 h4
  have h6 := heap_setCell_same _ X 6 _ _ b6 h5
  rw [h6]
  simp
theorem last_heap {w : World} {X : Nat} {a0 a1 a2 a3 a4 a5 a6 a7 b7 : Value} {T : TypeId} (h : w.heap[X]? = some (.cells #[a0, a1, a2, a3, a4, a5, a6, a7] T (0, 0))) :
    (w.setCell ⟨X, 7, none⟩ b7).heap[X]? = some (.cells #[a0, a1, a2, a3, a4, a5, a6, b7] T (0, 0)) := by
  rw [heap_setCell_same w X 7 _ _ b7 h]
  simp

end Go.Proofs.Ytnfjdoeemnhkbaa

namespace Go.Proofs.Ytnfjdoeemnhkbaa
set_option linter.unusedVariables false
set_option linter.unusedSimpArgs false
open Go.RowKit

theorem heaps3 (w : World) (o1 o2 o3 : Obj) : (((w.alloc o1).alloc o2).alloc o3).heap[w.heap.size + 1]? = some o2 ∧ (((w.alloc o1).alloc o2).alloc o3).heap[w.heap.size + 1 + 1]? = some o3 := by
  have s1 : (w.alloc o1).heap.size = w.heap.size + 1 := by simp
  have s2 : ((w.alloc o1).alloc o2).heap.size = w.heap.size + 1 + 1 := by simp
  refine ⟨?_, ?_⟩
  · have := heap_alloc_new (w.alloc o1) o2
    rw [s1] at this
    exact (heap_alloc_old _ o3 (by rw [s2]; omega)).trans this
  · have := heap_alloc_new ((w.alloc o1).alloc o2) o3
    rw [s2] at this
    exact this

end Go.Proofs.Ytnfjdoeemnhkbaa

namespace Go.Proofs.Ytnfjdoeemnhkbaa
set_option linter.unusedVariables false
set_option linter.unusedSimpArgs false
open Go.RowKit

def zeroV : Vc := ⟨false, 0, 0, []⟩

end Go.Proofs.Ytnfjdoeemnhkbaa
