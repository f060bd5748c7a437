/-
  What DeltPlays keeps (plain): the store, the law's map beside it; look-ups and lengths of a map whose values are held as they are.
-/
import Derived.Test.YtnfjdoeemnhkbaaDltj
import Derived.Test.YtnfjdoeemnhkbaaColn
import Derived.Test.YtnfjdoeemnhkbaaAwake12
import Derived.Test.YtnfjdoeemnhkbaaLone
namespace Go.Proofs.Ytnfjdoeemnhkbaa
set_option linter.unusedVariables false
set_option linter.unusedSimpArgs false
open Go.RowKit

theorem wpList_lookup_held {P : Program} (w : World) {ops : Array Oper} {rest : List Oper} {o : Oper} {a : Act} {Q : Exit → Act → World → Prop} (hg : o.guard = none) (m x : Operand) (t : TypeId) (hop : o.op = Op.lookup t m x true)
    (k e : TypeId) (K : Maps.Keyed P k) (ht : P.underlying t = some (.map k e)) {z : Value} (hz : (zeroValue e).run P w = .ok z w) (b n : Nat) (D : DataW Value) (hm : a.eval m = .map (some b)) (hown : w.ownsMap P k heldR b n D)
    (key : Value) (kl : Lit) (hx : a.eval x = key) (hkey : keyOf P k key = some kl) (v : Value) (hv : D.atKey kl (.held z) = .held v) (c : Bool) (hc : Maps.has D kl = c)
    (hK : wpList P ops Q rest (a.put o.dst (.tuple #[v, .bool c])) w) : wpList P ops Q (o :: rest) a w :=
  wpList_lookup_own_ok w hg m x t hop k e K ht heldR hz (.held z) [] rfl b n D hm hown key kl hx hkey (fun v' ps h => by
    rw [hv] at h
    have e1 : v' = v := by
      unfold heldR at h
      simp only [Option.some.injEq, Prod.mk.injEq, DataW.held.injEq] at h
      exact h.1
    rw [e1, hc]
    exact hK)
theorem wpList_len_held {P : Program} (w : World) {ops : Array Oper} {rest : List Oper} {o : Oper} {a : Act} {Q : Exit → Act → World → Prop} (hg : o.guard = none) (m : Operand) (t : TypeId) (hop : o.op = Op.call { callee := Callee.builtin Builtin.len, args := #[m], argTypes := #[t] })
    (k e : TypeId) (ht : P.underlying t = some (.map k e)) (b n : Nat) (D : DataW Value) (hm : a.eval m = .map (some b)) (hown : w.ownsMap P k heldR b n D) (c : Nat) (hc : Maps.size D = c)
    (hK : wpList P ops Q rest (a.put o.dst (.int .i64 (c : Int))) w) : wpList P ops Q (o :: rest) a w :=
  wpList_len_own w hg m t hop k e ht heldR b n D hm hown (by rw [hc]; exact hK)
theorem keyI {a : Int} (hw : (Lit.int .i64 a).wf = true) : keyOf Try.prog 3 (.int .i64 a) = some (.int .i64 a) := Maps.keyOf_int_mk Try.underlying3 hw
theorem wf_small {a : Int} (h1 : -1000 ≤ a) (h2 : a ≤ 1000) : (Lit.int .i64 a).wf = true := by
  have e1 : IntKind.i64.min = -9223372036854775808 := rfl
  have e2 : IntKind.i64.max = 9223372036854775807 := rfl
  simp only [Lit.wf, Bool.and_eq_true, decide_eq_true_eq]
  omega

structure PlI (w0 : World) (D M K q n : Nat) (va : Option Addr) (vc : Nat) (vr vm : List DV) (Dm : DataW Value) (S : World → Prop) (X : Nat → Prop) (wr : World) : Prop where
  sto : StoD D X wr D K n va vc vr
  map : MapD X wr M q Dm vm
  nm : (Value.slice va n vc).ownBlock ≠ some M
  md : D < M
  sch : Free X wr S
  wf : ∀ x ∈ vr, (Lit.int .i64 x.1.i).wf = true
  bel : Below D w0 wr
theorem PlI.grow {w0 : World} {D M K q n : Nat} {va : Option Addr} {vc : Nat} {vr vm : List DV} {Dm : DataW Value} {S : World → Prop} {X : Nat → Prop} {wr : World} (h : PlI w0 D M K q n va vc vr vm Dm S X wr) {Y : Nat → Prop} {w' : World} (hb : Below wr.heap.size wr w') (hx : ∀ b, X b → Y b) (hy : ∀ b, Y b → X b ∨ wr.heap.size ≤ b) (hl : ∀ b, Y b → b < w'.heap.size) : PlI w0 D M K q n va vc vr vm Dm S Y w' where
  sto := by
    have h1 := h.sto.kept hb
    exact { h1 with
      xd := hx _ h1.xd
      xg := fun g hg => hx _ (h1.xg g hg)
      xl := hl
      rows := fun x hxx => (h.sto.rows x hxx).to (agree_below hb hb.size) (fun i hi h2 => by omega) (fun i hi h2 => (hy i h2).elim id (fun e => by omega)) }
  map := h.map.agree (agree_below hb hb.size) (fun i hi hx => by omega) (by have := h.map.lt; omega) (fun i hi h2 => (hy i h2).elim id (fun e => by omega)) (hx _ h.map.xm)
  nm := h.nm
  md := h.md
  sch := h.sch.to (agree_below hb hb.size) (fun i hi h2 => by omega) (fun i hi h2 => (hy i h2).elim id (fun e => by omega))
  wf := h.wf
  bel := h.bel.trans (hb.mono (Nat.le_of_lt h.sto.ld))
theorem PlI.kept {w0 : World} {D M K q n : Nat} {va : Option Addr} {vc : Nat} {vr vm : List DV} {Dm : DataW Value} {S : World → Prop} {X : Nat → Prop} {wr : World} (h : PlI w0 D M K q n va vc vr vm Dm S X wr) {w' : World} (hb : Below wr.heap.size wr w') : PlI w0 D M K q n va vc vr vm Dm S X w' :=
  h.grow hb (fun _ h => h) (fun _ h => .inl h) (fun b hx => Nat.lt_of_lt_of_le (h.sto.xl b hx) hb.size)
theorem PlI.stored {w0 : World} {D M K q n : Nat} {va : Option Addr} {vc : Nat} {vr vm : List DV} {Dm : DataW Value} {S : World → Prop} {X : Nat → Prop} {wr : World} (h : PlI w0 D M K q n va vc vr vm Dm S X wr) {n' : Nat} {va' : Option Addr} {vc' : Nat} {vr' : List DV} {X' : Nat → Prop} {w' : World}
    (hs : StoD D X' w' D K n' va' vc' vr') (ha : Agree (YD D (.slice va n vc)) wr w') (hx : ∀ b, b < wr.heap.size → X' b → X b) (hm : X' M) (hng : ∀ g, (Value.slice va' n' vc').ownBlock = some g → (Value.slice va n vc).ownBlock = some g ∨ wr.heap.size ≤ g) (hb : Below D wr w') (hw : ∀ x ∈ vr', (Lit.int .i64 x.1.i).wf = true) :
    PlI w0 D M K q n' va' vc' vr' vm Dm S X' w' where
  sto := hs
  map := h.map.agree ha (fun i _ hi => by
    rcases hi with hi | hi
    · rw [hi]; exact h.sto.xd
    · exact h.sto.xg i hi) (fun e => by
    rcases e with e | e
    · have := h.md; omega
    · exact h.nm e) hx hm
  nm := fun e => by
    rcases hng M e with h1 | h1
    · exact h.nm h1
    · have := h.map.lt; omega
  md := h.md
  sch := h.sch.to ha (fun i _ hi => by
    rcases hi with hi | hi
    · rw [hi]; exact h.sto.xd
    · exact h.sto.xg i hi) hx
  wf := hw
  bel := h.bel.trans hb
theorem PlI.added {w0 : World} {D M K q n : Nat} {va : Option Addr} {vc : Nat} {vr vm : List DV} {Dm : DataW Value} {S : World → Prop} {X : Nat → Prop} {wr : World} (h : PlI w0 D M K q n va vc vr vm Dm S X wr) {va' : Option Addr} {vc' p : Nat} {x : DV} {w' : World}
    (hs : StoD D (fun b => X b ∨ (Value.slice va' (n + 1) vc').ownBlock = some b) w' D K (n + 1) va' vc' (vr.take p ++ [x] ++ vr.drop p)) (hng : ∀ g, (Value.slice va' (n + 1) vc').ownBlock = some g → (Value.slice va n vc).ownBlock = some g ∨ wr.heap.size ≤ g) (ha : Agree (YD D (.slice va n vc)) wr w') (hb : Below D wr w') (hw : (Lit.int .i64 x.1.i).wf = true) :
    PlI w0 D M K q (n + 1) va' vc' (vr.take p ++ [x] ++ vr.drop p) vm Dm S (fun b => X b ∨ (Value.slice va' (n + 1) vc').ownBlock = some b) w' :=
  h.stored hs ha (fun b hb hx => hx.elim id (fun e => (hng b e).elim (h.sto.xg b) (fun e => by omega))) (.inl h.map.xm) hng hb (fun y hy => (mem_ins hy).elim (fun e => by rw [e]; exact hw) (h.wf y))
theorem PlI.turned {w0 : World} {D M K q n : Nat} {va : Option Addr} {vc : Nat} {vr vm : List DV} {Dm : DataW Value} {S : World → Prop} {X : Nat → Prop} {wr : World} (h : PlI w0 D M K q n va vc vr vm Dm S X wr) {n' : Nat} {vr' : List DV} {w' : World}
    (hs : StoD D X w' D K n' va vc vr') (hva : (Value.slice va n' vc).ownBlock = (Value.slice va n vc).ownBlock) (ha : Agree (YD D (.slice va n vc)) wr w') (hb : Below D wr w') (hw : ∀ x ∈ vr', (Lit.int .i64 x.1.i).wf = true) : PlI w0 D M K q n' va vc vr' vm Dm S X w' :=
  h.stored hs ha (fun _ _ h => h) h.map.xm (fun g hg => .inl (hva ▸ hg)) hb hw
/-- A block of X's own is written: neither the store's nor the map's. -/
theorem PlI.poked {w0 : World} {D M K q n : Nat} {va : Option Addr} {vc : Nat} {vr vm : List DV} {Dm : DataW Value} {S : World → Prop} {X : Nat → Prop} {wr : World} (h : PlI w0 D M K q n va vc vr vm Dm S X wr) {O : Nat} {w' : World} (ha : Agree (fun b => b = O) wr w') (hx : X O) (h1 : O ≠ D) (h2 : O ≠ M) (h3 : (Value.slice va n vc).ownBlock ≠ some O) (hb : Below D wr w') : PlI w0 D M K q n va vc vr vm Dm S X w' where
  sto := h.sto.agree ha (fun i _ e => by rw [e]; exact hx) (fun e => h1 e.symm) (fun g hg e => h3 (by rw [← e]; exact hg))
  map := h.map.agree ha (fun i _ e => by rw [e]; exact hx) (fun e => h2 e.symm) (fun _ _ h => h) h.map.xm
  nm := h.nm
  md := h.md
  sch := h.sch.to ha (fun i _ e => by rw [e]; exact hx) (fun _ _ h => h)
  wf := h.wf
  bel := h.bel.trans hb
theorem PlI.mapped {w0 : World} {D M K q n : Nat} {va : Option Addr} {vc : Nat} {vr vm : List DV} {Dm : DataW Value} {S : World → Prop} {X : Nat → Prop} {wr : World} (h : PlI w0 D M K q n va vc vr vm Dm S X wr) {q' : Nat} {Dm' : DataW Value} {vm' : List DV} {w' : World} (hm : MapD X w' M q' Dm' vm') (hg : wr.grownBy w' (some M)) : PlI w0 D M K q' n va vc vr vm' Dm' S X w' where
  sto := h.sto.agree (agree_grown hg) (fun i _ e => by cases e; exact h.map.xm) (fun e => by cases e; exact Nat.lt_irrefl _ h.md) (fun g hg2 e => by cases e; exact h.nm hg2)
  map := hm
  nm := h.nm
  md := h.md
  sch := h.sch.to (agree_grown hg) (fun i _ e => by cases e; exact h.map.xm) (fun _ _ h => h)
  wf := h.wf
  bel := Below.grown h.bel hg (Nat.le_of_lt h.sto.ld) (fun k e => by cases e; exact Nat.le_of_lt h.md)
theorem PlI.next {w0 : World} {D M K q n : Nat} {va : Option Addr} {vc : Nat} {vr vm : List DV} {Dm : DataW Value} {S : World → Prop} {X : Nat → Prop} {wr : World} (h : PlI w0 D M K q n va vc vr vm Dm S X wr) : PlI w0 D M K (q + 1) n va vc vr vm Dm S X wr :=
  { h with map := { h.map with own := h.map.own.mono (Nat.le_succ _) } }
/-- Added, and put into the map. -/
theorem PlI.put_new {w0 : World} {D M K q n n' : Nat} {va : Option Addr} {vc : Nat} {vr : List DV} {Dm : DataW Value} {S : World → Prop} {X : Nat → Prop} {w2 w3 : World} {x : DV} {s : Value} {p : Nat} (h : PlI w0 D M K q n' va vc (vr.take p ++ [x] ++ vr.drop p) vr Dm S X w2) (hp : p ≤ vr.length) (hno : hasV vr x.1.i = false)
    (hown : w3.ownsMap Try.prog 3 heldR M (q + 1) (Dm.put (.int .i64 x.1.i) (.held (aggR x.1 s)))) (hg : w2.grownBy w3 (some M)) (hr : Free X w2 fun w => RdRow w s x.2) :
    PlI w0 D M K (q + 1) n' va vc (vr.take p ++ [x] ++ vr.drop p) (vr.take p ++ [x] ++ vr.drop p) (Dm.put (.int .i64 x.1.i) (.held (aggR x.1 s))) S X w3 :=
  h.mapped (h.map.puts (vr' := vr.take p ++ [x] ++ vr.drop p) hown hg (by rw [if_neg (by rw [hno]; decide), len_ins _ _ hp]) (hasV_ins vr p x) (fun y hy => (mem_ins hy).imp_right fun h1 => ⟨h1, hasV_false hno y h1⟩) (hr.to (agree_grown hg) (fun i _ e => by cases e; exact h.map.xm) (fun _ _ h => h))) hg
/-- Turned, and put into the map. -/
theorem PlI.put_old {w0 : World} {D M K q n : Nat} {va : Option Addr} {vc : Nat} {vr : List DV} {Dm : DataW Value} {S : World → Prop} {X : Nat → Prop} {w2 w3 : World} {x y : DV} {s : Value} {p : Nat} (h : PlI w0 D M K q n va vc (vr.set p y) vr Dm S X w2) (hri : Rise (VrS vr)) (hp : vr[p]? = some x) (he : y.1.i = x.1.i)
    (hown : w3.ownsMap Try.prog 3 heldR M (q + 1) (Dm.put (.int .i64 y.1.i) (.held (aggR y.1 s)))) (hg : w2.grownBy w3 (some M)) (hr : Free X w2 fun w => RdRow w s y.2) :
    PlI w0 D M K (q + 1) n va vc (vr.set p y) (vr.set p y) (Dm.put (.int .i64 y.1.i) (.held (aggR y.1 s))) S X w3 :=
  have hh : hasV vr y.1.i = true := by rw [he]; exact hasV_of (List.mem_of_getElem? hp)
  h.mapped (h.map.puts (vr' := vr.set p y) hown hg (by rw [if_pos hh, List.length_set]) (fun t => by
    rw [hasV_set vr p x y hp he]
    by_cases e : t = y.1.i
    · rw [e, hh, Bool.or_true]
    · rw [show (y.1.i == t) = false by rw [beq_eq_false_iff_ne]; exact Ne.symm e, Bool.false_or]) (fun z hz => mem_setD hri hp he hz) (hr.to (agree_grown hg) (fun i _ e => by cases e; exact h.map.xm) (fun _ _ h => h))) hg
/-- The same, at a key and a value that are told otherwise. -/
theorem PlI.put_old_t {w0 : World} {D M K q n : Nat} {va : Option Addr} {vc : Nat} {vr : List DV} {Dm : DataW Value} {S : World → Prop} {X : Nat → Prop} {w2 w3 : World} {x y : DV} {s v : Value} {r : List Vc} {k : Int} {p : Nat} (h : PlI w0 D M K q n va vc (vr.set p y) vr Dm S X w2) (hri : Rise (VrS vr)) (hp : vr[p]? = some x) (hk : x.1.i = k) (he : y.1.i = k) (hrr : y.2 = r) (hv : aggR y.1 s = v)
    (hown : w3.ownsMap Try.prog 3 heldR M (q + 1) (Dm.put (.int .i64 k) (.held v))) (hg : w2.grownBy w3 (some M)) (hr : Free X w2 fun w => RdRow w s r) :
    PlI w0 D M K (q + 1) n va vc (vr.set p y) (vr.set p y) (Dm.put (.int .i64 k) (.held v)) S X w3 := by
  subst hv
  subst hrr
  subst he
  exact h.put_old hri hp hk.symm hown hg hr
/-- Dropped, and deleted. -/
theorem PlI.cut {w0 : World} {D M K q n : Nat} {va : Option Addr} {vc : Nat} {vr : List DV} {Dm : DataW Value} {S : World → Prop} {X : Nat → Prop} {w2 w3 : World} {x : DV} {p : Nat} (h : PlI w0 D M K q n va vc (vr.take p ++ vr.drop (p + 1)) vr Dm S X w2) (hri : Rise (VrS vr)) (hp : vr[p]? = some x)
    (hown : w3.ownsMap Try.prog 3 heldR M q (Dm.del (.int .i64 x.1.i))) (hg : w2.grownBy w3 (some M)) :
    PlI w0 D M K (q + 1) n va vc (vr.take p ++ vr.drop (p + 1)) (vr.take p ++ vr.drop (p + 1)) (Dm.del (.int .i64 x.1.i)) S X w3 :=
  have hpl := (List.getElem?_eq_some_iff.1 hp).1
  (h.mapped (h.map.dels (vr' := vr.take p ++ vr.drop (p + 1)) hown hg (by rw [if_pos (hasV_of (List.mem_of_getElem? hp)), len_cutD _ _ hpl]; omega) (hasV_cut hri hp) (fun z hz => cut_ne hri hp hz)) hg).next
theorem PlI.cut_no {w0 : World} {D M K q n : Nat} {va : Option Addr} {vc : Nat} {vr : List DV} {Dm : DataW Value} {S : World → Prop} {X : Nat → Prop} {w2 w3 : World} {t : Int} (h : PlI w0 D M K q n va vc vr vr Dm S X w2) (hno : hasV vr t = false)
    (hown : w3.ownsMap Try.prog 3 heldR M q (Dm.del (.int .i64 t))) (hg : w2.grownBy w3 (some M)) : PlI w0 D M K (q + 1) n va vc vr vr (Dm.del (.int .i64 t)) S X w3 :=
  (h.mapped (h.map.dels (vr' := vr) hown hg (by rw [if_neg (by rw [hno]; decide)]; rfl) (fun k => by
    by_cases e : k = t
    · rw [e, hno, Bool.and_false]
    · rw [show (k == t) = false by rw [beq_eq_false_iff_ne]; exact e]; rfl) (fun z hz => ⟨hz, hasV_false hno z hz⟩)) hg).next

/-- What Get and the map tell of one ID, be it there or not. -/
def ZV : Value := .agg #[.int .i64 0, .slice none 0 0, .int .i64 0, .int .i64 0, .int .i64 0, .int .i64 0]
theorem PlI.looks {w0 : World} {D M K q n : Nat} {va : Option Addr} {vc : Nat} {vr : List DV} {Dm : DataW Value} {S : World → Prop} {X : Nat → Prop} {wr : World} (h : PlI w0 D M K q n va vc vr vr Dm S X wr) (t : Int) : ∃ (i0 s1 s2 s3 s4 : Int) (r : List Vc) (oa : Option Addr) (om oc : Nat), RowOk r ∧
    (Calls Try.prog 40 #[.pointer (some ⟨D, 0, none⟩), .int .i64 t] wr fun e w' => ∃ (na : Option Addr) (nn nc : Nat), e = .returned (.tuple #[.agg #[.int .i64 i0, .slice na nn nc, .int .i64 s1, .int .i64 s2, .int .i64 s3, .int .i64 s4], .bool (hasV vr t)]) ∧ RdRow w' (.slice na nn nc) r ∧ Below wr.heap.size wr w') ∧
    Dm.atKey (.int .i64 t) (.held ZV) = .held (.agg #[.int .i64 i0, .slice oa om oc, .int .i64 s1, .int .i64 s2, .int .i64 s3, .int .i64 s4]) ∧ Free X wr (fun w => RdRow w (.slice oa om oc) r) ∧ (hasV vr t = true → i0 = t ∧ ∃ (p : Nat) (x : DV), vr[p]? = some x ∧ x.1.i = t ∧ x.2 = r ∧ x.1.s1 = s1 ∧ x.1.s2 = s2 ∧ x.1.s3 = s3 ∧ x.1.s4 = s4) := by
  cases hh : hasV vr t with
  | false =>
    refine ⟨0, 0, 0, 0, 0, [], none, 0, 0, ⟨Nat.zero_le _, fun v hv => by cases hv⟩, ?_, h.map.at_no hh _, fun w' _ => ⟨[], rfl, RdS.nil w' 4, fun t ht => by cases ht⟩, fun e => by cases e⟩
    refine (dget_not h.sto t hh).mono ?_
    rintro e w' ⟨rfl, hb⟩
    exact ⟨none, 0, 0, rfl, ⟨[], rfl, RdS.nil w' 4, fun t ht => by cases ht⟩, hb⟩
  | true =>
    obtain ⟨p, x, hp, hx⟩ := hasV_true hh
    have hmem := List.mem_of_getElem? hp
    obtain ⟨s, h1, h2⟩ := h.map.el x hmem
    obtain ⟨oa, oc, hs⟩ := rdRow_shape h2.now
    subst hs
    refine ⟨x.1.i, x.1.s1, x.1.s2, x.1.s3, x.1.s4, x.2, oa, x.2.length, oc, h.sto.ok x hmem, ?_, ?_, h2, fun _ => ⟨hx, p, x, hp, hx, rfl, rfl, rfl, rfl, rfl⟩⟩
    · have h3 := dget_is h.sto p x hp
      rw [hx] at h3 ⊢
      exact h3
    · rw [← hx]; exact h1 _
theorem row_free {cols : List Co} {n : Int} {W w' : World} {u : Value} {l : List (Vc × Value)} (h1 : l.map Prod.fst = rowOf cols n) (h2 : OInv W l u w') (h4 : ∀ t ∈ l, FreshV W.heap.size t.2) (X : Nat → Prop) (hx : ∀ b, X b → b < W.heap.size) : Free X w' fun w => RdRow w u (rowOf cols n) := fun w2 ha => by
  refine ⟨l, h1, ?_⟩
  have hab := agree_above ha hx
  refine ⟨rdS_own (own_above h2.own hab (Nat.le_refl _)) (by rw [List.length_map]) (fun t ht => by obtain ⟨x, _, rfl⟩ := List.mem_map.1 ht; rfl), fun t ht => ⟨?_, (h2.ok t ht).2⟩⟩
  obtain ⟨ao, cap, hv, hn, hc⟩ := (h2.ok t ht).1
  refine ⟨ao, cap, hv, hn, fun hp => ?_⟩
  obtain ⟨b, off, e, hcell⟩ := hc hp
  refine ⟨b, off, e, fun i hi => ?_⟩
  exact above_cell hab (h4 t ht ⟨b, off, none⟩ _ _ (by rw [hv, e])) (hcell i hi)
theorem rowOf_ok (cols : List Co) (n : Int) (hl : cols.length ≤ 6) : RowOk (rowOf cols n) := ⟨by rw [rowOf_len]; omega, fun v hv => by
  obtain ⟨i, hi⟩ := List.getElem?_of_mem hv
  rw [rowOf_at] at hi
  obtain ⟨c, _, rfl⟩ := Option.map_eq_some_iff.1 hi
  unfold eltOf
  split
  · simp
  · have := valOf_len c (mixOf n i); omega⟩
theorem sixes {w' : World} {X : Nat} {a b c d e f : Value} {T : TypeId} (h : w'.heap[X]? = some (.cells #[a, b, c, d, e, f] T (0, 0))) : (w'.cell? ⟨X, 0, none⟩ = some a ∧ w'.cell? ⟨X, 1, none⟩ = some b ∧ w'.cell? ⟨X, 2, none⟩ = some c ∧ w'.cell? ⟨X, 3, none⟩ = some d ∧ w'.cell? ⟨X, 4, none⟩ = some e ∧ w'.cell? ⟨X, 5, none⟩ = some f) ∧ ∀ i, w'.frozen? ⟨X, i, none⟩ = false :=
  ⟨sx6 h, fun i => frozen_of_row w' X i _ _ h⟩

theorem ddrop_t {K : Nat} {X : Nat → Prop} {w : World} {D most n : Nat} {va : Option Addr} {vc : Nat} {vr : List DV} (h : StoD K X w D most n va vc vr) (p : Nat) (x : DV) (hp : vr[p]? = some x) {t : Int} (ht : x.1.i = t) :
    Calls Try.prog 39 #[.pointer (some ⟨D, 0, none⟩), .int .i64 t] w fun e w' => e = .returned (.bool true) ∧ StoD K X w' D most (n - 1) va vc (vr.take p ++ vr.drop (p + 1)) ∧ Agree (YD D (.slice va n vc)) w w' ∧ Below K w w' := by
  subst ht
  exact ddrop_any h p x hp
theorem dset_t {K : Nat} {X : Nat → Prop} {w : World} {D most n : Nat} {va : Option Addr} {vc : Nat} {vr : List DV} (h : StoD K X w D most n va vc vr) (p : Nat) (x : DV) (hp : vr[p]? = some x) {t : Int} (ht : x.1.i = t) (y1 y2 y3 y4 : Int) :
    Calls Try.prog 37 #[.pointer (some ⟨D, 0, none⟩), .int .i64 t, .agg #[.int .i64 y1, .int .i64 y2, .int .i64 y3, .int .i64 y4]] w fun e w' => e = .returned (.bool true) ∧ StoD K X w' D most n va vc (vr.set p ((⟨t, x.1.ra, x.1.rn, x.1.rc, y1, y2, y3, y4⟩ : Vr), x.2)) ∧ Agree (YD D (.slice va n vc)) w w' ∧ Below K w w' := by
  subst ht
  exact dset_any h p x hp y1 y2 y3 y4
theorem dput_t {K : Nat} {X : Nat → Prop} {w : World} {D most n : Nat} {va : Option Addr} {vc : Nat} {vr : List DV} (h : StoD K X w D most n va vc vr) (p : Nat) (x : DV) (hp : vr[p]? = some x) {t : Int} (ht : x.1.i = t) (ra : Option Addr) (rn rc : Nat) (r : List Vc) (hr : RdRow w (.slice ra rn rc) r) (hok : RowOk r) :
    Calls Try.prog 38 #[.pointer (some ⟨D, 0, none⟩), .int .i64 t, .slice ra rn rc] w fun e w' => e = .returned (.bool true) ∧ ∃ (na : Option Addr) (nn nc : Nat), StoD K X w' D most n va vc (vr.set p ((⟨t, na, nn, nc, x.1.s1, x.1.s2, x.1.s3, x.1.s4⟩ : Vr), r)) ∧ Agree (YD D (.slice va n vc)) w w' ∧ Below K w w' := by
  subst ht
  exact dput_any h p x hp ra rn rc r hr hok

end Go.Proofs.Ytnfjdoeemnhkbaa
