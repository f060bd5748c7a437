import Derived.Test.YtmpgnjhgegbdkaaGreatNtim
import Derived.Test.YtmpgnjhgegbdkaaGreatLseven
import Derived.Deep.RegionLaw
import Derived.Deep.CutBlock
import Derived.Deep.DeepCutAuto
set_option linter.unusedVariables false
set_option linter.unusedSimpArgs false
namespace Go.Proofs.YtmpgnjhgegbdkaaGreat
open Go.RowKit
open _root_.List renaming getElem?_eq_some_iff -> Qa, mem_singleton -> Qb, mem_cons_self -> Qc, getElem?_eq_getElem -> Qe, mem_append -> Qf, mem_cons_of_mem -> Qg
open _root_.Nat renaming le_refl -> Qd
theorem zOa {X : Nat -> Prop} {w w' : World} {cs : Array Value} {E : TypeId} {n : Nat} (h : Agree X (w.alloc (.cells cs E)) w') (hx : ∀ b, X b -> b < w.heap.size) (hn : n = cs.toList.length := by rfl) : Rd w' (.slice (some ⟨w.heap.size, 0, none⟩) n n) cs.toList := by
 subst hn
 refine ⟨some ⟨w.heap.size, 0, none⟩, cs.toList.length, rfl, ⟨(fun h => by cases h), Qd _⟩, fun _ => ⟨w.heap.size, 0, rfl, fun i hi => ?_⟩⟩
 have h1 : w'.heap[w.heap.size]? = some (.cells cs E (0, 0)) := (h.block w.heap.size (by simp) fun e => by have := hx _ e; omega).trans (heap_alloc_new w _)
 rw [cell_of_row w' w.heap.size _ _ _ _ h1, Nat.zero_add, List.getD_eq_getElem?_getD, Qe hi]
 rw [<- Array.getElem?_toList, Qe hi]
 rfl
theorem zWu {Y : Nat -> Prop} {wz : World} {cs : Array Value} {p' : Pt} (hY : ∀ b, Y b -> b < wz.heap.size) (h8 : cs.size = 8) (h : Free Y wz (fun w' => RdT1 w' p' cs.toList)) :
  RdNF Y ((wz.alloc (.cells cs 65)).alloc (.cells #[.slice (some ⟨wz.heap.size, 0, none⟩) 1 1] 63)) (.slice (some ⟨wz.heap.size + 1, 0, none⟩) 1 1) [[p']] := by
 have hsz : (wz.alloc (.cells cs 65)).heap.size = wz.heap.size + 1 := by simp
 refine ⟨[.slice (some ⟨wz.heap.size, 0, none⟩) 1 1], fun w' ha => ?_, rfl, fun i s l hs hl => ?_⟩
 ·have := zOa (w := wz.alloc (.cells cs 65)) (cs := #[.slice (some ⟨wz.heap.size, 0, none⟩) 1 1]) (E := 63) ha (fun b hb => by have := hY b hb; omega)
  rw [hsz] at this
  exact this
 ·match i, hs, hl with
  | i + 1, hs, hl => simp at hs
  | 0, hs, hl =>
   cases hs
   cases hl
   refine ⟨[cs.toList], fun w' ha => ⟨?_, ?_⟩⟩
   ·have h1 : w'.heap[wz.heap.size]? = some (.cells cs 65 (0, 0)) := (ha.block wz.heap.size (by simp; omega) fun e => by have := hY _ e; omega).trans ((heap_alloc_old _ _ (by rw [hsz]; omega)).trans (heap_alloc_new wz _))
    refine ⟨some ⟨wz.heap.size, 0, none⟩, 1, rfl, ⟨(fun h => by cases h), Qd _⟩, fun k t ht => ⟨wz.heap.size, 0, rfl, fun j u hu => ?_⟩⟩
    have hk : k = 0 := by have := (Qa.1 ht).1; simp at this; omega
    subst hk
    simp only [List.getElem?_cons_zero, Option.some.injEq] at ht
    subst ht
    rw [cell_of_row w' wz.heap.size _ _ _ _ h1]
    simpa using hu
   ·unfold RdTs
    exact ⟨h w' (((zBs Y wz _).alloc _).trans ha), by unfold RdTs; trivial⟩
theorem results_cell_tmp {P : Program} {fn : Func} {p q : Tmp} {ty : TypeId} (h : fn.results = #[.cell p ty, .tmp q]) (tmps : Array Value) (w : World) (g : Nat) (t : TypeId) (cs : Array Value) (fr : Nat × Nat) (d : TypeDesc) (v : Value)
  (hp : tmps.getD p undef = .pointer (some ⟨g, 0, none⟩)) (hq : tmps.getD q undef = v) (hg : w.heap[g]? = some (.cells cs t fr))
  (hu : P.underlying ty = some d) (hd : (match d with | .struct _ | .array _ _ => true | _ => false) = true) (hi : (P.info? ty).map (·.size) = some cs.size) :
  (results fn tmps).run P w = .ok (.tuple #[.agg cs, v]) w := by
 have hp' : tmps[p]?.getD undef = .pointer (some ⟨g, 0, none⟩) := by simpa using hp
 have hq' : tmps[q]?.getD undef = v := by simpa using hq
 simp [results, h, hp', hq', asAddr, run_loadVar_row w g t ty cs fr d hg hu hd hi]
def LeafN (D C : Nat) (t : Pt) : Prop := depT t <= D + 1 ∧ cntT t <= C + 1
theorem zQ1 {Q : Pt -> Prop} {a b o : List (List Pt)} (ha : ∀ x ∈ a, ∀ t ∈ x, Q t) (hb : ∀ x ∈ b, ∀ t ∈ x, Q t) (h : timesN a b = some o) : ∀ x ∈ o, ∀ t ∈ x, Q t := by
 unfold timesN at h
 split at h
 ·cases h
 ·split at h
  ·cases h
   intro x hx t ht
   unfold prodL at hx
   obtain ⟨y, hy, hx⟩ := List.mem_flatMap.1 hx
   obtain ⟨z, hz, rfl⟩ := List.mem_map.1 hx
   rcases Qf.1 ht with h1 | h1
   ·exact ha y hy t h1
   ·exact hb z hz t h1
  ·cases h
def OfLeaf (R Q : Pt -> Prop) : Prop := (∀ c o v l, R (.mk 2 c o v l) -> ∀ o', o' = o ∨ o' = opN o -> Q (.mk 2 c o' v l)) ∧ (∀ c o v l, R (.mk 3 c o v l) -> Q (.mk 3 c o v l) ∧ Q (.mk 6 0 0 zeroV [.mk 3 c o v l]))
mutual
theorem zJj {R Q : Pt -> Prop} (hq : OfLeaf R Q) (hr : ∀ k c o v l, k = 4 ∨ k = 5 ∨ k = 6 -> R (.mk k c o v l) -> ∀ q ∈ l, R q) : ∀ (p : Pt) (nt : Bool) {a : List (List Pt)}, R p -> nrm p nt = some a -> ∀ x ∈ a, ∀ t ∈ x, Q t
 | .mk k c o v l, nt, a, hp, h => by
  unfold nrm at h
  split at h
  ·cases h; cases nt <;> simp
  ·split at h
   ·rename_i hk
    subst hk
    cases h
    intro x hx t ht
    rw [Qb.1 hx] at ht
    rw [Qb.1 ht]
    exact hq.1 c o v l hp _ (by cases nt <;> simp)
   ·split at h
    ·rename_i hk
     subst hk
     cases h
     intro x hx t ht
     rw [Qb.1 hx] at ht
     rw [Qb.1 ht]
     have := hq.2 c o v l hp
     cases nt
     ·exact this.1
     ·exact this.2
    ·split at h
     ·rename_i hk
      exact zQ2 hq hr l nt (hr k c o v l (.inr (.inr hk)) hp) h
     ·split at h
      ·rename_i hk
       split at h
       ·exact zMi hq hr l nt [[]] (hr k c o v l (hk.elim .inl fun h => .inr (.inl h)) hp) (by simp) h
       ·exact zOb hq hr l nt [] (hr k c o v l (hk.elim .inl fun h => .inr (.inl h)) hp) (by simp) h
      ·cases h
theorem zQ2 {R Q : Pt -> Prop} (hq : OfLeaf R Q) (hr : ∀ k c o v l, k = 4 ∨ k = 5 ∨ k = 6 -> R (.mk k c o v l) -> ∀ q ∈ l, R q) : ∀ (l : List Pt) (nt : Bool) {a : List (List Pt)}, (∀ q ∈ l, R q) -> nrmOne l nt = some a -> ∀ x ∈ a, ∀ t ∈ x, Q t
 | [], nt, a, hp, h => by unfold nrmOne at h; cases h
 | q :: r, nt, a, hp, h => by
  unfold nrmOne at h
  split at h
  ·exact zJj hq hr q _ (hp q Qc) h
  ·cases h
theorem zOb {R Q : Pt -> Prop} (hq : OfLeaf R Q) (hr : ∀ k c o v l, k = 4 ∨ k = 5 ∨ k = 6 -> R (.mk k c o v l) -> ∀ q ∈ l, R q) : ∀ (l : List Pt) (nt : Bool) (out : List (List Pt)) {a : List (List Pt)}, (∀ q ∈ l, R q) -> (∀ x ∈ out, ∀ t ∈ x, Q t) -> sumN l nt out = some a -> ∀ x ∈ a, ∀ t ∈ x, Q t
 | [], nt, out, a, hp, ho, h => by unfold sumN at h; cases h; exact ho
 | q :: r, nt, out, a, hp, ho, h => by
  unfold sumN at h
  split at h
  ·cases h
  ·rename_i m hm
   split at h
   ·cases h
   ·have hs := zJj hq hr q nt (hp q Qc) hm
    refine zOb hq hr r nt (out ++ m) (fun q hq => hp q (Qg _ hq)) (fun x hx => ?_) h
    rcases Qf.1 hx with h1 | h1
    ·exact ho x h1
    ·exact hs x h1
theorem zMi {R Q : Pt -> Prop} (hq : OfLeaf R Q) (hr : ∀ k c o v l, k = 4 ∨ k = 5 ∨ k = 6 -> R (.mk k c o v l) -> ∀ q ∈ l, R q) : ∀ (l : List Pt) (nt : Bool) (out : List (List Pt)) {a : List (List Pt)}, (∀ q ∈ l, R q) -> (∀ x ∈ out, ∀ t ∈ x, Q t) -> prodN l nt out = some a -> ∀ x ∈ a, ∀ t ∈ x, Q t
 | [], nt, out, a, hp, ho, h => by unfold prodN at h; cases h; exact ho
 | q :: r, nt, out, a, hp, ho, h => by
  unfold prodN at h
  split at h
  ·cases h
  ·rename_i m hm
   split at h
   ·cases h
   ·rename_i o2 ho2
    exact zMi hq hr r nt o2 (fun q hq => hp q (Qg _ hq)) (zQ1 ho (zJj hq hr q nt (hp q Qc) hm) ho2) h
end
def RetP (w : World) (r : Option Pt) (e : Ending) (w' : World) : Prop := match r with
 | none => e = .returned (.tuple #[.agg #[.int .i64 0, .int .i64 0, .int .i64 0, .bool false, .int .i64 0, .int .i64 0, .slice none 0 0, .slice none 0 0], .bool false])
 | some q => ∃ cs', e = .returned (.tuple #[.agg cs'.toArray, .bool true]) ∧ RdA1 w.heap.size w' q cs'
def idxT {α : Type} (f : α -> Bool) (l : List α) : Int := match l.findIdx? f with
 | some i => (i : Int)
 | none => -1
theorem zQ3 {α : Type} {f : α -> Bool} {l : List α} {q : Nat} {x : α} (h : l[q]? = some x) (hx : f x = true) (hn : ∀ y ∈ l.take q, f y = false) : idxT f l = (q : Int) := by
 have e : l = l.take q ++ x :: l.drop (q + 1) := by
  have hlt := (Qa.1 h).1
  rw [<- (Qa.1 h).2]
  rw [<- List.drop_eq_getElem_cons hlt, List.take_append_drop]
 unfold idxT
 have hfi : l.findIdx? f = some q := by
  have hlt := (Qa.1 h).1
  rw [List.findIdx?_eq_some_iff_getElem]
  refine ⟨hlt, by rw [(Qa.1 h).2]; exact hx, fun j hj => ?_⟩
  have := hn l[j] (List.mem_iff_getElem.2 ⟨j, by rw [List.length_take]; omega, by rw [List.getElem_take]⟩)
  simp [this]
 rw [hfi]
theorem zSt {α : Type} {f : α -> Bool} {l : List α} (hn : ∀ y ∈ l, f y = false) : idxT f l = -1 := by
 unfold idxT
 have : l.findIdx? f = none := by
  rw [List.findIdx?_eq_none_iff]
  exact hn
 rw [this]
theorem zQ4 {K : Nat} {w : World} {k c o : Int} {v : Vc} {l : List Pt} {cs : List Value} (h : RdA1 K w (.mk k c o v l) cs) : ∃ sa sc ea css ec, cs = cellsP k c o v (.slice sa v.b.length sc) (.slice ea l.length ec) ∧ RdSK K w 8 (.slice ea l.length ec) css ∧ RdAs K w l css := by
 unfold RdA1 at h
 obtain ⟨s, ls, css, rfl, h1, h2, h3⟩ := h
 obtain ⟨sa, sc, rfl⟩ := zA6 h1.1
 obtain ⟨ea, ec, rfl⟩ := zAk h2.rd
 have hl := zJ5 h3
 rw [hl] at h2
 exact ⟨sa, sc, ea, css, ec, by rw [hl], h2, h3⟩
end Go.Proofs.YtmpgnjhgegbdkaaGreat
