import Derived.Test.YtmpgnjhgegbdkaaGreatLseven
import Derived.Lib.AppendZeros
import Derived.Test.YtmpgnjhgegbdkaaGreatRowops
set_option linter.unusedVariables false
set_option linter.unusedSimpArgs false
namespace Go.Proofs.YtmpgnjhgegbdkaaGreat
open _root_.List renaming length_append -> Qa, all_eq_true -> Qb, getElem?_eq_getElem -> Qc
def opN (o : Int) : Int := if o = 1 then 2 else if o = 2 then 1 else if o = 3 then 6 else if o = 6 then 3 else if o = 4 then 5 else if o = 5 then 4 else o
def prodL (a b : List (List Pt)) : List (List Pt) := a.flatMap fun x => b.map fun y => x ++ y
def fitsB (x : List Pt) (b : List (List Pt)) : Bool := b.all fun y => decide (x.length + y.length <= 32)
def timesN (a b : List (List Pt)) : Option (List (List Pt)) := if 32 < a.length * b.length then none else if a.all (fun x => fitsB x b) = true then some (prodL a b) else none
mutual
def nrm : Pt -> Bool -> Option (List (List Pt))
 | .mk k c o v l, nt =>
  if k = 1 then some (if nt then [] else [[]])
  else if k = 2 then some [[.mk 2 c (if nt then opN o else o) v l]]
  else if k = 3 then some [[if nt then .mk 6 0 0 zeroV [.mk 3 c o v l] else .mk 3 c o v l]]
  else if k = 6 then nrmOne l nt
  else if k = 4 ∨ k = 5 then (if (decide (k = 4) != nt) = true then prodN l nt [[]] else sumN l nt [])
  else none
def nrmOne : List Pt -> Bool -> Option (List (List Pt))
 | [], _ => none
 | q :: r, nt => match r with
  | [] => nrm q (!nt)
  | _ :: _ => none
def sumN : List Pt -> Bool -> List (List Pt) -> Option (List (List Pt))
 | [], _, out => some out
 | q :: r, nt, out => match nrm q nt with
  | none => none
  | some m => if 32 < out.length + m.length then none else sumN r nt (out ++ m)
def prodN : List Pt -> Bool -> List (List Pt) -> Option (List (List Pt))
 | [], _, out => some out
 | q :: r, nt, out => match nrm q nt with
  | none => none
  | some m => match timesN out m with
   | none => none
   | some o2 => prodN r nt o2
end
mutual
def nodesT : Pt -> Nat
 | .mk _ _ _ _ l => nodesL l + 1
def nodesL : List Pt -> Nat
 | [] => 0
 | q :: r => nodesT q + nodesL r
end
def SmallN (a : List (List Pt)) : Prop := a.length <= 32 ∧ ∀ x ∈ a, x.length <= 32
theorem zSs (a b : List (List Pt)) : (prodL a b).length = a.length * b.length := by
 unfold prodL
 induction a with
 | nil => simp
 | cons x r ih => rw [List.flatMap_cons, Qa, List.length_map, ih, List.length_cons, Nat.add_mul]; omega
theorem zN6 {a b o : List (List Pt)} (h : timesN a b = some o) : SmallN o := by
 unfold timesN at h
 split at h
 ·cases h
 ·rename_i h1
  split at h
  ·rename_i h2
   cases h
   refine ⟨by rw [zSs]; omega, fun x hx => ?_⟩
   unfold prodL at hx
   obtain ⟨y, hy, hx⟩ := List.mem_flatMap.1 hx
   obtain ⟨z, hz, rfl⟩ := List.mem_map.1 hx
   rw [Qb] at h2
   have := h2 y hy
   unfold fitsB at this
   rw [Qb] at this
   have := of_decide_eq_true (this z hz)
   rw [Qa]
   exact this
  ·cases h
mutual
theorem zI0 : ∀ (p : Pt) (nt : Bool) {a : List (List Pt)}, nrm p nt = some a -> SmallN a
 | .mk k c o v l, nt, a, h => by
  unfold nrm at h
  split at h
  ·cases h; cases nt <;> simp [SmallN]
  ·split at h
   ·cases h; simp [SmallN]
   ·split at h
    ·cases h; simp [SmallN]
    ·split at h
     ·exact zN7 l nt h
     ·split at h
      ·split at h
       ·exact zJu l nt [[]] (by simp [SmallN]) h
       ·exact zK5 l nt [] (by simp [SmallN]) h
      ·cases h
theorem zN7 : ∀ (l : List Pt) (nt : Bool) {a : List (List Pt)}, nrmOne l nt = some a -> SmallN a
 | [], nt, a, h => by unfold nrmOne at h; cases h
 | q :: r, nt, a, h => by
  unfold nrmOne at h
  split at h
  ·exact zI0 q _ h
  ·cases h
theorem zK5 : ∀ (l : List Pt) (nt : Bool) (out : List (List Pt)) {a : List (List Pt)}, SmallN out -> sumN l nt out = some a -> SmallN a
 | [], nt, out, a, ho, h => by unfold sumN at h; cases h; exact ho
 | q :: r, nt, out, a, ho, h => by
  unfold sumN at h
  split at h
  ·cases h
  ·rename_i m hm
   split at h
   ·cases h
   ·rename_i hl
    have hs := zI0 q nt hm
    refine zK5 r nt (out ++ m) ⟨by rw [Qa]; omega, fun x hx => ?_⟩ h
    rcases List.mem_append.1 hx with h1 | h1
    ·exact ho.2 x h1
    ·exact hs.2 x h1
theorem zJu : ∀ (l : List Pt) (nt : Bool) (out : List (List Pt)) {a : List (List Pt)}, SmallN out -> prodN l nt out = some a -> SmallN a
 | [], nt, out, a, ho, h => by unfold prodN at h; cases h; exact ho
 | q :: r, nt, out, a, ho, h => by
  unfold prodN at h
  split at h
  ·cases h
  ·split at h
   ·cases h
   ·rename_i o2 ho2
    exact zJu r nt o2 (zN6 ho2) h
end
def normT (p : Pt) : Option Pt := (nrm p false).map fun a => .mk 5 0 0 zeroV (a.map fun x => .mk 4 0 0 zeroV x)
open Go.RowKit
mutual
def RdT1F (X : Nat -> Prop) (w : World) : Pt -> List Value -> Prop
 | .mk k c o v l, cs => ∃ s ls css, cs = cellsP k c o v s ls ∧ Free X w (fun w' => OkV w' (v, s)) ∧ Free X w (fun w' => RdS w' 8 ls css) ∧ RdTsF X w l css
def RdTsF (X : Nat -> Prop) (w : World) : List Pt -> List (List Value) -> Prop
 | [], [] => True
 | q :: r, cs :: t => RdT1F X w q cs ∧ RdTsF X w r t
 | [], _ :: _ => False
 | _ :: _, [] => False
end
mutual
theorem RdT1F.to {X Y Z : Nat -> Prop} {w w' : World} (ha : Agree Z w w') (hz : ∀ i, i < w.heap.size -> Z i -> X i) (hy : ∀ i, i < w.heap.size -> Y i -> X i) : ∀ (p : Pt) {cs : List Value}, RdT1F X w p cs -> RdT1F Y w' p cs
 | .mk k c o v l, cs, h => by
  unfold RdT1F at h ⊢
  obtain ⟨s, ls, css, h1, h2, h3, h4⟩ := h
  exact ⟨s, ls, css, h1, h2.to ha hz hy, h3.to ha hz hy, RdTsF.to ha hz hy l h4⟩
theorem RdTsF.to {X Y Z : Nat -> Prop} {w w' : World} (ha : Agree Z w w') (hz : ∀ i, i < w.heap.size -> Z i -> X i) (hy : ∀ i, i < w.heap.size -> Y i -> X i) : ∀ (l : List Pt) {css : List (List Value)}, RdTsF X w l css -> RdTsF Y w' l css
 | [], [], _ => by unfold RdTsF; trivial
 | q :: r, cs :: t, h => by
  unfold RdTsF at h ⊢
  exact ⟨RdT1F.to ha hz hy q h.1, RdTsF.to ha hz hy r h.2⟩
 | [], _ :: _, h => by unfold RdTsF at h; exact h.elim
 | _ :: _, [], h => by unfold RdTsF at h; exact h.elim
end
mutual
theorem RdT1F.free {X : Nat -> Prop} {w : World} : ∀ (p : Pt) {cs : List Value}, RdT1F X w p cs -> Free X w (fun w' => RdT1 w' p cs)
 | .mk k c o v l, cs, h => by
  unfold RdT1F at h
  obtain ⟨s, ls, css, h1, h2, h3, h4⟩ := h
  intro w' ha
  unfold RdT1
  exact ⟨s, ls, css, h1, h2 w' ha, h3 w' ha, RdTsF.free l h4 w' ha⟩
theorem RdTsF.free {X : Nat -> Prop} {w : World} : ∀ (l : List Pt) {css : List (List Value)}, RdTsF X w l css -> Free X w (fun w' => RdTs w' l css)
 | [], [], _ => fun w' _ => by unfold RdTs; trivial
 | q :: r, cs :: t, h => fun w' ha => by
  unfold RdTsF at h
  unfold RdTs
  exact ⟨RdT1F.free q h.1 w' ha, RdTsF.free r h.2 w' ha⟩
 | [], _ :: _, h => by unfold RdTsF at h; exact h.elim
 | _ :: _, [], h => by unfold RdTsF at h; exact h.elim
end
mutual
theorem zN8 {w : World} : ∀ (p : Pt) {cs : List Value}, RdT1 w p cs -> RdT1F (fun b => w.heap.size <= b) w p cs
 | .mk k c o v l, cs, h => by
  unfold RdT1 at h
  unfold RdT1F
  obtain ⟨s, ls, css, h1, h2, h3, h4⟩ := h
  exact ⟨s, ls, css, h1, zMe fun _ hb => h2.kept hb, zMe fun _ hb => h3.kept hb, zN9 l h4⟩
theorem zN9 {w : World} : ∀ (l : List Pt) {css : List (List Value)}, RdTs w l css -> RdTsF (fun b => w.heap.size <= b) w l css
 | [], [], _ => by unfold RdTsF; trivial
 | q :: r, cs :: t, h => by
  unfold RdTs at h
  unfold RdTsF
  exact ⟨zN8 q h.1, zN9 r h.2⟩
 | [], _ :: _, h => by unfold RdTs at h; exact h.elim
 | _ :: _, [], h => by unfold RdTs at h; exact h.elim
end
theorem RdT1F.now {X : Nat -> Prop} {w : World} {p : Pt} {cs : List Value} (h : RdT1F X w p cs) : RdT1 w p cs := (RdT1F.free p h).now
theorem RdTsF.now {X : Nat -> Prop} {w : World} {l : List Pt} {css : List (List Value)} (h : RdTsF X w l css) : RdTs w l css := (RdTsF.free l h).now
theorem RdTsF.at {X : Nat -> Prop} {w : World} : ∀ {l : List Pt} {css : List (List Value)}, RdTsF X w l css -> ∀ {k : Nat} {q : Pt}, l[k]? = some q -> ∃ cs, css[k]? = some cs ∧ RdT1F X w q cs
 | [], [], _, k, q, hk => by simp at hk
 | p :: r, cs :: t, h, 0, q, hk => by
  unfold RdTsF at h
  simp only [List.getElem?_cons_zero, Option.some.injEq] at hk
  subst hk
  exact ⟨cs, rfl, h.1⟩
 | p :: r, cs :: t, h, k + 1, q, hk => by
  unfold RdTsF at h
  rw [List.getElem?_cons_succ] at hk ⊢
  exact RdTsF.at h.2 hk
 | [], _ :: _, h, _, _, _ => by unfold RdTsF at h; exact h.elim
 | _ :: _, [], h, _, _, _ => by unfold RdTsF at h; exact h.elim
def RdLF (X : Nat -> Prop) (w : World) (s : Value) (l : List Pt) : Prop := ∃ css, Free X w (fun w' => RdS w' 8 s css ∧ RdTs w' l css)
def RdNF (X : Nat -> Prop) (w : World) (v : Value) (a : List (List Pt)) : Prop :=
 ∃ sls, Free X w (fun w' => Rd w' v sls) ∧ sls.length = a.length ∧ ∀ (i : Nat) (s : Value) (l : List Pt), sls[i]? = some s -> a[i]? = some l -> RdLF X w s l
theorem RdLF.to {X Y Z : Nat -> Prop} {w w' : World} {s : Value} {l : List Pt} (h : RdLF X w s l) (ha : Agree Z w w') (hz : ∀ i, i < w.heap.size -> Z i -> X i) (hy : ∀ i, i < w.heap.size -> Y i -> X i) : RdLF Y w' s l := by
 obtain ⟨css, h⟩ := h
 exact ⟨css, h.to ha hz hy⟩
theorem RdLF.mono {X Y : Nat -> Prop} {w : World} {s : Value} {l : List Pt} (h : RdLF X w s l) (hy : ∀ i, i < w.heap.size -> Y i -> X i) : RdLF Y w s l := by
 obtain ⟨css, h⟩ := h
 exact ⟨css, h.mono hy⟩
theorem RdNF.to {X Y Z : Nat -> Prop} {w w' : World} {v : Value} {a : List (List Pt)} (h : RdNF X w v a) (ha : Agree Z w w') (hz : ∀ i, i < w.heap.size -> Z i -> X i) (hy : ∀ i, i < w.heap.size -> Y i -> X i) : RdNF Y w' v a := by
 obtain ⟨sls, h1, h2, h3⟩ := h
 exact ⟨sls, h1.to ha hz hy, h2, fun i s l hs hl => (h3 i s l hs hl).to ha hz hy⟩
theorem RdNF.mono {X Y : Nat -> Prop} {w : World} {v : Value} {a : List (List Pt)} (h : RdNF X w v a) (hy : ∀ i, i < w.heap.size -> Y i -> X i) : RdNF Y w v a := by
 obtain ⟨sls, h1, h2, h3⟩ := h
 exact ⟨sls, h1.mono hy, h2, fun i s l hs hl => (h3 i s l hs hl).mono hy⟩
theorem zQz {X : Nat -> Prop} {w : World} {s : Value} {l : List Pt} (h : RdLF X w s l) : ∃ ao cap, s = .slice ao l.length cap := by
 obtain ⟨css, h⟩ := h
 obtain ⟨ao, cap, rfl⟩ := zAk h.now.1
 exact ⟨ao, cap, by rw [zBy h.now.2]⟩
theorem zQ0 {X : Nat -> Prop} {w : World} {v : Value} {a : List (List Pt)} (h : RdNF X w v a) : ∃ ao cap, v = .slice ao a.length cap := by
 obtain ⟨sls, h1, h2, _⟩ := h
 obtain ⟨ao, cap, hv, _⟩ := h1.now
 exact ⟨ao, cap, by rw [<- h2]; exact hv⟩
theorem RdNF.at {X : Nat -> Prop} {w : World} {ao : Option Addr} {n cap : Nat} {a : List (List Pt)} (h : RdNF X w (.slice ao n cap) a) {k : Nat} {l : List Pt} (hk : a[k]? = some l) :
  ∃ b off sa sc, ao = some ⟨b, off, none⟩ ∧ w.cell? ⟨b, off + k, none⟩ = some (.slice sa l.length sc) ∧ RdLF X w (.slice sa l.length sc) l := by
 obtain ⟨sls, h1, h2, h3⟩ := h
 obtain ⟨ao', cap', hv, _, hc⟩ := h1.now
 cases hv
 have hlt : k < sls.length := by rw [h2]; exact (List.getElem?_eq_some_iff.1 hk).1
 obtain ⟨b, off, rfl, hcell⟩ := hc (by omega)
 have h4 := h3 k _ l (Qc hlt) hk
 obtain ⟨sa, sc, h5⟩ := zQz h4
 refine ⟨b, off, sa, sc, rfl, ?_, h5 ▸ h4⟩
 rw [hcell k hlt, List.getD_eq_getElem?_getD, Qc hlt, <- h5]
 rfl
theorem RdTs.append {w : World} {l' : List Pt} {css' : List (List Value)} (k : RdTs w l' css') : ∀ {l : List Pt} {css : List (List Value)}, RdTs w l css -> RdTs w (l ++ l') (css ++ css')
 | [], [], _ => k
 | p :: r, c :: t, h => by
  unfold RdTs at h
  show RdTs w (p :: (r ++ l')) (c :: (t ++ css'))
  unfold RdTs
  exact ⟨h.1, RdTs.append k h.2⟩
 | [], _ :: _, h => by unfold RdTs at h; exact h.elim
 | _ :: _, [], h => by unfold RdTs at h; exact h.elim
def RetN (X : Nat -> Prop) (w : World) (r : Option (List (List Pt))) (e : Ending) (w' : World) : Prop :=
 match r with
 | none => e = .returned (.tuple #[.slice none 0 0, .bool false])
 | some o => ∃ v, e = .returned (.tuple #[v, .bool true]) ∧ RdNF (fun b => X b ∧ b < w.heap.size) w' v o
def OwnN (X : Nat -> Prop) (B : Nat) (w : World) (v : Value) (o : List (List Pt)) : Prop :=
 ∃ sls, w.ownsRow B 63 1 v o.length sls ∧ sls.length = o.length ∧ ∀ (i : Nat) (s : Value) (l : List Pt), sls[i]? = some s -> o[i]? = some l -> RdLF (fun b => (X b ∧ b < B) ∨ v.ownBlock = some b) w s l
theorem OwnN.rd {X : Nat -> Prop} {B : Nat} {w : World} {v : Value} {o : List (List Pt)} (h : OwnN X B w v o) : RdNF (fun b => X b ∧ b < B) w v o := by
 obtain ⟨sls, h1, h2, h3⟩ := h
 refine ⟨sls, fun w' ha => ?_, h2, fun i s l hs hl => (h3 i s l hs hl).mono fun b _ hb => .inl hb⟩
 refine Rd.of_owns (zAl h1 ha fun b hb hx => ?_)
 have := (h1.lt b hb).1
 omega
end Go.Proofs.YtmpgnjhgegbdkaaGreat
