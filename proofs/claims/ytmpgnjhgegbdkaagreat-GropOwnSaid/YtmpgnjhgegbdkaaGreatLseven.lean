import Derived.Test.YtmpgnjhgegbdkaaGreatLsix
import Derived.Deep.RegionHeld3
import Derived.BigRegion
import Derived.Deep.DeepCutAuto
set_option linter.unusedVariables false
set_option linter.unusedSimpArgs false
set_option maxHeartbeats 1000000
set_option maxRecDepth 100000
open Go.Lib (hid)
namespace Go.Proofs.YtmpgnjhgegbdkaaGreat
open Go.RowKit
open _root_.List renaming length_map -> Qa, getD_eq_getElem?_getD -> Qb, getElem?_eq_getElem -> Qc, getElem?_map -> Qe, length_cons -> Qh, length_eq_zero_iff -> Qi, take_append -> Qk, take_of_length_le -> Ql
open _root_.Nat renaming le_trans -> Qd, le_refl -> Qf
open _root_.Array renaming getElem?_eq_some_iff -> Qg
open Go.RowKit.Below renaming refl -> Qj
open Go renaming cell_of_row -> Qm, frozen_of_row -> Qn, heap_setCell_same -> Qo, heap_setCell_other -> Qp, heap_alloc_new -> Qq
inductive Pt where
 | mk (k c o : Int) (v : Vc) (l : List Pt)
def cellsP (k c o : Int) (v : Vc) (s ls : Value) : List Value := [.int .i64 k, .int .i64 c, .int .i64 o, .bool v.u, .int .i64 v.k, .int .i64 v.n, s, ls]
mutual
def RdT1 (w : World) : Pt -> List Value -> Prop
 | .mk k c o v l, cs => ∃ s ls css, cs = cellsP k c o v s ls ∧ OkV w (v, s) ∧ RdS w 8 ls css ∧ RdTs w l css
def RdTs (w : World) : List Pt -> List (List Value) -> Prop
 | [], [] => True
 | q :: r, cs :: t => RdT1 w q cs ∧ RdTs w r t
 | [], _ :: _ => False
 | _ :: _, [] => False
end
mutual
theorem RdT1.kept {w w' : World} (hb : Below w.heap.size w w') : ∀ (p : Pt) {cs : List Value}, RdT1 w p cs -> RdT1 w' p cs
 | .mk k c o v l, cs, h => by
  unfold RdT1 at h ⊢
  obtain ⟨s, ls, css, h1, h2, h3, h4⟩ := h
  exact ⟨s, ls, css, h1, h2.kept hb, h3.kept hb, RdTs.kept hb l h4⟩
theorem RdTs.kept {w w' : World} (hb : Below w.heap.size w w') : ∀ (l : List Pt) {css : List (List Value)}, RdTs w l css -> RdTs w' l css
 | [], [], _ => by unfold RdTs; trivial
 | q :: r, cs :: t, h => by
  unfold RdTs at h ⊢
  exact ⟨RdT1.kept hb q h.1, RdTs.kept hb r h.2⟩
 | [], _ :: _, h => by unfold RdTs at h; exact h.elim
 | _ :: _, [], h => by unfold RdTs at h; exact h.elim
end
theorem zK4 {w : World} : ∀ {l : List Pt} {css : List (List Value)}, RdTs w l css -> css.length = l.length
 | [], [], _ => rfl
 | q :: r, cs :: t, h => by unfold RdTs at h; rw [Qh, Qh, zK4 h.2]
 | [], _ :: _, h => by unfold RdTs at h; exact h.elim
 | _ :: _, [], h => by unfold RdTs at h; exact h.elim
def Above (K : Nat) (w w' : World) : Prop := ∀ b, K <= b -> b < w.heap.size -> w'.heap[b]? = w.heap[b]?
theorem Above.refl (K : Nat) (w : World) : Above K w w := fun _ _ _ => rfl
theorem Above.trans {K : Nat} {a b c : World} (h : Above K a b) (hs : a.heap.size <= b.heap.size) (k : Above K b c) : Above K a c := fun x h1 h2 => (k x h1 (Nat.lt_of_lt_of_le h2 hs)).trans (h x h1 h2)
theorem Above.mono {K K' : Nat} {w w' : World} (h : Above K w w') (hk : K <= K') : Above K' w w' := fun x h1 h2 => h x (Qd hk h1) h2
theorem zFm {K : Nat} {w w' : World} (h : Below w.heap.size w w') : Above K w w' := fun x _ h2 => h.block x h2
theorem zGa {K b i : Nat} {w w' : World} {u : Value} (h : Above K w w') (hb : K <= b) (hc : w.cell? ⟨b, i, none⟩ = some u) : w'.cell? ⟨b, i, none⟩ = some u := by
 have hlt := World.block_lt_of_cell? w _ hc
 have := h b hb hlt
 rw [<- hc]
 simp only [World.cell?, this]
def RdB (K : Nat) (w : World) (s : Value) (bs : List Nat) : Prop := ∃ ao cap, s = .slice ao bs.length cap ∧ ((ao = none -> cap = 0) ∧ bs.length <= cap) ∧ (0 < bs.length -> ∃ b off, ao = some ⟨b, off, none⟩ ∧ K <= b ∧ ∀ i, i < bs.length -> w.cell? ⟨b, off + i, none⟩ = some (u8v (bs.getD i 0)))
theorem RdB.rd {K : Nat} {w w' : World} {s : Value} {bs : List Nat} (h : RdB K w s bs) (ha : Above K w w') : Rd w' s (bs.map u8v) := by
 obtain ⟨ao, cap, hv, hn, hc⟩ := h
 refine ⟨ao, cap, by rw [Qa]; exact hv, by rw [Qa]; exact hn, fun hp => ?_⟩
 rw [Qa] at hp
 obtain ⟨b, off, h1, h2, h3⟩ := hc hp
 refine ⟨b, off, h1, fun i hi => ?_⟩
 rw [Qa] at hi
 rw [zGa ha h2 (h3 i hi), Qb, Qb, Qe, Qc hi]
 rfl
theorem RdB.above {K K0 : Nat} {w w' : World} {s : Value} {bs : List Nat} (h : RdB K w s bs) (ha : Above K w w') (hk : K0 <= K) : RdB K0 w' s bs := by
 obtain ⟨ao, cap, hv, hn, hc⟩ := h
 refine ⟨ao, cap, hv, hn, fun hp => ?_⟩
 obtain ⟨b, off, h1, h2, h3⟩ := hc hp
 exact ⟨b, off, h1, Qd hk h2, fun i hi => zGa ha h2 (h3 i hi)⟩
theorem zDb {K : Nat} {w : World} {s : Value} {bs : List Nat} (h : RdB K w s bs) : ∃ ao cap, s = .slice ao bs.length cap := by
 obtain ⟨ao, cap, hv, _⟩ := h
 exact ⟨ao, cap, hv⟩
theorem zCn {K : Nat} {w w1 : World} (h : Above K w w1) (a : Addr) (v : Value) (ha : a.block < K) : Above K w (w1.setCell a v) := fun x h1 h2 => by
 rw [Qp w1 a x v (by omega)]
 exact h x h1 h2
theorem zSw : (Tryz.prog.info? 5).map (fun i => (i.zero, i.size, i.bytes)) = some (some (.int .u8 0), 1, 1) := by kernel_rfl
theorem zQs {w : World} {ao : Option Addr} {len cap : Nat} {bs : List Nat} (h : Rd w (.slice ao len cap) (bs.map u8v)) :
  len = bs.length ∧ (0 < len -> ∃ b off, ao = some ⟨b, off, none⟩ ∧ ∀ i, i < len -> w.cell? ⟨b, off + i, none⟩ = some (.int .u8 (bs.getD i 0 : Nat))) := by
 obtain ⟨ao', cap', hv, _, hc⟩ := h
 simp only [Qa, Value.slice.injEq] at hv hc
 obtain ⟨rfl, hl, rfl⟩ := hv
 refine ⟨hl, fun hp => ?_⟩
 obtain ⟨b, off, ha, hcell⟩ := hc (by omega)
 refine ⟨b, off, ha, fun i hi => ?_⟩
 have := hcell i (by omega)
 rw [this, Qb, Qe, Qb, Qc (show i < bs.length by omega)]
 rfl
theorem zM4 {w : World} {B : Nat} {E : TypeId} {v : Value} {n : Nat} {bs : List Nat} (h : w.ownsRow B E 1 v n (bs.map u8v)) : RdB B w v bs := by
 have hl : bs.length = n := by simpa using h.1
 rcases h.2 with ⟨rfl, rfl⟩ | ⟨g, cap, cur, rfl, hbg, hh, r⟩
 ·have : bs = [] := Qi.1 hl
  subst this
  exact ⟨none, 0, rfl, ⟨fun _ => rfl, by simp⟩, fun h => absurd h (by simp)⟩
 ·refine ⟨some ⟨g, 0, none⟩, cap, by rw [hl], ⟨(fun h => by cases h), by rw [hl]; exact r.1⟩, fun _ => ⟨g, 0, rfl, hbg, fun i hi => ?_⟩⟩
  have := h.cellAt i (by omega)
  rw [Nat.zero_add, this, Qe, Qc hi, Qb, Qc hi]; rfl
theorem zR9 (v : Value) (bs : List Nat) (w : World) (hr : Rd w v (bs.map u8v)) (hbig : bs.length <= 140737488355328) :
  Calls Tryz.prog 77 #[v] w fun e w' => ∃ s, e = .returned s ∧ RdB w.heap.size w' s bs ∧ Below w.heap.size w w' := by
 have q22 : ∀ (w : World) (a : Option Addr) (n c n' c' : Nat), (binOp .eql 29 (.slice a n c) (.slice none n' c')).run Tryz.prog w = .ok (.bool a.isNone) w := fun w a n c n' c' => Lib.run_eql_slice_nil w _ _ a n c n' c' Tryz.underlying29
 have hr0 := hr
 obtain ⟨ao, cap, hv, _⟩ := hr
 rw [Qa] at hv
 subst hv
 have hc := (zQs hr0).2
 obtain ⟨n, hn⟩ : ∃ n, n = bs.length := ⟨_, rfl⟩
 rw [<- hn] at hc hbig hr0 ⊢
 have HN := hid hn
 have HR := hid hr0
 clear hr0 hn
 rcases ao with _ | a
 ·have h0 : n = 0 := by
   rcases Nat.eq_zero_or_pos n with h | h
   ·exact h
   ·obtain ⟨b, off, h1, _⟩ := hc h; cases h1
  have hb : bs = [] := Qi.1 (by rw [<- HN.out]; exact h0)
  clear hc
  go_enter Tryz.func77, Tryz.ntmps77
  go_wp2
  go_ret
  subst hb
  exact ⟨.slice none 0 0, rfl, ⟨none, 0, rfl, ⟨fun _ => rfl, by simp⟩, fun h => absurd h (by simp)⟩, Qj _ _⟩
 ·clear hc
  have H1 := hid (show (bs.map u8v).length = n * 1 by rw [Qa, Nat.mul_one]; exact HN.out.symm)
  have H2 := hid (zFt (HR.out.kept (zAd w (.cells #[] 5))))
  have H3 := hid (zAq bs)
  obtain ⟨i0, hi, hz0, hz1, hz2⟩ := info_parts zSw
  go_enter Tryz.func77, Tryz.ntmps77
  go_wp2_with (at_builtin; refine wpList_append_own _ rfl _ _ 29 rfl w.heap.size 5 i0 (.int .u8 0) 1 1 Tryz.underlying29 hi hz0 hz1 hz2 rfl (by decide) _ _ _ rfl (World.ownsRow_made w #[] 0 (Qf _) (Nat.zero_le _) rfl) a n cap (bs.map u8v) rfl H1.out H2.out H3.out (by unfold maxLen; omega) (by omega) (by simp) ?_)
  intro v' w1 hown hgrow hnil
  go_wp2
  go_ret
  have hown' : w1.ownsRow w.heap.size 5 1 v' n (bs.map u8v) := by simpa using hown
  have hbl : Below w.heap.size w w1 := ((Qj _ w).alloc (Qf _) _).grown hgrow (by simp) (by intro k hk; simp [Value.ownBlock] at hk; omega)
  exact ⟨v', rfl, zM4 hown', hbl⟩
theorem zBj {w : World} {X : Nat} {a b c d a' b' c' d' : Value} {T : TypeId} (h : w.heap[X]? = some (.cells #[a, b, c, d] T (0, 0))) :
  ((((w.setCell ⟨X, 0, none⟩ a').setCell ⟨X, 1, none⟩ b').setCell ⟨X, 2, none⟩ c').setCell ⟨X, 3, none⟩ d').heap[X]? = some (.cells #[a', b', c', d'] T (0, 0)) := by
 have h0 := Qo w X 0 _ _ a' h
 have h1 := Qo (w.setCell ⟨X, 0, none⟩ a') X 1 _ _ b' h0
 have h2 := Qo _ X 2 _ _ c' h1
 have h3 := Qo _ X 3 _ _ d' h2
 rw [h3]
 simp
theorem zBt : (Tryz.prog.info? 31).map (·.size) = some 4 := by kernel_rfl
theorem zK5 (p : Vc × Value) (w : World) (hp : OkV w p) (hbig : p.1.b.length <= 1000000) :
  Calls Tryz.prog 96 #[aggV p] w fun e w' => ∃ s, e = .returned (aggV (p.1, s)) ∧ RdB w.heap.size w' s p.1.b ∧ Below w.heap.size w w' := by
 obtain ⟨sa, sc, hs⟩ := zAz hp.1
 obtain ⟨⟨u, k, n, b⟩, s⟩ := p
 simp only at hs hbig
 subst hs
 have HC := fun w' (h : Below w.heap.size w w') => hid (zR9 (.slice sa b.length sc) b w' (hp.1.kept h) (by omega))
 have H256 := hid hp.2
 unfold aggV
 simp only
 clear hp
 go_enter Tryz.func96, Tryz.ntmps96
 go_wp2_with fail
 refine (HC _ (zA4 w _ _)).out.mono ?_
 rintro e w2 ⟨s2, rfl, hr2, hb2⟩
 have h1 : w2.heap[w.heap.size]? = some (.cells #[.bool u, .int .i64 k, .int .i64 n, .slice sa b.length sc] 31 (0, 0)) := (hb2.block w.heap.size (by simp; omega)).trans ((heap_alloc_old _ _ (by simp)).trans (Qq w _))
 have h2 : w2.heap[w.heap.size + 1]? = some (.cells #[.bool false, .int .i64 0, .int .i64 0, .slice none 0 0] 31 (0, 0)) := (hb2.block (w.heap.size + 1) (by simp)).trans (zKk w _ _)
 obtain ⟨ta, tc, ht⟩ := zDb hr2
 subst ht
 have HR2 := hid hr2
 have HB2 := hid (zAa (zA4 w _ _) hb2)
 have HS2 := hid (show ((w.alloc (.cells #[.bool u, .int .i64 k, .int .i64 n, .slice sa b.length sc] 31)).alloc (.cells #[.bool false, .int .i64 0, .int .i64 0, .slice none 0 0] 31)).heap.size = w.heap.size + 2 by simp)
 have H2 := hid h2
 obtain ⟨X, hX⟩ : ∃ X, X = w.heap.size := ⟨_, rfl⟩
 obtain ⟨Y, hY⟩ : ∃ Y, Y = w.heap.size + 1 := ⟨_, rfl⟩
 have HX := hid hX
 have HY := hid hY
 rw [<- hX] at h1
 rw [<- hY] at h2 H2 ⊢
 rw [<- hX]
 have c0 : w2.cell? ⟨X, 0, none⟩ = some (.bool u) := by rw [Qm w2 X 0 _ _ _ h1]; rfl
 have c1 : w2.cell? ⟨X, 1, none⟩ = some (.int .i64 k) := by rw [Qm w2 X 1 _ _ _ h1]; rfl
 have c2 : w2.cell? ⟨X, 2, none⟩ = some (.int .i64 n) := by rw [Qm w2 X 2 _ _ _ h1]; rfl
 have c3 : w2.cell? ⟨X, 3, none⟩ = some (.slice sa b.length sc) := by rw [Qm w2 X 3 _ _ _ h1]; rfl
 have f3 : w2.frozen? ⟨X, 3, none⟩ = false := Qn w2 X 3 _ _ h1
 have g0 : w2.cell? ⟨Y, 0, none⟩ = some (.bool false) := by rw [Qm w2 Y 0 _ _ _ h2]; rfl
 have g1 : w2.cell? ⟨Y, 1, none⟩ = some (.int .i64 0) := by rw [Qm w2 Y 1 _ _ _ h2]; rfl
 have g2 : w2.cell? ⟨Y, 2, none⟩ = some (.int .i64 0) := by rw [Qm w2 Y 2 _ _ _ h2]; rfl
 have g3 : w2.cell? ⟨Y, 3, none⟩ = some (.slice none 0 0) := by rw [Qm w2 Y 3 _ _ _ h2]; rfl
 have e0 : w2.frozen? ⟨Y, 0, none⟩ = false := Qn w2 Y 0 _ _ h2
 have e1 : w2.frozen? ⟨Y, 1, none⟩ = false := Qn w2 Y 1 _ _ h2
 have e2 : w2.frozen? ⟨Y, 2, none⟩ = false := Qn w2 Y 2 _ _ h2
 have e3 : w2.frozen? ⟨Y, 3, none⟩ = false := Qn w2 Y 3 _ _ h2
 have hne : X ≠ Y := by omega
 have hne2 : Y ≠ X := by omega
 clear hr2 hb2 h1 h2 hX hY HC
 go_wp2_with fail
 refine bodyPost_ret (results_cell_row rfl _ _ Y _ _ (0, 0) _ rfl (zBj (show (w2.setCell ⟨X, 3, none⟩ (.slice ta b.length tc)).heap[Y]? = _ from (Qp w2 ⟨X, 3, none⟩ Y _ hne2).trans H2.out)) Tryz.underlying31 rfl zBt) rfl ?_
 have hx := HX.out
 have hy := HY.out
 refine ⟨.slice ta b.length tc, rfl, HR2.out.above ?_ (by rw [HS2.out]; omega), ?_⟩
 ·rw [HS2.out]
  exact zCn (zCn (zCn (zCn (zCn (Above.refl _ _) _ _ (by show X < _; omega)) _ _ (by show Y < _; omega)) _ _ (by show Y < _; omega)) _ _ (by show Y < _; omega)) _ _ (by show Y < _; omega)
 ·exact ((((HB2.out.setCell (p := ⟨X, 3, none⟩) (by show _ <= X; omega) _).setCell (p := ⟨Y, 0, none⟩) (by show _ <= Y; omega) _).setCell (p := ⟨Y, 1, none⟩) (by show _ <= Y; omega) _).setCell (p := ⟨Y, 2, none⟩) (by show _ <= Y; omega) _).setCell (p := ⟨Y, 3, none⟩) (by show _ <= Y; omega) _
def RdSK (K : Nat) (w : World) (sz : Nat) (v : Value) (ls : List (List Value)) : Prop :=
 ∃ ao cap, v = .slice ao ls.length cap ∧ ((ao = none -> cap = 0) ∧ ls.length <= cap) ∧
  ∀ k t, ls[k]? = some t -> ∃ b off, ao = some ⟨b, off, none⟩ ∧ K <= b ∧ ∀ j u, t[j]? = some u -> w.cell? ⟨b, off + k * sz + j, none⟩ = some u
theorem RdSK.rd {K : Nat} {w : World} {sz : Nat} {v : Value} {ls : List (List Value)} (h : RdSK K w sz v ls) : RdS w sz v ls := by
 obtain ⟨ao, cap, hv, hn, hc⟩ := h
 refine ⟨ao, cap, hv, hn, fun k t ht => ?_⟩
 obtain ⟨b, off, h1, _, h3⟩ := hc k t ht
 exact ⟨b, off, h1, h3⟩
theorem RdSK.above {K K0 : Nat} {w w' : World} {sz : Nat} {v : Value} {ls : List (List Value)} (h : RdSK K w sz v ls) (ha : Above K w w') (hk : K0 <= K) : RdSK K0 w' sz v ls := by
 obtain ⟨ao, cap, hv, hn, hc⟩ := h
 refine ⟨ao, cap, hv, hn, fun k t ht => ?_⟩
 obtain ⟨b, off, h1, h2, h3⟩ := hc k t ht
 exact ⟨b, off, h1, Qd hk h2, fun j u hu => zGa ha h2 (h3 j u hu)⟩
mutual
def RdA1 (K : Nat) (w : World) : Pt -> List Value -> Prop
 | .mk k c o v l, cs => ∃ s ls css, cs = cellsP k c o v s ls ∧ (RdB K w s v.b ∧ ∀ x ∈ v.b, x < 256) ∧ RdSK K w 8 ls css ∧ RdAs K w l css
def RdAs (K : Nat) (w : World) : List Pt -> List (List Value) -> Prop
 | [], [] => True
 | q :: r, cs :: t => RdA1 K w q cs ∧ RdAs K w r t
 | [], _ :: _ => False
 | _ :: _, [] => False
end
mutual
theorem RdA1.above {K K0 : Nat} {w w' : World} (ha : Above K w w') (hk : K0 <= K) : ∀ (p : Pt) {cs : List Value}, RdA1 K w p cs -> RdA1 K0 w' p cs
 | .mk k c o v l, cs, h => by
  unfold RdA1 at h ⊢
  obtain ⟨s, ls, css, h1, h2, h3, h4⟩ := h
  exact ⟨s, ls, css, h1, ⟨h2.1.above ha hk, h2.2⟩, h3.above ha hk, RdAs.above ha hk l h4⟩
theorem RdAs.above {K K0 : Nat} {w w' : World} (ha : Above K w w') (hk : K0 <= K) : ∀ (l : List Pt) {css : List (List Value)}, RdAs K w l css -> RdAs K0 w' l css
 | [], [], _ => by unfold RdAs; trivial
 | q :: r, cs :: t, h => by
  unfold RdAs at h ⊢
  exact ⟨RdA1.above ha hk q h.1, RdAs.above ha hk r h.2⟩
 | [], _ :: _, h => by unfold RdAs at h; exact h.elim
 | _ :: _, [], h => by unfold RdAs at h; exact h.elim
end
mutual
theorem RdA1.rd {K : Nat} {w : World} : ∀ (p : Pt) {cs : List Value}, RdA1 K w p cs -> RdT1 w p cs
 | .mk k c o v l, cs, h => by
  unfold RdA1 at h
  unfold RdT1
  obtain ⟨s, ls, css, h1, h2, h3, h4⟩ := h
  exact ⟨s, ls, css, h1, ⟨h2.1.rd (Above.refl _ _), h2.2⟩, h3.rd, RdAs.rd l h4⟩
theorem RdAs.rd {K : Nat} {w : World} : ∀ (l : List Pt) {css : List (List Value)}, RdAs K w l css -> RdTs w l css
 | [], [], _ => by unfold RdTs; trivial
 | q :: r, cs :: t, h => by
  unfold RdAs at h
  unfold RdTs
  exact ⟨RdA1.rd q h.1, RdAs.rd r h.2⟩
 | [], _ :: _, h => by unfold RdAs at h; exact h.elim
 | _ :: _, [], h => by unfold RdAs at h; exact h.elim
end
theorem RdAs.snoc {K : Nat} {w : World} {q : Pt} {cs : List Value} (hq : RdA1 K w q cs) : ∀ {l : List Pt} {css : List (List Value)}, RdAs K w l css -> RdAs K w (l ++ [q]) (css ++ [cs])
 | [], [], _ => by unfold RdAs; exact ⟨hq, by unfold RdAs; trivial⟩
 | p :: r, c :: t, h => by
  unfold RdAs at h
  show RdAs K w (p :: (r ++ [q])) (c :: (t ++ [cs]))
  unfold RdAs
  exact ⟨h.1, RdAs.snoc hq h.2⟩
 | [], _ :: _, h => by unfold RdAs at h; exact h.elim
 | _ :: _, [], h => by unfold RdAs at h; exact h.elim
theorem zD3 {α : Type} (A t : List α) (j : Nat) (v : α) : (A ++ t).set (A.length + j) v = A ++ t.set j v := by
 rw [List.set_append_right _ _ (by omega), Nat.add_sub_cancel_left]
def set8 (xs : List Value) (m : Nat) (v0 v1 v2 v3 v4 v5 v6 v7 : Value) : List Value :=
 (((((((xs.set m v0).set (m + 1) v1).set (m + 2) v2).set (m + 3) v3).set (m + 4) v4).set (m + 5) v5).set (m + 6) v6).set (m + 7) v7
theorem zPc (xs : List Value) (m : Nat) (h : m + 8 <= xs.length) (v0 v1 v2 v3 v4 v5 v6 v7 : Value) : (set8 xs m v0 v1 v2 v3 v4 v5 v6 v7).take (m + 8) = xs.take m ++ [v0, v1, v2, v3, v4, v5, v6, v7] := by
 obtain ⟨A, B, rfl, hA⟩ : ∃ A B, xs = A ++ B ∧ A.length = m := ⟨xs.take m, xs.drop m, (List.take_append_drop m xs).symm, by rw [List.length_take]; omega⟩
 subst hA
 rw [List.length_append] at h
 obtain ⟨b0, b1, b2, b3, b4, b5, b6, b7, C, rfl⟩ : ∃ b0 b1 b2 b3 b4 b5 b6 b7 C, B = b0 :: b1 :: b2 :: b3 :: b4 :: b5 :: b6 :: b7 :: C := by
  rcases B with _ | ⟨b0, B⟩
  ·simp at h <;> omega
  rcases B with _ | ⟨b1, B⟩
  ·simp at h <;> omega
  rcases B with _ | ⟨b2, B⟩
  ·simp at h <;> omega
  rcases B with _ | ⟨b3, B⟩
  ·simp at h <;> omega
  rcases B with _ | ⟨b4, B⟩
  ·simp at h <;> omega
  rcases B with _ | ⟨b5, B⟩
  ·simp at h <;> omega
  rcases B with _ | ⟨b6, B⟩
  ·simp at h <;> omega
  rcases B with _ | ⟨b7, B⟩
  ·simp at h <;> omega
  exact ⟨b0, b1, b2, b3, b4, b5, b6, b7, B, rfl⟩
 unfold set8
 have e0 := zD3 A (b0 :: b1 :: b2 :: b3 :: b4 :: b5 :: b6 :: b7 :: C) 0 v0
 rw [Nat.add_zero] at e0
 rw [e0, zD3, zD3, zD3, zD3, zD3, zD3, zD3]
 simp only [List.set_cons_zero, List.set_cons_succ]
 rw [Qk, Qk, Ql (show A.length <= A.length + 8 by omega), Ql (Qf A.length)]
 simp
theorem zK6 (xs : List Value) (m : Nat) (v0 v1 v2 v3 v4 v5 v6 v7 : Value) : (set8 xs m v0 v1 v2 v3 v4 v5 v6 v7).length = xs.length := by simp [set8]
theorem zH4 {w : World} {B : Nat} {E : TypeId} {sz : Nat} {v : Value} {n : Nat} {ls : List (List Value)} (h : w.ownsRow B E sz v n ls.flatten) (hn : n = ls.length) (hl : ∀ t ∈ ls, t.length = sz) : RdSK B w sz v ls := by
 have h1 := zHm h hn hl
 obtain ⟨ao, cap, hv, hnn, hc⟩ := h1
 refine ⟨ao, cap, hv, hnn, fun k t ht => ?_⟩
 obtain ⟨b, off, ha, hcell⟩ := hc k t ht
 refine ⟨b, off, ha, ?_, hcell⟩
 exact zAg h b (by rw [hv, ha]; rfl)
structure Cap (w : World) (db pb lb : Nat) (D : Int) : Prop where
 d : w.heap[db]? = some (.cells #[.int .i64 D] 3 (0, 0))
 p : w.heap[pb]? = some (.cells #[.pointer (some ⟨lb, 0, none⟩)] 147 (0, 0))
 nd : db ≠ lb
 np : pb ≠ lb
theorem Cap.grown {w w' : World} {db pb lb : Nat} {D : Int} (h : Cap w db pb lb D) (hg : w.grownBy w' (some lb)) : Cap w' db pb lb D :=
 ⟨(hg.block db (Qg.1 h.d).1 (fun e => by cases e; exact h.nd rfl)).trans h.d, (hg.block pb (Qg.1 h.p).1 (fun e => by cases e; exact h.np rfl)).trans h.p, h.nd, h.np⟩
theorem zI4 {w : World} {B g : Nat} {E : TypeId} {size n cap : Nat} {xs : List Value} (h : w.ownsRow B E size (.slice (some ⟨g, 0, none⟩) n cap) n xs) : g < w.heap.size := by
 rcases h.2 with ⟨h, _⟩ | ⟨g', cap', cur, h, hbg, hh, _⟩
 ·cases h
 ·cases h
  exact (Qg.1 hh).1
theorem zSx (w : World) (o1 o2 o3 : Obj) : (((w.alloc o1).alloc o2).alloc o3).heap[w.heap.size + 1]? = some o2 ∧ (((w.alloc o1).alloc o2).alloc o3).heap[w.heap.size + 1 + 1]? = some o3 := by
 have s1 : (w.alloc o1).heap.size = w.heap.size + 1 := by simp
 have s2 : ((w.alloc o1).alloc o2).heap.size = w.heap.size + 1 + 1 := by simp
 refine ⟨?_, ?_⟩
 ·have := Qq (w.alloc o1) o2
  rw [s1] at this
  exact (heap_alloc_old _ o3 (by rw [s2]; omega)).trans this
 ·have := Qq ((w.alloc o1).alloc o2) o3
  rw [s2] at this
  exact this
def zeroV : Vc := ⟨false, 0, 0, []⟩
end Go.Proofs.YtmpgnjhgegbdkaaGreat
