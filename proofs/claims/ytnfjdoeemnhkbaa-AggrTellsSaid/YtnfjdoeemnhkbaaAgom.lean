import Derived.Test.YtnfjdoeemnhkbaaLsix
import Derived.Test.YtnfjdoeemnhkbaaAgl
import Derived.Test.YtnfjdoeemnhkbaaFrvo
import Derived.Test.YtnfjdoeemnhkbaaRow9
import Derived.Test.YtnfjdoeemnhkbaaAgr
import Derived.Test.YtnfjdoeemnhkbaaAgtm
set_option linter.unusedVariables false
set_option linter.unusedSimpArgs false
set_option maxRecDepth 100000
set_option maxHeartbeats 8000000
namespace Go.Proofs.Ytnfjdoeemnhkbaa
open _root_.List renaming set_cons_succ -> Qa, getElem_toArray -> Qb, getElem_cons_succ -> Qc, getElem_cons_zero -> Qd, setIfInBounds_toArray -> Qe, set_cons_zero -> Qf, length_map -> Qi, getElem?_map -> Qj, getElem?_eq_some_iff -> Ql, mem_map -> Qm, getElem?_eq_getElem -> Qn, mem_of_getElem? -> Qo, length_set -> Qp, getElem?_set_ne -> Qt, getD_eq_getElem?_getD -> Qx, mem_cons_self -> Qz, flatten_cons -> Ja, map_set -> Jb, mem_or_eq_of_mem_set -> Jc
open _root_.Nat renaming le_refl -> Qg, lt_of_lt_of_le -> Qq
open Go.World renaming block_lt_of_cell? -> Qh
open Go.IntWalk renaming i64_left -> Qk, i64_in -> Qv
open _root_.Bool renaming and_eq_true -> Qr
open _root_.Array renaming getElem?_eq_some_iff -> Qu
open _root_.Int renaming toNat_natCast -> Qw
open _root_.Option renaming getD_some -> Qy
open Go renaming cell_of_row -> Jd, frozen_of_row -> Je, heap_setCell_same -> Jf, heap_setCell_other -> Jg, heap_alloc_new -> Jh
theorem tkH {P : Program} {md : Region.Mode} {ops : Array Oper} {Q : Exit -> Act -> World -> Prop} {S : World -> Prop} (i : Nat) {oi : Oper} {v : Value} {fuel : Nat} {listed : Array Bool} {a : Act} {w : World} (hi : ops[i]? = some oi)
  (hy : YieldsIf P ops S oi v a) (h : wpAnyH P md ops Q S fuel (listed.setIfInBounds i true) (a.put oi.dst v) w)
  (hs : (Region.noSelect ops && Region.free md ops listed i && (Region.ready md ops listed).contains i) = true := by kernel_rfl)
  (hQ : ∀ c a w, Q (.panic c) (a.put oi.dst v) w -> Q (.panic c) a w := by exact fun _ _ _ h => h) (hS : S w := by assumption) : wpAnyH P md ops Q S (fuel + 1) listed a w := by
 rw [Qr, Qr] at hs
 exact wpAnyH_take hi hs.1.1 hs.1.2 hs.2 hQ hy hS h
open Go.Lib (hid)
open Go.RowKit
theorem zO1 {K sz m R j : Nat} {w : World} {T : TypeId} {z u : Value} {xs : List Value} (h : w.ownsRow K T sz z m xs) : ∃ ys, (w.setCell ⟨R, j, none⟩ u).ownsRow K T sz z m ys ∧ (ys = xs ∨ (z.ownBlock = some R ∧ ys = xs.set j u)) := by
 by_cases hz : z.ownBlock = some R
 ·rcases h.2 with ⟨rfl, _⟩ | ⟨g, cap, cur, rfl, _⟩
  ·cases hz
  ·cases hz
   exact ⟨_, (h.stored j u).1, .inr ⟨rfl, rfl⟩⟩
 ·exact ⟨xs, zAj h (zAs (fun b => b = R) w ⟨R, j, none⟩ u rfl) fun b hb e => hz (by rw [hb, e]), .inl rfl⟩
structure TurnI (K : Nat) (E : List El) (v : Value) (n : Nat) (w : World) : Prop where
 own : w.ownsRow K 33 1 v n (E.map Prod.fst)
 row : ∀ x ∈ E, ∃ xs, w.ownsRow K 36 4 x.1 x.2.length xs ∧ ∀ (i : Nat) (t : Vc × Value), x.2[i]? = some t -> (∃ c : Int, xs[i * 4 + 2]? = some (.int .i64 c)) ∧ xs[i * 4 + 3]? = some t.2
 byt : ∀ x ∈ E, ∀ t ∈ x.2, ∃ cs : List Int, cs.length = t.1.b.length ∧ w.ownsRow K 5 1 t.2 t.1.b.length (cs.map (Value.int .u8))
theorem TurnI.int {K n R i m cap : Nat} {E : List El} {v : Value} {w : World} {x : El} (h : TurnI K E v n w) (hx : x ∈ E) (hs : x.1 = .slice (some ⟨R, 0, none⟩) m cap) (c : Int) : TurnI K E v n (w.setCell ⟨R, i * 4 + 2, none⟩ (.int .i64 c)) := by
 obtain ⟨xs, hxo, _⟩ := h.row x hx
 have hb : x.1.ownBlock = some R := by rw [hs]; rfl
 have hset : Agree (fun b => b = R) w (w.setCell ⟨R, i * 4 + 2, none⟩ (.int .i64 c)) := zAs _ w ⟨R, i * 4 + 2, none⟩ _ rfl
 refine ⟨zAj h.own hset fun b hb2 e => zA9 hxo h.own (by decide) hb (by rw [hb2, e]), fun y hy => ?_, fun y hy t ht => ?_⟩
 ·obtain ⟨ys, hyo, hsh⟩ := h.row y hy
  obtain ⟨zs, hzo, hz⟩ := zO1 (R := R) (j := i * 4 + 2) (u := .int .i64 c) hyo
  refine ⟨zs, hzo, fun k t ht => ?_⟩
  obtain ⟨⟨d, hd⟩, h3⟩ := hsh k t ht
  rcases hz with rfl | ⟨_, rfl⟩
  ·exact ⟨⟨d, hd⟩, h3⟩
  ·refine ⟨?_, by rw [Qt (by omega)]; exact h3⟩
   by_cases hki : i * 4 + 2 = k * 4 + 2
   ·rw [hki, List.getElem?_set_self (Ql.1 hd).1]
    exact ⟨c, rfl⟩
   ·rw [Qt hki]
    exact ⟨d, hd⟩
 ·obtain ⟨cs, hl, ho⟩ := h.byt y hy t ht
  exact ⟨cs, hl, zAj ho hset fun b hb2 e => zA9 hxo ho (by decide) hb (by rw [hb2, e])⟩
structure SetP where
 col : Int
 add : Bool
 v : Vc
 s : Value
def setC (x : SetP) : List Value := [.int .i64 x.col, .bool x.add, .bool x.v.u, .int .i64 x.v.k, .int .i64 x.v.n, x.s]
def becT (t v : Vc) (add : Bool) : Option Vc :=
 if add = false then some v else if t.u = true then some t else if -9223372036854775808 <= t.n + v.n ∧ t.n + v.n < 9223372036854775808 then some ⟨t.u, t.k, t.n + v.n, t.b⟩ else none
def RetB (w : World) (t : Vc × Value) (o : Option Vc) (e : Ending) (w' : World) : Prop := match o with
 | none => e = .returned (.tuple #[.agg #[.bool false, .int .i64 0, .int .i64 0, .slice none 0 0], .bool false])
 | some r => ∃ s', e = .returned (.tuple #[aggV (r, s'), .bool true]) ∧ (s' = t.2 ∧ r.b = t.1.b ∨ (w'.ownsRow w.heap.size 5 1 s' r.b.length (r.b.map u8v)))
theorem zO2 {n : Int} (h1 : 9223372036854775808 <= n) (h2 : n < 18446744073709551616) : IntKind.i64.wrap n = n - 18446744073709551616 := by
 rw [Qk]
 unfold wrap64
 omega
theorem zO3 {n : Int} (h1 : n < -9223372036854775808) (h2 : -18446744073709551616 <= n) : IntKind.i64.wrap n = n + 18446744073709551616 := by
 rw [Qk]
 unfold wrap64
 omega
theorem zLm (t v : Vc) (ts vs : Value) (col : Int) (add : Bool) (w : World) (ht : ∃ ta tm tc, ts = .slice ta tm tc) (hv : OkV w (v, vs)) (hbig : v.b.length <= 1000000) (hti : I64 t.n) (hvi : I64 v.n) :
  Calls Try.prog 52 #[aggV (t, ts), .agg (setC ⟨col, add, v, vs⟩).toArray] w fun e w' => RetB w (t, ts) (becT t v add) e w' ∧ Below w.heap.size w w' := by
 obtain ⟨ta, tm, tc, rfl⟩ := ht
 obtain ⟨sa, sc, hs⟩ := zAo hv.1
 obtain ⟨sm, hsm⟩ : ∃ sm, sm = v.b.length := ⟨_, rfl⟩
 simp only at hs
 rw [<- hsm] at hs
 subst hs
 have HV := hid hv
 have HBG := hid hbig
 obtain ⟨tu, tk, tn, tb⟩ := t
 obtain ⟨vu, vk, vn, vb⟩ := v
 unfold I64 at hti hvi
 simp only at hti hvi hsm
 unfold aggV setC
 simp only
 obtain ⟨V, hV⟩ : ∃ V : World, V = (w.alloc (.cells #[.bool tu, .int .i64 tk, .int .i64 tn, .slice ta tm tc] 36)).alloc (.cells #[.int .i64 col, .bool add, .bool vu, .int .i64 vk, .int .i64 vn, .slice sa sm sc] 46) := ⟨_, rfl⟩
 obtain ⟨W, hW⟩ : ∃ W : World, W = V.alloc (.cells #[.bool false, .int .i64 0, .int .i64 0, .slice none 0 0] 36) := ⟨_, rfl⟩
 obtain ⟨X, hX⟩ : ∃ X, X = w.heap.size := ⟨_, rfl⟩
 obtain ⟨Y, hY⟩ : ∃ Y, Y = w.heap.size + 1 := ⟨_, rfl⟩
 obtain ⟨U, hU⟩ : ∃ U, U = w.heap.size + 1 + 1 := ⟨_, rfl⟩
 have hbV : Below w.heap.size w V := by rw [hV]; exact zAw w _ _
 have hsV : V.heap.size = w.heap.size + 2 := by rw [hV]; simp
 have HBW := hid (show Below w.heap.size w W by rw [hW]; exact zAe hbV _)
 have HX := hid (show W.heap[X]? = some (.cells #[.bool tu, .int .i64 tk, .int .i64 tn, .slice ta tm tc] 36 (0, 0)) by
  rw [hW, hX, heap_alloc_old _ _ (by omega), hV]
  exact (heap_alloc_old _ _ (by simp)).trans (Jh w _))
 have HY := hid (show W.heap[Y]? = some (.cells #[.int .i64 col, .bool add, .bool vu, .int .i64 vk, .int .i64 vn, .slice sa sm sc] 46 (0, 0)) by
  rw [hW, hY, heap_alloc_old _ _ (by omega), hV]
  exact zDd w _ _)
 have HU := hid (show W.heap[U]? = some (.cells #[.bool false, .int .i64 0, .int .i64 0, .slice none 0 0] 36 (0, 0)) by
  rw [hW, hU, show w.heap.size + 1 + 1 = V.heap.size by omega]
  exact Jh V _)
 have HNE := hid (show w.heap.size <= X ∧ w.heap.size <= U ∧ U ≠ X from ⟨by omega, by omega, by omega⟩)
 have HSM := hid hsm
 clear hv hbig hsm
 have y1 : W.cell? ⟨Y, 1, none⟩ = some (.bool add) := by rw [Jd W Y 1 _ _ _ HY.out]; rfl
 go_enter Try.func52, Try.ntmps52
 go_upto_region 1 with (fail)
 rw [<- hV, <- hW, <- hU, <- hY, <- hX]
 clear hV hW hX hY hU hbV hsV
 cases add with
 | false =>
  have hbt : becT ⟨tu, tk, tn, tb⟩ ⟨vu, vk, vn, vb⟩ false = some ⟨vu, vk, vn, vb⟩ := by unfold becT; rw [if_pos rfl]
  have HBT := hid hbt
  have y2 : W.cell? ⟨Y, 2, none⟩ = some (.bool vu) := by rw [Jd W Y 2 _ _ _ HY.out]; rfl
  have y3 : W.cell? ⟨Y, 3, none⟩ = some (.int .i64 vk) := by rw [Jd W Y 3 _ _ _ HY.out]; rfl
  have y4 : W.cell? ⟨Y, 4, none⟩ = some (.int .i64 vn) := by rw [Jd W Y 4 _ _ _ HY.out]; rfl
  have y5 : W.cell? ⟨Y, 5, none⟩ = some (.slice sa sm sc) := by rw [Jd W Y 5 _ _ _ HY.out]; rfl
  have HF := hid (zI2 (⟨vu, vk, vn, vb⟩, .slice sa sm sc) W (HV.out.kept HBW.out) HBG.out)
  unfold aggV at HF
  simp only at HF
  clear hbt hti hvi
  go_wp2_with fail
  refine HF.out.mono ?_
  rintro e W2 ⟨s2, rfl, ho, hb2⟩
  clear y1 y2 y3 y4 y5 HF
  obtain ⟨ra, rc, hs2⟩ := zCq ho
  have HUS := hid (show U < W.heap.size from (Qu.1 HU.out).1)
  have HO := hid ho
  have HB2 := hid (zAa HBW.out hb2)
  have HU2 := hid ((hb2.block U HUS.out).trans HU.out)
  subst hs2
  rw [<- HSM.out] at HO ⊢
  clear ho hb2
  have u0 : W2.cell? ⟨U, 0, none⟩ = some (.bool false) := by rw [Jd W2 U 0 _ _ _ HU2.out]; rfl
  have u1 : W2.cell? ⟨U, 1, none⟩ = some (.int .i64 0) := by rw [Jd W2 U 1 _ _ _ HU2.out]; rfl
  have u2 : W2.cell? ⟨U, 2, none⟩ = some (.int .i64 0) := by rw [Jd W2 U 2 _ _ _ HU2.out]; rfl
  have u3 : W2.cell? ⟨U, 3, none⟩ = some (.slice none 0 0) := by rw [Jd W2 U 3 _ _ _ HU2.out]; rfl
  have f0 : W2.frozen? ⟨U, 0, none⟩ = false := Je W2 U 0 _ _ HU2.out
  have f1 : W2.frozen? ⟨U, 1, none⟩ = false := Je W2 U 1 _ _ HU2.out
  have f2 : W2.frozen? ⟨U, 2, none⟩ = false := Je W2 U 2 _ _ HU2.out
  have f3 : W2.frozen? ⟨U, 3, none⟩ = false := Je W2 U 3 _ _ HU2.out
  go_wp2_with fail
  (try simp only [Exit.inBlock, Exit.then])
  refine bodyPost_ret (zAp rfl _ _ U _ _ (0, 0) _ _ rfl rfl (zAu HU2.out) Try.underlying36 rfl zAz) rfl ?_
  refine ⟨?_, ((((HB2.out).setCell (p := ⟨U, 0, none⟩) HNE.out.2.1 _).setCell (p := ⟨U, 1, none⟩) HNE.out.2.1 _).setCell (p := ⟨U, 2, none⟩) HNE.out.2.1 _).setCell (p := ⟨U, 3, none⟩) HNE.out.2.1 _⟩
  rw [HBT.out]
  refine ⟨.slice ra sm rc, rfl, .inr ?_⟩
  simp only
  rw [<- HSM.out]
  refine zAf (zAf HO.out ?_ (Qg _)) (Above.refl _ _) HBW.out.size
  exact zA0 (zA0 (zA0 (zA0 (Above.refl _ _) _ _ HUS.out) _ _ HUS.out) _ _ HUS.out) _ _ HUS.out
 | true =>
  have x0 : W.cell? ⟨X, 0, none⟩ = some (.bool tu) := by rw [Jd W X 0 _ _ _ HX.out]; rfl
  have x1 : W.cell? ⟨X, 1, none⟩ = some (.int .i64 tk) := by rw [Jd W X 1 _ _ _ HX.out]; rfl
  have x2 : W.cell? ⟨X, 2, none⟩ = some (.int .i64 tn) := by rw [Jd W X 2 _ _ _ HX.out]; rfl
  have x3 : W.cell? ⟨X, 3, none⟩ = some (.slice ta tm tc) := by rw [Jd W X 3 _ _ _ HX.out]; rfl
  cases tu with
  | true =>
   have hbt : becT ⟨true, tk, tn, tb⟩ ⟨vu, vk, vn, vb⟩ true = some ⟨true, tk, tn, tb⟩ := by unfold becT; rw [if_neg (by simp), if_pos rfl]
   have HBT := hid hbt
   clear hbt hti hvi
   have u0 : W.cell? ⟨U, 0, none⟩ = some (.bool false) := by rw [Jd W U 0 _ _ _ HU.out]; rfl
   have u1 : W.cell? ⟨U, 1, none⟩ = some (.int .i64 0) := by rw [Jd W U 1 _ _ _ HU.out]; rfl
   have u2 : W.cell? ⟨U, 2, none⟩ = some (.int .i64 0) := by rw [Jd W U 2 _ _ _ HU.out]; rfl
   have u3 : W.cell? ⟨U, 3, none⟩ = some (.slice none 0 0) := by rw [Jd W U 3 _ _ _ HU.out]; rfl
   have f0 : W.frozen? ⟨U, 0, none⟩ = false := Je W U 0 _ _ HU.out
   have f1 : W.frozen? ⟨U, 1, none⟩ = false := Je W U 1 _ _ HU.out
   have f2 : W.frozen? ⟨U, 2, none⟩ = false := Je W U 2 _ _ HU.out
   have f3 : W.frozen? ⟨U, 3, none⟩ = false := Je W U 3 _ _ HU.out
   go_wp2_with fail
   (try simp only [Exit.inBlock, Exit.then])
   refine bodyPost_ret (zAp rfl _ _ U _ _ (0, 0) _ _ rfl rfl (zAu HU.out) Try.underlying36 rfl zAz) rfl ?_
   exact ⟨by rw [HBT.out]; exact ⟨_, rfl, .inl ⟨rfl, rfl⟩⟩, ((((HBW.out).setCell (p := ⟨U, 0, none⟩) HNE.out.2.1 _).setCell (p := ⟨U, 1, none⟩) HNE.out.2.1 _).setCell (p := ⟨U, 2, none⟩) HNE.out.2.1 _).setCell (p := ⟨U, 3, none⟩) HNE.out.2.1 _⟩
  | false =>
   have y4 : W.cell? ⟨Y, 4, none⟩ = some (.int .i64 vn) := by rw [Jd W Y 4 _ _ _ HY.out]; rfl
   have fx : W.frozen? ⟨X, 2, none⟩ = false := Je W X 2 _ _ HX.out
   by_cases hr : -9223372036854775808 <= tn + vn ∧ tn + vn < 9223372036854775808
   ·have hbt : becT ⟨false, tk, tn, tb⟩ ⟨vu, vk, vn, vb⟩ true = some ⟨false, tk, tn + vn, tb⟩ := by unfold becT; rw [if_neg (by simp), if_neg (by simp), if_pos hr]
    have HBT := hid hbt
    have hv1 : IntKind.i64.wrap (tn + vn) = tn + vn := Qv _ ⟨hr.1, by omega⟩
    have hv2 : wrap64 (tn + vn) = tn + vn := (Qk _).symm.trans hv1
    clear hbt
    obtain ⟨N, hN⟩ : ∃ N, N = tn + vn := ⟨_, rfl⟩
    rw [<- hN] at HBT
    have hw1 : IntKind.i64.wrap (tn + vn) = N := hv1.trans hN.symm
    have hw2 : wrap64 (tn + vn) = N := hv2.trans hN.symm
    clear hv1 hv2
    rcases (show (tn < N ∧ 0 < vn) ∨ (¬ tn < N ∧ ¬ 0 < vn) by omega) with ⟨hp, hq⟩ | ⟨hp, hq⟩
    ·have hp1 : decide (N > tn) = true := by first | (rw [decide_eq_true_eq]; exact hp) | (rw [decide_eq_false_iff_not]; exact hp)
     have hp2 : decide (tn < N) = true := hp1
     have hq1 : decide (vn > 0) = true := by first | (rw [decide_eq_true_eq]; exact hq) | (rw [decide_eq_false_iff_not]; exact hq)
     have hq2 : decide (0 < vn) = true := hq1
     clear hti hvi hr hN
     go_upto_region 9 with (fail)
     clear x0 x1 x2 x3 fx y1 y4 hw1 hw2 hp hq hp1 hp2 hq1 hq2
     obtain ⟨W2, hW2⟩ : ∃ W2 : World, W2 = W.setCell ⟨X, 2, none⟩ (.int .i64 N) := ⟨_, rfl⟩
     have HX2 := hid (show W2.heap[X]? = some (.cells #[.bool false, .int .i64 tk, .int .i64 N, .slice ta tm tc] 36 (0, 0)) by rw [hW2]; exact Jf W X 2 _ _ _ HX.out)
     have HU2 := hid (show W2.heap[U]? = some (.cells #[.bool false, .int .i64 0, .int .i64 0, .slice none 0 0] 36 (0, 0)) by rw [hW2]; exact (Jg W _ U _ (fun h => HNE.out.2.2 (by simpa using h))).trans HU.out)
     have HB2 := hid (show Below w.heap.size w W2 by rw [hW2]; exact HBW.out.setCell (p := ⟨X, 2, none⟩) HNE.out.1 _)
     rw [<- hW2]
     clear hW2
     have x0 : W2.cell? ⟨X, 0, none⟩ = some (.bool false) := by rw [Jd W2 X 0 _ _ _ HX2.out]; rfl
     have x1 : W2.cell? ⟨X, 1, none⟩ = some (.int .i64 tk) := by rw [Jd W2 X 1 _ _ _ HX2.out]; rfl
     have x2 : W2.cell? ⟨X, 2, none⟩ = some (.int .i64 N) := by rw [Jd W2 X 2 _ _ _ HX2.out]; rfl
     have x3 : W2.cell? ⟨X, 3, none⟩ = some (.slice ta tm tc) := by rw [Jd W2 X 3 _ _ _ HX2.out]; rfl
     have u0 : W2.cell? ⟨U, 0, none⟩ = some (.bool false) := by rw [Jd W2 U 0 _ _ _ HU2.out]; rfl
     have u1 : W2.cell? ⟨U, 1, none⟩ = some (.int .i64 0) := by rw [Jd W2 U 1 _ _ _ HU2.out]; rfl
     have u2 : W2.cell? ⟨U, 2, none⟩ = some (.int .i64 0) := by rw [Jd W2 U 2 _ _ _ HU2.out]; rfl
     have u3 : W2.cell? ⟨U, 3, none⟩ = some (.slice none 0 0) := by rw [Jd W2 U 3 _ _ _ HU2.out]; rfl
     have f0 : W2.frozen? ⟨U, 0, none⟩ = false := Je W2 U 0 _ _ HU2.out
     have f1 : W2.frozen? ⟨U, 1, none⟩ = false := Je W2 U 1 _ _ HU2.out
     have f2 : W2.frozen? ⟨U, 2, none⟩ = false := Je W2 U 2 _ _ HU2.out
     have f3 : W2.frozen? ⟨U, 3, none⟩ = false := Je W2 U 3 _ _ HU2.out
     go_wp2_with fail
     (try simp only [Exit.inBlock, Exit.then])
     refine bodyPost_ret (zAp rfl _ _ U _ _ (0, 0) _ _ rfl rfl (zAu HU2.out) Try.underlying36 rfl zAz) rfl ?_
     exact ⟨by rw [HBT.out]; exact ⟨_, rfl, .inl ⟨rfl, rfl⟩⟩, ((((HB2.out).setCell (p := ⟨U, 0, none⟩) HNE.out.2.1 _).setCell (p := ⟨U, 1, none⟩) HNE.out.2.1 _).setCell (p := ⟨U, 2, none⟩) HNE.out.2.1 _).setCell (p := ⟨U, 3, none⟩) HNE.out.2.1 _⟩
    ·have hp1 : decide (N > tn) = false := by first | (rw [decide_eq_true_eq]; exact hp) | (rw [decide_eq_false_iff_not]; exact hp)
     have hp2 : decide (tn < N) = false := hp1
     have hq1 : decide (vn > 0) = false := by first | (rw [decide_eq_true_eq]; exact hq) | (rw [decide_eq_false_iff_not]; exact hq)
     have hq2 : decide (0 < vn) = false := hq1
     clear hti hvi hr hN
     go_upto_region 9 with (fail)
     clear x0 x1 x2 x3 fx y1 y4 hw1 hw2 hp hq hp1 hp2 hq1 hq2
     obtain ⟨W2, hW2⟩ : ∃ W2 : World, W2 = W.setCell ⟨X, 2, none⟩ (.int .i64 N) := ⟨_, rfl⟩
     have HX2 := hid (show W2.heap[X]? = some (.cells #[.bool false, .int .i64 tk, .int .i64 N, .slice ta tm tc] 36 (0, 0)) by rw [hW2]; exact Jf W X 2 _ _ _ HX.out)
     have HU2 := hid (show W2.heap[U]? = some (.cells #[.bool false, .int .i64 0, .int .i64 0, .slice none 0 0] 36 (0, 0)) by rw [hW2]; exact (Jg W _ U _ (fun h => HNE.out.2.2 (by simpa using h))).trans HU.out)
     have HB2 := hid (show Below w.heap.size w W2 by rw [hW2]; exact HBW.out.setCell (p := ⟨X, 2, none⟩) HNE.out.1 _)
     rw [<- hW2]
     clear hW2
     have x0 : W2.cell? ⟨X, 0, none⟩ = some (.bool false) := by rw [Jd W2 X 0 _ _ _ HX2.out]; rfl
     have x1 : W2.cell? ⟨X, 1, none⟩ = some (.int .i64 tk) := by rw [Jd W2 X 1 _ _ _ HX2.out]; rfl
     have x2 : W2.cell? ⟨X, 2, none⟩ = some (.int .i64 N) := by rw [Jd W2 X 2 _ _ _ HX2.out]; rfl
     have x3 : W2.cell? ⟨X, 3, none⟩ = some (.slice ta tm tc) := by rw [Jd W2 X 3 _ _ _ HX2.out]; rfl
     have u0 : W2.cell? ⟨U, 0, none⟩ = some (.bool false) := by rw [Jd W2 U 0 _ _ _ HU2.out]; rfl
     have u1 : W2.cell? ⟨U, 1, none⟩ = some (.int .i64 0) := by rw [Jd W2 U 1 _ _ _ HU2.out]; rfl
     have u2 : W2.cell? ⟨U, 2, none⟩ = some (.int .i64 0) := by rw [Jd W2 U 2 _ _ _ HU2.out]; rfl
     have u3 : W2.cell? ⟨U, 3, none⟩ = some (.slice none 0 0) := by rw [Jd W2 U 3 _ _ _ HU2.out]; rfl
     have f0 : W2.frozen? ⟨U, 0, none⟩ = false := Je W2 U 0 _ _ HU2.out
     have f1 : W2.frozen? ⟨U, 1, none⟩ = false := Je W2 U 1 _ _ HU2.out
     have f2 : W2.frozen? ⟨U, 2, none⟩ = false := Je W2 U 2 _ _ HU2.out
     have f3 : W2.frozen? ⟨U, 3, none⟩ = false := Je W2 U 3 _ _ HU2.out
     go_wp2_with fail
     (try simp only [Exit.inBlock, Exit.then])
     refine bodyPost_ret (zAp rfl _ _ U _ _ (0, 0) _ _ rfl rfl (zAu HU2.out) Try.underlying36 rfl zAz) rfl ?_
     exact ⟨by rw [HBT.out]; exact ⟨_, rfl, .inl ⟨rfl, rfl⟩⟩, ((((HB2.out).setCell (p := ⟨U, 0, none⟩) HNE.out.2.1 _).setCell (p := ⟨U, 1, none⟩) HNE.out.2.1 _).setCell (p := ⟨U, 2, none⟩) HNE.out.2.1 _).setCell (p := ⟨U, 3, none⟩) HNE.out.2.1 _⟩
   ·have hbt : becT ⟨false, tk, tn, tb⟩ ⟨vu, vk, vn, vb⟩ true = none := by unfold becT; rw [if_neg (by simp), if_neg (by simp), if_neg hr]
    have HBT := hid hbt
    clear hbt
    obtain ⟨N, hN⟩ : ∃ N, N = IntKind.i64.wrap (tn + vn) := ⟨_, rfl⟩
    have hw1 : IntKind.i64.wrap (tn + vn) = N := hN.symm
    have hw2 : wrap64 (tn + vn) = N := (Qk _).symm.trans hw1
    have hcase : (¬ tn < N ∧ 0 < vn) ∨ (tn < N ∧ ¬ 0 < vn ∧ vn ≠ 0) := by
     rcases Int.lt_or_le 0 vn with h | h
     ·have : N = tn + vn - 18446744073709551616 := by rw [hN]; exact zO2 (by omega) (by omega)
      exact .inl ⟨by omega, h⟩
     ·have : N = tn + vn + 18446744073709551616 := by rw [hN]; exact zO3 (by omega) (by omega)
      exact .inr ⟨by omega, by omega, by omega⟩
    have hnz : vn ≠ 0 := by omega
    have hnz1 : decide (vn ≠ 0) = true := by rw [decide_eq_true_eq]; exact hnz
    have hnz2 : (vn == 0) = false := by rw [beq_eq_false_iff_ne]; exact hnz
    rcases (show (¬ tn < N ∧ 0 < vn) ∨ (tn < N ∧ ¬ 0 < vn) from hcase.imp id fun h => ⟨h.1, h.2.1⟩) with ⟨hp, hq⟩ | ⟨hp, hq⟩
    ·have hp1 : decide (N > tn) = false := by first | (rw [decide_eq_true_eq]; exact hp) | (rw [decide_eq_false_iff_not]; exact hp)
     have hp2 : decide (tn < N) = false := hp1
     have hq1 : decide (vn > 0) = true := by first | (rw [decide_eq_true_eq]; exact hq) | (rw [decide_eq_false_iff_not]; exact hq)
     have hq2 : decide (0 < vn) = true := hq1
     clear hti hvi hr hN hcase
     have u0 : W.cell? ⟨U, 0, none⟩ = some (.bool false) := by rw [Jd W U 0 _ _ _ HU.out]; rfl
     have u1 : W.cell? ⟨U, 1, none⟩ = some (.int .i64 0) := by rw [Jd W U 1 _ _ _ HU.out]; rfl
     have u2 : W.cell? ⟨U, 2, none⟩ = some (.int .i64 0) := by rw [Jd W U 2 _ _ _ HU.out]; rfl
     have u3 : W.cell? ⟨U, 3, none⟩ = some (.slice none 0 0) := by rw [Jd W U 3 _ _ _ HU.out]; rfl
     have f0 : W.frozen? ⟨U, 0, none⟩ = false := Je W U 0 _ _ HU.out
     have f1 : W.frozen? ⟨U, 1, none⟩ = false := Je W U 1 _ _ HU.out
     have f2 : W.frozen? ⟨U, 2, none⟩ = false := Je W U 2 _ _ HU.out
     have f3 : W.frozen? ⟨U, 3, none⟩ = false := Je W U 3 _ _ HU.out
     go_wp2_with fail
     (try simp only [Exit.inBlock, Exit.then])
     refine bodyPost_ret (zAp rfl _ _ U _ _ (0, 0) _ _ rfl rfl (zAu HU.out) Try.underlying36 rfl zAz) rfl ?_
     exact ⟨by rw [HBT.out]; exact rfl, ((((HBW.out).setCell (p := ⟨U, 0, none⟩) HNE.out.2.1 _).setCell (p := ⟨U, 1, none⟩) HNE.out.2.1 _).setCell (p := ⟨U, 2, none⟩) HNE.out.2.1 _).setCell (p := ⟨U, 3, none⟩) HNE.out.2.1 _⟩
    ·have hp1 : decide (N > tn) = true := by first | (rw [decide_eq_true_eq]; exact hp) | (rw [decide_eq_false_iff_not]; exact hp)
     have hp2 : decide (tn < N) = true := hp1
     have hq1 : decide (vn > 0) = false := by first | (rw [decide_eq_true_eq]; exact hq) | (rw [decide_eq_false_iff_not]; exact hq)
     have hq2 : decide (0 < vn) = false := hq1
     clear hti hvi hr hN hcase
     have u0 : W.cell? ⟨U, 0, none⟩ = some (.bool false) := by rw [Jd W U 0 _ _ _ HU.out]; rfl
     have u1 : W.cell? ⟨U, 1, none⟩ = some (.int .i64 0) := by rw [Jd W U 1 _ _ _ HU.out]; rfl
     have u2 : W.cell? ⟨U, 2, none⟩ = some (.int .i64 0) := by rw [Jd W U 2 _ _ _ HU.out]; rfl
     have u3 : W.cell? ⟨U, 3, none⟩ = some (.slice none 0 0) := by rw [Jd W U 3 _ _ _ HU.out]; rfl
     have f0 : W.frozen? ⟨U, 0, none⟩ = false := Je W U 0 _ _ HU.out
     have f1 : W.frozen? ⟨U, 1, none⟩ = false := Je W U 1 _ _ HU.out
     have f2 : W.frozen? ⟨U, 2, none⟩ = false := Je W U 2 _ _ HU.out
     have f3 : W.frozen? ⟨U, 3, none⟩ = false := Je W U 3 _ _ HU.out
     go_wp2_with fail
     (try simp only [Exit.inBlock, Exit.then])
     refine bodyPost_ret (zAp rfl _ _ U _ _ (0, 0) _ _ rfl rfl (zAu HU.out) Try.underlying36 rfl zAz) rfl ?_
     exact ⟨by rw [HBT.out]; exact rfl, ((((HBW.out).setCell (p := ⟨U, 0, none⟩) HNE.out.2.1 _).setCell (p := ⟨U, 1, none⟩) HNE.out.2.1 _).setCell (p := ⟨U, 2, none⟩) HNE.out.2.1 _).setCell (p := ⟨U, 3, none⟩) HNE.out.2.1 _⟩
def nilV9 : Vc := ⟨true, 0, 0, []⟩
def setsT : List Vc -> List SetP -> Option (List Vc)
 | r, [] => some r
 | r, y :: l => if y.col < 0 ∨ (r.length : Int) <= y.col then none else match becT (r.getD y.col.toNat nilV9) y.v y.add with
  | none => none
  | some v => setsT (r.set y.col.toNat v) l
theorem zIi {r : List Vc} {y : SetP} {l : List SetP} (h : y.col < 0 ∨ (r.length : Int) <= y.col) : setsT r (y :: l) = none := by unfold setsT; rw [if_pos h]
theorem zHl {r : List Vc} {y : SetP} {l : List SetP} {c : Nat} {t : Vc} (hc : y.col = (c : Int)) (ht : r[c]? = some t) (h : becT t y.v y.add = none) : setsT r (y :: l) = none := by
 unfold setsT
 have hl := (Ql.1 ht).1
 rw [if_neg (by omega), hc, Qw, Qx, ht, Qy, h]
theorem zD5 {r : List Vc} {y : SetP} {l : List SetP} {c : Nat} {t v : Vc} (hc : y.col = (c : Int)) (ht : r[c]? = some t) (h : becT t y.v y.add = some v) : setsT r (y :: l) = setsT (r.set c v) l := by
 have hl := (Ql.1 ht).1
 rw [show setsT r (y :: l) = if y.col < 0 ∨ (r.length : Int) <= y.col then none else match becT (r.getD y.col.toNat nilV9) y.v y.add with
  | none => none
  | some v => setsT (r.set y.col.toNat v) l from rfl, if_neg (by omega), hc, Qw, Qx, ht, Qy, h]
theorem zLn {t v r : Vc} {add : Bool} (h : becT t v add = some r) (ht : I64 t.n ∧ t.b.length <= 1000000) (hv : I64 v.n ∧ v.b.length <= 1000000) : I64 r.n ∧ r.b.length <= 1000000 := by
 unfold becT at h
 split at h
 ·cases h; exact hv
 ·split at h
  ·cases h; exact ht
  ·split at h
   ·cases h
    unfold I64
    exact ⟨by simp only; omega, ht.2⟩
   ·cases h
theorem zEj : ∀ (ls : List (List Value)) (c : Nat) (a0 a1 a2 a3 : Value), (∀ t ∈ ls, t.length = 4) -> c < ls.length ->
  ((((ls.flatten.set (c * 4) a0).set (c * 4 + 1) a1).set (c * 4 + 2) a2).set (c * 4 + 3) a3) = (ls.set c [a0, a1, a2, a3]).flatten
 | [], c, _, _, _, _, _, h => absurd h (by simp)
 | t :: l, 0, a0, a1, a2, a3, h, _ => by
  have ht := h t Qz
  match t, ht with
  | [b0, b1, b2, b3], _ => rfl
 | t :: l, c + 1, a0, a1, a2, a3, h, hc => by
  have ht := h t Qz
  have ih := zEj l c a0 a1 a2 a3 (fun t ht => h t (List.mem_cons_of_mem _ ht)) (by simpa using hc)
  rw [Qa, Ja, Ja, <- ih]
  have hset : ∀ (m : List Value) (j : Nat) (u : Value), (t ++ m).set (j + 4) u = t ++ m.set j u := fun m j u => by
   rw [List.set_append_right _ _ (by omega)]
   congr 2
   omega
  rw [show (c + 1) * 4 = c * 4 + 4 by omega, show c * 4 + 4 + 1 = c * 4 + 1 + 4 by omega, show c * 4 + 4 + 2 = c * 4 + 2 + 4 by omega, show c * 4 + 4 + 3 = c * 4 + 3 + 4 by omega, hset, hset, hset, hset]
def BecR (K : Nat) (t : Vc × Value) (v : Vc) (add : Bool) (z : Vc) (zs : Value) (ok : Bool) (w' : World) : Prop :=
 (ok = false ∧ becT t.1 v add = none) ∨ (ok = true ∧ becT t.1 v add = some z ∧ (zs = t.2 ∧ z.b = t.1.b ∨ w'.ownsRow K 5 1 zs z.b.length (z.b.map u8v)))
theorem zLo (t v : Vc) (ta : Option Addr) (tm tc : Nat) (vs : Value) (col : Int) (add : Bool) (w : World) (hv : OkV w (v, vs)) (hbig : v.b.length <= 1000000) (hti : I64 t.n) (hvi : I64 v.n) :
  Calls Try.prog 52 #[.agg #[.bool t.u, .int .i64 t.k, .int .i64 t.n, .slice ta tm tc], .agg #[.int .i64 col, .bool add, .bool v.u, .int .i64 v.k, .int .i64 v.n, vs]] w fun e w' =>
   ∃ (z : Vc) (za : Option Addr) (zm zc : Nat) (ok : Bool), e = .returned (.tuple #[.agg #[.bool z.u, .int .i64 z.k, .int .i64 z.n, .slice za zm zc], .bool ok]) ∧ BecR w.heap.size (t, .slice ta tm tc) v add z (.slice za zm zc) ok w' ∧ Below w.heap.size w w' := by
 refine (zLm t v (.slice ta tm tc) vs col add w ⟨_, _, _, rfl⟩ hv hbig hti hvi).mono ?_
 rintro e w' ⟨h, hb⟩
 cases ho : becT t v add with
 | none =>
  rw [ho] at h
  exact ⟨⟨false, 0, 0, []⟩, none, 0, 0, false, h, .inl ⟨rfl, ho⟩, hb⟩
 | some r =>
  rw [ho] at h
  obtain ⟨s', he, h⟩ := h
  rcases h with ⟨rfl, h2⟩ | h2
  ·exact ⟨r, ta, tm, tc, true, he, .inr ⟨rfl, ho, .inl ⟨rfl, h2⟩⟩, hb⟩
  ·obtain ⟨za, zc, hz⟩ := zCq h2
   subst hz
   exact ⟨r, za, _, zc, true, he, .inr ⟨rfl, ho, .inr h2⟩, hb⟩
def RetS (K : Nat) (o : Option (List Vc)) (e : Ending) (w' : World) : Prop := match o with
 | none => e = .returned (.tuple #[.slice none 0 0, .bool false])
 | some r => ∃ (v' : Value) (l' : List (Vc × Value)), e = .returned (.tuple #[v', .bool true]) ∧ RdRA K w' v' l' ∧ l'.map Prod.fst = r ∧ ∀ u ∈ l', I64 u.1.n ∧ u.1.b.length <= 1000000
theorem BecR.low {K K0 : Nat} {t : Vc × Value} {v : Vc} {add : Bool} {z : Vc} {zs : Value} {ok : Bool} {w : World} (h : BecR K t v add z zs ok w) (hk : K0 <= K) : BecR K0 t v add z zs ok w :=
 h.imp id fun h => ⟨h.1, h.2.1, h.2.2.imp id fun h => zAf h (Above.refl _ _) hk⟩
theorem BecR.above {K : Nat} {t : Vc × Value} {v : Vc} {add : Bool} {z : Vc} {zs : Value} {ok : Bool} {w w' : World} (h : BecR K t v add z zs ok w) (ha : Above K w w') : BecR K t v add z zs ok w' :=
 h.imp id fun h => ⟨h.1, h.2.1, h.2.2.imp id fun h => zAf h ha (Qg _)⟩
theorem zO4 (x : El) (l : List SetP) (hl6 : l.length <= 1000) (w : World) (hr : RdP w x.1 x.2) (hlen : x.2.length <= 1000000) (hsm : ∀ t ∈ x.2, I64 t.1.n ∧ t.1.b.length <= 1000000) (sv : Value) (hs : RdS w 6 sv (l.map setC)) (hok : ∀ y ∈ l, OkV w (y.v, y.s) ∧ I64 y.v.n ∧ y.v.b.length <= 1000000) :
  Calls Try.prog 17 #[x.1, sv] w fun e w' => RetS w.heap.size (setsT x.row l) e w' ∧ Below w.heap.size w w' := by
 have HF := hid (zNl x.2 hlen x.1 w hr fun t ht => (hsm t ht).2)
 obtain ⟨xa, xc, hxs⟩ := zAl hr.1
 obtain ⟨m, hm⟩ : ∃ m, m = x.2.length := ⟨_, rfl⟩
 rw [Qi, <- hm] at hxs
 obtain ⟨sa, sc, hsv⟩ := zAl hs
 obtain ⟨ln, hln⟩ : ∃ ln, ln = l.length := ⟨_, rfl⟩
 rw [Qi, <- hln] at hsv
 subst hsv
 rw [hxs] at HF ⊢
 have HM := hid hm
 have HLN := hid hln
 have HS := hid hs
 have HK := hid hok
 have HSM := hid hsm
 rw [<- hm] at hlen
 rw [<- hln] at hl6
 clear hr hsm hs hok hxs hm hln
 go_enter Try.func17, Try.ntmps17
 go_wp2_with fail
 refine HF.out.mono ?_
 rintro e w1 ⟨v1, l1, rfl, hlm, hra, hb1⟩
 have hl1 : l1.length = m := by have h := congrArg List.length hlm; rw [Qi, Qi, <- HM.out] at h; exact h
 obtain ⟨ra, rc, hv1⟩ := zBz hra.2.2.1
 rw [hl1] at hv1
 subst hv1
 have HB1 := hid hb1
 have HRA := hid hra
 have HL1 := hid hl1
 have HRW := hid (show x.row = l1.map Prod.fst from hlm.symm)
 have HBL := hid (show ∀ u ∈ l1, I64 u.1.n ∧ u.1.b.length <= 1000000 from fun u hu => by
  have h : u.1 ∈ l1.map Prod.fst := List.mem_map_of_mem hu
  rw [hlm] at h
  obtain ⟨y, hy, he⟩ := Qm.1 h
  rw [<- he]
  exact HSM.out y hy)
 clear hlm hra hb1 hl1
 go_wp2_with fail
 go_loopw [14] (fun i wr => ∃ (q : Nat) (l2 : List (Vc × Value)), q <= ln ∧ i = .int .i64 (q : Int) ∧ RdRA w.heap.size wr (.slice ra m rc) l2 ∧ l2.length = m ∧ (∀ u ∈ l2, I64 u.1.n ∧ u.1.b.length <= 1000000) ∧ setsT x.row l = setsT (l2.map Prod.fst) (l.drop q) ∧ Below w.heap.size w wr) (fun i _ => ln - (intOf i).toNat)
 case atStart => exact ⟨0, l1, Nat.zero_le _, rfl, HRA.out, HL1.out, HBL.out, by rw [HRW.out]; rfl, HB1.out⟩
 case round =>
  obtain ⟨q, l2, hq, rfl, hra, hl2, hbl, heq, hb⟩ := hrel
  have HRr := hid hra
  have HL2 := hid hl2
  have HBL2 := hid hbl
  have HEQ := hid heq
  have HBr := hid hb
  clear hra hl2 hbl heq hb
  by_cases hlt : q < ln
  ·obtain ⟨y, hy⟩ : ∃ y, l[q]? = some y := ⟨_, Qn (by rw [<- HLN.out]; exact hlt)⟩
   have hdrop : l.drop q = y :: l.drop (q + 1) := by
    rw [List.drop_eq_getElem_cons (by rw [<- HLN.out]; exact hlt)]
    congr 1
    have h := Qn (l := l) (show q < l.length by rw [<- HLN.out]; exact hlt)
    rw [hy] at h
    exact (Option.some.inj h).symm
   rw [hdrop] at HEQ
   obtain ⟨hyok, hyi, hyb⟩ := HK.out y (Qo hy)
   obtain ⟨ysa, ysc, hys⟩ := zAo hyok.1
   obtain ⟨ysm, hysm⟩ : ∃ ysm, ysm = y.v.b.length := ⟨_, rfl⟩
   simp only at hys
   rw [<- hysm] at hys
   obtain ⟨sb, so, hsa, hcell⟩ := (HS.out.kept HBr.out).at (k := q) (t := setC y) (by rw [Qj, hy]; rfl)
   subst hsa
   obtain ⟨yc, ya, yv, ys⟩ := y
   simp only at hys hyok hyi hyb hysm HEQ hdrop
   subst hys
   have HYO := hid hyok
   have HYI := hid hyi
   have HYB := hid hyb
   have h0 : wr.cell? ⟨sb, so + q * 6, none⟩ = some (.int .i64 yc) := hcell 0 _ rfl
   have h1 : wr.cell? ⟨sb, so + q * 6 + 1, none⟩ = some (.bool ya) := hcell 1 _ rfl
   have h2 : wr.cell? ⟨sb, so + q * 6 + 2, none⟩ = some (.bool yv.u) := hcell 2 _ rfl
   have h3 : wr.cell? ⟨sb, so + q * 6 + 3, none⟩ = some (.int .i64 yv.k) := hcell 3 _ rfl
   have h4 : wr.cell? ⟨sb, so + q * 6 + 4, none⟩ = some (.int .i64 yv.n) := hcell 4 _ rfl
   have h5 : wr.cell? ⟨sb, so + q * 6 + 5, none⟩ = some (.slice ysa ysm ysc) := hcell 5 _ rfl
   have hlti : (q : Int) < (ln : Int) := by omega
   have hq00 : (0 : Int) <= (q : Int) := by omega
   have hq1 : IntKind.i64.wrap ((q : Int) + 1) = (q : Int) + 1 := Qv _ (by omega)
   clear hdrop hyok hyi hyb hcell hy hysm
   obtain ⟨W3, hW3⟩ : ∃ W3 : World, W3 = wr.alloc (.cells #[.int .i64 yc, .bool ya, .bool yv.u, .int .i64 yv.k, .int .i64 yv.n, .slice ysa ysm ysc] 46) := ⟨_, rfl⟩
   obtain ⟨P, hP⟩ : ∃ P, P = wr.heap.size := ⟨_, rfl⟩
   have hp : W3.heap[P]? = some (.cells #[.int .i64 yc, .bool ya, .bool yv.u, .int .i64 yv.k, .int .i64 yv.n, .slice ysa ysm ysc] 46 (0, 0)) := by rw [hW3, hP]; exact Jh wr _
   have HPH := hid hp
   have hb3 : Below wr.heap.size wr W3 := by rw [hW3]; exact zAi wr _
   have HB3 := hid (zAa HBr.out hb3)
   have HR3 := hid (HRr.out.above (zAc hb3) (Qg _))
   have HY3 := hid (HYO.out.kept HB3.out)
   clear hp hb3
   go_upto_region 5 with (fail)
   rw [<- hW3, <- hP]
   clear hW3 hP h0 h1 h2 h3 h4 h5
   have p0 : W3.cell? ⟨P, 0, none⟩ = some (.int .i64 yc) := by rw [Jd W3 P 0 _ _ _ HPH.out]; rfl
   by_cases hc0 : yc < 0
   ·have hc1 : decide (yc < 0) = true := by rw [decide_eq_true_eq]; exact hc0
    have HSO := hid (zIi (r := l2.map Prod.fst) (y := ⟨yc, ya, yv, .slice ysa ysm ysc⟩) (l := l.drop (q + 1)) (.inl hc0))
    go_wp2_with fail
    go_ret2
    rw [HEQ.out, HSO.out]
    exact ⟨rfl, HB3.out⟩
   ·have hc1 : decide (yc < 0) = false := by rw [decide_eq_false_iff_not]; exact hc0
    by_cases hcm : yc < (m : Int)
    ·obtain ⟨c, hcc⟩ : ∃ c : Nat, yc = (c : Int) := ⟨yc.toNat, by omega⟩
     subst hcc
     have hcn : c < m := by omega
     have hd1 : ¬ (m : Int) <= (c : Int) := by omega
     have hd2 : decide ((c : Int) ≥ (m : Int)) = false := by rw [decide_eq_false_iff_not]; omega
     have hd3 : decide ((m : Int) <= (c : Int)) = false := hd2
     have hc00 : (0 : Int) <= (c : Int) := by omega
     have p1 : W3.cell? ⟨P, 1, none⟩ = some (.bool ya) := by rw [Jd W3 P 1 _ _ _ HPH.out]; rfl
     have p2 : W3.cell? ⟨P, 2, none⟩ = some (.bool yv.u) := by rw [Jd W3 P 2 _ _ _ HPH.out]; rfl
     have p3 : W3.cell? ⟨P, 3, none⟩ = some (.int .i64 yv.k) := by rw [Jd W3 P 3 _ _ _ HPH.out]; rfl
     have p4 : W3.cell? ⟨P, 4, none⟩ = some (.int .i64 yv.n) := by rw [Jd W3 P 4 _ _ _ HPH.out]; rfl
     have p5 : W3.cell? ⟨P, 5, none⟩ = some (.slice ysa ysm ysc) := by rw [Jd W3 P 5 _ _ _ HPH.out]; rfl
     obtain ⟨tt, htt⟩ : ∃ tt, l2[c]? = some tt := ⟨_, Qn (by rw [HL2.out]; exact hcn)⟩
     have ho3 : W3.ownsRow w.heap.size 36 4 (.slice ra m rc) m (l2.map cellsV).flatten := by have h := HR3.out.2.2.1; rw [HL2.out] at h; exact h
     obtain ⟨R, hR⟩ := zA3 ho3 (by omega)
     subst hR
     have htmem := Qo htt
     obtain ⟨ta, tc, hts⟩ := zBz (HR3.out.2.2.2 _ htmem)
     obtain ⟨tm, htm⟩ : ∃ tm, tm = tt.1.b.length := ⟨_, rfl⟩
     rw [<- htm] at hts
     obtain ⟨t, ts⟩ := tt
     simp only at hts htm
     subst hts
     have hcv : (l2.map cellsV)[c]? = some (cellsV (t, .slice ta tm tc)) := by rw [Qj, htt]; rfl
     have hl4 : ∀ u ∈ l2.map cellsV, u.length = 4 := fun u hu => by obtain ⟨y, _, rfl⟩ := Qm.1 hu; rfl
     have r0 : W3.cell? ⟨R, c * 4, none⟩ = some (.bool t.u) := (ho3.cellAt (c * 4) (by omega)).trans (zAn _ 4 hl4 c _ 0 _ hcv rfl)
     have r1 : W3.cell? ⟨R, c * 4 + 1, none⟩ = some (.int .i64 t.k) := (ho3.cellAt (c * 4 + 1) (by omega)).trans (zAn _ 4 hl4 c _ 1 _ hcv rfl)
     have r2 : W3.cell? ⟨R, c * 4 + 2, none⟩ = some (.int .i64 t.n) := (ho3.cellAt (c * 4 + 2) (by omega)).trans (zAn _ 4 hl4 c _ 2 _ hcv rfl)
     have r3 : W3.cell? ⟨R, c * 4 + 3, none⟩ = some (.slice ta tm tc) := (ho3.cellAt (c * 4 + 3) (by omega)).trans (zAn _ 4 hl4 c _ 3 _ hcv rfl)
     have HO3 := hid ho3
     have HTT := hid htt
     have HTM := hid htm
     have hti := HBL2.out _ htmem
     have HTI := hid hti
     have HBEC := hid (show ∀ w', Below W3.heap.size W3 w' -> _ from fun w' h => zLo t yv ta tm tc (.slice ysa ysm ysc) (c : Int) ya w' (HY3.out.kept h) HYB.out hti.1 HYI.out)
     clear hcv hl4 htm ho3 htt hti htmem hc0 hcm
     go_upto_region 7 with (fail)
     clear hd1 hd2 hd3 hc1
     go_cut [8, 9] (fun p o wx => ∃ (Q : Nat) (z : Vc) (za : Option Addr) (zm zc : Nat) (ok : Bool), p = .pointer (some ⟨Q, 0, none⟩) ∧ o = .bool ok ∧ wx.heap[Q]? = some (.cells #[.bool z.u, .int .i64 z.k, .int .i64 z.n, .slice za zm zc] 36 (0, 0)) ∧ W3.heap.size <= Q ∧ BecR W3.heap.size (t, .slice ta tm tc) yv ya z (.slice za zm zc) ok wx ∧ Below W3.heap.size W3 wx)
     case first =>
      have HCX := hid (show ∀ w', Below W3.heap.size W3 w' -> ((w'.cell? ⟨P, 0, none⟩ = some (.int .i64 (c : Int)) ∧ w'.cell? ⟨P, 1, none⟩ = some (.bool ya) ∧ w'.cell? ⟨P, 2, none⟩ = some (.bool yv.u) ∧ w'.cell? ⟨P, 3, none⟩ = some (.int .i64 yv.k) ∧ w'.cell? ⟨P, 4, none⟩ = some (.int .i64 yv.n) ∧ w'.cell? ⟨P, 5, none⟩ = some (.slice ysa ysm ysc) ∧ w'.cell? ⟨R, c * 4, none⟩ = some (.bool t.u) ∧ w'.cell? ⟨R, c * 4 + 1, none⟩ = some (.int .i64 t.k) ∧ w'.cell? ⟨R, c * 4 + 2, none⟩ = some (.int .i64 t.n) ∧ w'.cell? ⟨R, c * 4 + 3, none⟩ = some (.slice ta tm tc)) ∧ Below W3.heap.size W3 w') from fun w' h => ⟨⟨(h.cell (Qh _ _ p0)).trans p0, (h.cell (Qh _ _ p1)).trans p1, (h.cell (Qh _ _ p2)).trans p2, (h.cell (Qh _ _ p3)).trans p3, (h.cell (Qh _ _ p4)).trans p4, (h.cell (Qh _ _ p5)).trans p5, (h.cell (Qh _ _ r0)).trans r0, (h.cell (Qh _ _ r1)).trans r1, (h.cell (Qh _ _ r2)).trans r2, (h.cell (Qh _ _ r3)).trans r3⟩, h⟩)
      set_option maxRecDepth 1000000 in
       refine wp_region_noPanic ?_
       refine wp_region_held_drew (S := fun w' => (w'.cell? ⟨P, 0, none⟩ = some (.int .i64 (c : Int)) ∧ w'.cell? ⟨P, 1, none⟩ = some (.bool ya) ∧ w'.cell? ⟨P, 2, none⟩ = some (.bool yv.u) ∧ w'.cell? ⟨P, 3, none⟩ = some (.int .i64 yv.k) ∧ w'.cell? ⟨P, 4, none⟩ = some (.int .i64 yv.n) ∧ w'.cell? ⟨P, 5, none⟩ = some (.slice ysa ysm ysc) ∧ w'.cell? ⟨R, c * 4, none⟩ = some (.bool t.u) ∧ w'.cell? ⟨R, c * 4 + 1, none⟩ = some (.int .i64 t.k) ∧ w'.cell? ⟨R, c * 4 + 2, none⟩ = some (.int .i64 t.n) ∧ w'.cell? ⟨R, c * 4 + 3, none⟩ = some (.slice ta tm tc)) ∧ Below W3.heap.size W3 w') (by kernel_rfl) ?hS0 (fun hHeld => ?go0)
       case' hS0 => ((try dsimp only); exact HCX.out _ (zAb _ _))
       refine tkH 0 (v := ?v0) rfl (.inl ⟨by rfl, ?y0⟩) ?_
       case' y0 => (intro w hSw; first | (go_simp; done) | (go_simp; with_reducible rfl))
       (try simp only [Act.put, Qb, Qc, Qd, Qe, Qf, Qa])
       refine tkH 1 (v := ?v1) rfl (.inl ⟨by rfl, ?y1⟩) ?_
       case' y1 => (intro w hSw; first | (go_simp; done) | (go_simp; with_reducible rfl))
       (try simp only [Act.put, Qb, Qc, Qd, Qe, Qf, Qa])
       refine tkH 2 (v := ?v2) rfl (.inl ⟨by rfl, ?y2⟩) ?_
       case' y2 => (intro w hSw; first | (go_simp; done) | (go_simp; with_reducible rfl))
       (try simp only [Act.put, Qb, Qc, Qd, Qe, Qf, Qa])
       refine tkH 3 (v := ?v3) rfl (.inl ⟨by rfl, ?y3⟩) ?_
       case' y3 => (intro w hSw; first | (go_simp; done) | (go_simp; with_reducible rfl))
       (try simp only [Act.put, Qb, Qc, Qd, Qe, Qf, Qa])
       refine tkH 4 (v := ?v4) rfl (.inl ⟨by rfl, ?y4⟩) ?_
       case' y4 => (intro w hSw; first | (go_simp; done) | (go_simp; with_reducible rfl))
       (try simp only [Act.put, Qb, Qc, Qd, Qe, Qf, Qa])
       refine tkH 5 (v := ?v5) rfl (.inl ⟨by rfl, ?y5⟩) ?_
       case' y5 => (intro w hSw; first | (go_simp; done) | (go_simp; with_reducible rfl))
       (try simp only [Act.put, Qb, Qc, Qd, Qe, Qf, Qa])
       refine wpAnyH_ready (rs := [6, 10]) (by kernel_rfl) (by simp) ?_
       refine AllReadyH.cons (o := _) rfl (fun K6a hK6a => ?_) (AllReadyH.cons (o := _) rfl (fun K10a hK10a => ?_) AllReadyH.nil)
       ·go_simp
        (go_at_call 52; refine (HBEC.out _ (hHeld.2)).mono ?_; rintro e w2 ⟨z, za, zm, zc, ok, rfl, hbr, hb2⟩; have hbc : Below W3.heap.size W3 w2 := zAa (hHeld.2) hb2; have HBR := hid (hbr.low (show W3.heap.size <= _ from (hHeld.2).size)); clear hbr)
        refine hK6a.out _ _ ?hS6a (fun hHeld6a => ?_)
        case' hS6a => ((try dsimp only); exact HCX.out _ hbc)
        clear hK6a K6a
        (try simp only [Act.put, Qb, Qc, Qd, Qe, Qf, Qa])
        refine tkH 7 (v := ?v7a) rfl (.inl ⟨by rfl, ?y7a⟩) ?_
        case' y7a => (intro w hSw; first | (go_simp; done) | (go_simp; with_reducible rfl))
        (try simp only [Act.put, Qb, Qc, Qd, Qe, Qf, Qa])
        refine tkH 8 (v := ?v8a) rfl (.inl ⟨by rfl, ?y8a⟩) ?_
        case' y8a => (intro w hSw; first | (go_simp; done) | (go_simp; with_reducible rfl))
        (try simp only [Act.put, Qb, Qc, Qd, Qe, Qf, Qa])
        refine tkH 9 (v := ?v9a) rfl (.inl ⟨by rfl, ?y9a⟩) ?_
        case' y9a => (intro w hSw; first | (go_simp; done) | (go_simp; with_reducible rfl))
        (try simp only [Act.put, Qb, Qc, Qd, Qe, Qf, Qa])
        refine wpAnyH_ready (rs := [10]) (by kernel_rfl) (by simp) ?_
        refine AllReadyH.cons (o := _) rfl (fun K10b hK10b => ?_) AllReadyH.nil
        go_simp
        refine hK10b.out _ _ ?hS10b (fun hHeld10b => ?_)
        case' hS10b => ((try dsimp only); exact HCX.out _ (zAe hbc _))
        clear hK10b K10b
        (try simp only [Act.put, Qb, Qc, Qd, Qe, Qf, Qa])
        refine wpAnyH_ready (rs := [11]) (by kernel_rfl) (by simp) ?_
        refine AllReadyH.cons (o := _) rfl (fun K11c hK11c => ?_) AllReadyH.nil
        go_simp
        refine hK11c.out _ _ ?hS11c (fun hHeld11c => ?_)
        case' hS11c => ((try dsimp only); exact HCX.out _ (zAe hbc _))
        clear hK11c K11c
        (try simp only [Act.put, Qb, Qc, Qd, Qe, Qf, Qa])
        refine tkH 12 (v := ?v12c) rfl (.inl ⟨by rfl, ?y12c⟩) ?_
        case' y12c => (intro w hSw; first | (go_simp; done) | (go_simp; with_reducible rfl))
        (try simp only [Act.put, Qb, Qc, Qd, Qe, Qf, Qa])
        refine wpAnyH_done (by kernel_rfl) ?_ _
        refine NoPanic.normal ?_
        go_wp2_with fail
        go_meet
        exact ⟨_, z, za, zm, zc, ok, rfl, rfl, Jh w2 _, hbc.size, HBR.out.above (zAc (zAi w2 _)), zAe hbc _⟩
       ·go_simp
        refine hK10a.out _ _ ?hS10a (fun hHeld10a => ?_)
        case' hS10a => ((try dsimp only); exact HCX.out _ (zAe hHeld.2 _))
        clear hK10a K10a
        (try simp only [Act.put, Qb, Qc, Qd, Qe, Qf, Qa])
        refine wpAnyH_ready (rs := [6]) (by kernel_rfl) (by simp) ?_
        refine AllReadyH.cons (o := _) rfl (fun K6b hK6b => ?_) AllReadyH.nil
        go_simp
        (go_at_call 52; refine (HBEC.out _ (hHeld10a.2)).mono ?_; rintro e w2 ⟨z, za, zm, zc, ok, rfl, hbr, hb2⟩; have hbc : Below W3.heap.size W3 w2 := zAa (hHeld10a.2) hb2; have HBR := hid hbr; clear hbr; have g8 : w2.heap[W3.heap.size]? = some (.cells #[.bool false, .int .i64 0, .int .i64 0, .slice none 0 0] 36 (0, 0)) := (hb2.block W3.heap.size (by simp)).trans (Jh W3.drew _); have g80 : w2.cell? ⟨W3.heap.size, 0, none⟩ = some (.bool false) := (by rw [Jd w2 W3.heap.size 0 _ _ _ g8]; rfl); have f80 : w2.frozen? ⟨W3.heap.size, 0, none⟩ = false := Je w2 W3.heap.size 0 _ _ g8; have g81 : w2.cell? ⟨W3.heap.size, 1, none⟩ = some (.int .i64 0) := (by rw [Jd w2 W3.heap.size 1 _ _ _ g8]; rfl); have f81 : w2.frozen? ⟨W3.heap.size, 1, none⟩ = false := Je w2 W3.heap.size 1 _ _ g8; have g82 : w2.cell? ⟨W3.heap.size, 2, none⟩ = some (.int .i64 0) := (by rw [Jd w2 W3.heap.size 2 _ _ _ g8]; rfl); have f82 : w2.frozen? ⟨W3.heap.size, 2, none⟩ = false := Je w2 W3.heap.size 2 _ _ g8; have g83 : w2.cell? ⟨W3.heap.size, 3, none⟩ = some (.slice none 0 0) := (by rw [Jd w2 W3.heap.size 3 _ _ _ g8]; rfl); have f83 : w2.frozen? ⟨W3.heap.size, 3, none⟩ = false := Je w2 W3.heap.size 3 _ _ g8)
        refine hK6b.out _ _ ?hS6b (fun hHeld6b => ?_)
        case' hS6b => ((try dsimp only); exact HCX.out _ hbc)
        clear hK6b K6b
        (try simp only [Act.put, Qb, Qc, Qd, Qe, Qf, Qa])
        refine tkH 7 (v := ?v7b) rfl (.inl ⟨by rfl, ?y7b⟩) ?_
        case' y7b => (intro w hSw; first | (go_simp; done) | (go_simp; with_reducible rfl))
        (try simp only [Act.put, Qb, Qc, Qd, Qe, Qf, Qa])
        refine tkH 8 (v := ?v8b) rfl (.inl ⟨by rfl, ?y8b⟩) ?_
        case' y8b => (intro w hSw; first | (go_simp; done) | (go_simp; with_reducible rfl))
        (try simp only [Act.put, Qb, Qc, Qd, Qe, Qf, Qa])
        refine tkH 9 (v := ?v9b) rfl (.inl ⟨by rfl, ?y9b⟩) ?_
        case' y9b => (intro w hSw; first | (go_simp; done) | (go_simp; with_reducible rfl))
        (try simp only [Act.put, Qb, Qc, Qd, Qe, Qf, Qa])
        refine wpAnyH_ready (rs := [11]) (by kernel_rfl) (by simp) ?_
        refine AllReadyH.cons (o := _) rfl (fun K11d hK11d => ?_) AllReadyH.nil
        go_simp
        refine hK11d.out _ _ ?hS11d (fun hHeld11d => ?_)
        case' hS11d => ((try dsimp only); exact HCX.out _ ((((hbc.setCell (p := ⟨W3.heap.size, 0, none⟩) (Qg _) _).setCell (p := ⟨W3.heap.size, 1, none⟩) (Qg _) _).setCell (p := ⟨W3.heap.size, 2, none⟩) (Qg _) _).setCell (p := ⟨W3.heap.size, 3, none⟩) (Qg _) _))
        clear hK11d K11d
        (try simp only [Act.put, Qb, Qc, Qd, Qe, Qf, Qa])
        refine tkH 12 (v := ?v12d) rfl (.inl ⟨by rfl, ?y12d⟩) ?_
        case' y12d => (intro w hSw; first | (go_simp; done) | (go_simp; with_reducible rfl))
        (try simp only [Act.put, Qb, Qc, Qd, Qe, Qf, Qa])
        refine wpAnyH_done (by kernel_rfl) ?_ _
        refine NoPanic.normal ?_
        go_wp2_with fail
        go_meet
        exact ⟨_, z, za, zm, zc, ok, rfl, rfl, zAu g8, Qg _, (HBR.out.above (zA0 (zA0 (zA0 (zA0 (Above.refl _ w2) _ _ (show W3.heap.size < (W3.drew.alloc (.cells #[.bool false, .int .i64 0, .int .i64 0, .slice none 0 0] 36)).heap.size by simp)) _ _ (show W3.heap.size < (W3.drew.alloc (.cells #[.bool false, .int .i64 0, .int .i64 0, .slice none 0 0] 36)).heap.size by simp)) _ _ (show W3.heap.size < (W3.drew.alloc (.cells #[.bool false, .int .i64 0, .int .i64 0, .slice none 0 0] 36)).heap.size by simp)) _ _ (show W3.heap.size < (W3.drew.alloc (.cells #[.bool false, .int .i64 0, .int .i64 0, .slice none 0 0] 36)).heap.size by simp))).low (show W3.heap.size <= (W3.drew.alloc (.cells #[.bool false, .int .i64 0, .int .i64 0, .slice none 0 0] 36)).heap.size by simp), (((hbc.setCell (p := ⟨W3.heap.size, 0, none⟩) (Qg _) _).setCell (p := ⟨W3.heap.size, 1, none⟩) (Qg _) _).setCell (p := ⟨W3.heap.size, 2, none⟩) (Qg _) _).setCell (p := ⟨W3.heap.size, 3, none⟩) (Qg _) _⟩
     case rest =>
      obtain ⟨Q, z, za, zm, zc, ok, rfl, rfl, hQ, hQs, hbr, hbx⟩ := hcut
      have HBX := hid (zAa HB3.out hbx)
      have HBP := hid (show Above W3.heap.size W3 wc from zAc hbx)
      have HQ := hid hQ
      have HQS := hid hQs
      have HBR := hid hbr
      have HO4 := hid (zAf HO3.out (zAc hbx) (Qg _))
      have HPW := hid ((hbx.block P (Qu.1 HPH.out).1).trans HPH.out)
      have HLT := hid (show R < W3.heap.size from (HO3.out.lt R rfl).2)
      have HRW3 := hid (show RdRA w.heap.size wc (.slice (some ⟨R, 0, none⟩) m rc) l2 from HR3.out.above (zAc hbx) (Qg _))
      clear hQ hQs hbr hbx p0 p1 p2 p3 p4 p5 r0 r1 r2 r3
      cases ok with
      | false =>
       have hno := HBR.out
       have HSO := hid (zHl (r := l2.map Prod.fst) (y := ⟨(c : Int), ya, yv, .slice ysa ysm ysc⟩) (l := l.drop (q + 1)) (t := t) rfl (by rw [Qj, HTT.out]; rfl) (by rcases hno with ⟨_, h⟩ | ⟨h, _⟩; exact h; cases h))
       clear hno
       go_wp2_with fail
       go_ret2
       rw [HEQ.out, HSO.out]
       exact ⟨rfl, HBX.out⟩
      | true =>
       have hyes := HBR.out
       obtain ⟨hbec, hown⟩ : becT t yv ya = some z ∧ (Value.slice za zm zc = .slice ta tm tc ∧ z.b = t.b ∨ wc.ownsRow W3.heap.size 5 1 (.slice za zm zc) z.b.length (z.b.map u8v)) := by rcases hyes with ⟨h, _⟩ | ⟨_, h⟩; cases h; exact h
       have HSO := hid (zD5 (r := l2.map Prod.fst) (y := ⟨(c : Int), ya, yv, .slice ysa ysm ysc⟩) (l := l.drop (q + 1)) (t := t) rfl (by rw [Qj, HTT.out]; rfl) hbec)
       have HSZ := hid (zLn hbec HTI.out ⟨HYI.out, HYB.out⟩)
       have HZO := hid (show wc.ownsRow w.heap.size 5 1 (.slice za zm zc) z.b.length (z.b.map u8v) ∧ ∀ x ∈ z.b, x < 256 from by
        have htmem := Qo HTT.out
        have h1 := HRW3.out.2.2.2 _ htmem
        have h2 := (HRW3.out.2.1 _ htmem).2
        rcases hown with ⟨ha, hb⟩ | ha
        ·rw [ha, hb]; exact ⟨h1, h2⟩
        ·refine ⟨zAf ha (Above.refl _ _) HB3.out.size, fun x hx => ?_⟩
         unfold becT at hbec
         split at hbec
         ·cases hbec; exact HYO.out.2 x hx
         ·split at hbec
          ·cases hbec; exact h2 x hx
          ·split at hbec
           ·cases hbec; exact h2 x hx
           ·cases hbec)
       clear hyes hbec hown
       have p0 : wc.cell? ⟨P, 0, none⟩ = some (.int .i64 (c : Int)) := by rw [Jd wc P 0 _ _ _ HPW.out]; rfl
       have q0 : wc.cell? ⟨Q, 0, none⟩ = some (.bool z.u) := by rw [Jd wc Q 0 _ _ _ HQ.out]; rfl
       have q1 : wc.cell? ⟨Q, 1, none⟩ = some (.int .i64 z.k) := by rw [Jd wc Q 1 _ _ _ HQ.out]; rfl
       have q2 : wc.cell? ⟨Q, 2, none⟩ = some (.int .i64 z.n) := by rw [Jd wc Q 2 _ _ _ HQ.out]; rfl
       have q3 : wc.cell? ⟨Q, 3, none⟩ = some (.slice za zm zc) := by rw [Jd wc Q 3 _ _ _ HQ.out]; rfl
       have hl4 : ∀ u ∈ l2.map cellsV, u.length = 4 := fun u hu => by obtain ⟨y, _, rfl⟩ := Qm.1 hu; rfl
       have hcv : (l2.map cellsV)[c]? = some (cellsV (t, .slice ta tm tc)) := by rw [Qj, HTT.out]; rfl
       have r0 : wc.cell? ⟨R, c * 4, none⟩ = some (.bool t.u) := (HO4.out.cellAt (c * 4) (by omega)).trans (zAn _ 4 hl4 c _ 0 _ hcv rfl)
       have r1 : wc.cell? ⟨R, c * 4 + 1, none⟩ = some (.int .i64 t.k) := (HO4.out.cellAt (c * 4 + 1) (by omega)).trans (zAn _ 4 hl4 c _ 1 _ hcv rfl)
       have r2 : wc.cell? ⟨R, c * 4 + 2, none⟩ = some (.int .i64 t.n) := (HO4.out.cellAt (c * 4 + 2) (by omega)).trans (zAn _ 4 hl4 c _ 2 _ hcv rfl)
       have r3 : wc.cell? ⟨R, c * 4 + 3, none⟩ = some (.slice ta tm tc) := (HO4.out.cellAt (c * 4 + 3) (by omega)).trans (zAn _ 4 hl4 c _ 3 _ hcv rfl)
       have f0 := HO4.out.frozenAt (c * 4)
       have f1 := HO4.out.frozenAt (c * 4 + 1)
       have f2 := HO4.out.frozenAt (c * 4 + 2)
       have f3 := HO4.out.frozenAt (c * 4 + 3)
       have HST := hid (show RdRA w.heap.size ((((wc.setCell ⟨R, c * 4, none⟩ (.bool z.u)).setCell ⟨R, c * 4 + 1, none⟩ (.int .i64 z.k)).setCell ⟨R, c * 4 + 2, none⟩ (.int .i64 z.n)).setCell ⟨R, c * 4 + 3, none⟩ (.slice za zm zc)) (.slice (some ⟨R, 0, none⟩) m rc) (l2.set c (z, .slice za zm zc)) from by
        have ho := ((((HO4.out.stored (c * 4) (.bool z.u)).1.stored (c * 4 + 1) (.int .i64 z.k)).1.stored (c * 4 + 2) (.int .i64 z.n)).1.stored (c * 4 + 3) (.slice za zm zc)).1
        rw [zEj _ c _ _ _ _ hl4 (by rw [Qi, HL2.out]; exact hcn)] at ho
        have hag : Agree (fun b => b = R) wc ((((wc.setCell ⟨R, c * 4, none⟩ (.bool z.u)).setCell ⟨R, c * 4 + 1, none⟩ (.int .i64 z.k)).setCell ⟨R, c * 4 + 2, none⟩ (.int .i64 z.n)).setCell ⟨R, c * 4 + 3, none⟩ (.slice za zm zc)) := (((zAs (fun b => b = R) wc ⟨R, c * 4, none⟩ _ rfl).trans (zAs (fun b => b = R) _ ⟨R, c * 4 + 1, none⟩ _ rfl)).trans (zAs (fun b => b = R) _ ⟨R, c * 4 + 2, none⟩ _ rfl)).trans (zAs (fun b => b = R) _ ⟨R, c * 4 + 3, none⟩ _ rfl)
        refine zEt ?_ fun u hu => ?_
        ·rw [Jb, Qp, HL2.out]; exact ho
        ·rcases Jc hu with hu | hu
         ·have h1 := HRW3.out.2.2.2 u hu
          exact ⟨zAj h1 hag fun b hb e => zA9 HO4.out h1 (by decide) rfl (by rw [hb, e]), (HRW3.out.2.1 u hu).2⟩
         ·rw [hu]
          exact ⟨zAj HZO.out.1 hag fun b hb e => zA9 HO4.out HZO.out.1 (by decide) rfl (by rw [hb, e]), HZO.out.2⟩)
       have HBZ := hid (show Below w.heap.size w ((((wc.setCell ⟨R, c * 4, none⟩ (.bool z.u)).setCell ⟨R, c * 4 + 1, none⟩ (.int .i64 z.k)).setCell ⟨R, c * 4 + 2, none⟩ (.int .i64 z.n)).setCell ⟨R, c * 4 + 3, none⟩ (.slice za zm zc)) from by
        have hR := (HO4.out.lt R rfl).1
        exact (((HBX.out.setCell (p := ⟨R, c * 4, none⟩) hR _).setCell (p := ⟨R, c * 4 + 1, none⟩) hR _).setCell (p := ⟨R, c * 4 + 2, none⟩) hR _).setCell (p := ⟨R, c * 4 + 3, none⟩) hR _)
       clear hl4 hcv
       go_wp2_with fail
       go_roundw
       case rel =>
        refine ⟨q + 1, l2.set c (z, .slice za zm zc), by omega, by go_num, HST.out, by rw [Qp]; exact HL2.out, fun u hu => ?_, by rw [HEQ.out, HSO.out, Jb], HBZ.out⟩
        rcases Jc hu with hu | hu
        ·exact HBL2.out u hu
        ·rw [hu]; exact HSZ.out
       case measure => simp [intOf]; omega
    ·have hd1 : (m : Int) <= yc := by omega
     have hd2 : decide (yc ≥ (m : Int)) = true := by rw [decide_eq_true_eq]; omega
     have hd3 : decide ((m : Int) <= yc) = true := hd2
     have HSO := hid (zIi (r := l2.map Prod.fst) (y := ⟨yc, ya, yv, .slice ysa ysm ysc⟩) (l := l.drop (q + 1)) (.inr (by rw [Qi, HL2.out]; exact hd1)))
     go_wp2_with fail
     go_ret2
     rw [HEQ.out, HSO.out]
     exact ⟨rfl, HB3.out⟩
  ·have hlti : ¬ (q : Int) < (ln : Int) := by omega
   have hdr : l.drop q = [] := List.drop_eq_nil_of_le (by rw [<- HLN.out]; omega)
   rw [hdr] at HEQ
   clear hdr
   go_wp2_with fail
   go_ret2
   rw [HEQ.out]
   exact ⟨⟨_, l2, rfl, HRr.out, rfl, HBL2.out⟩, HBr.out⟩
def OwnX (B : Nat) (w : World) (v : Value) (E : List El) : Prop :=
 w.ownsRow B 33 1 v E.length (E.map Prod.fst) ∧ ∀ x ∈ E, ∀ w' : World, (∀ b, B <= b -> b < w.heap.size -> v.ownBlock ≠ some b -> w'.heap[b]? = w.heap[b]?) -> RdP w' x.1 x.2
theorem OwnX.low {B K : Nat} {w : World} {v : Value} {E : List El} (h : OwnX B w v E) (hk : K <= B) : OwnX K w v E :=
 ⟨zAf h.1 (Above.refl _ _) hk, fun x hx w' h2 => h.2 x hx w' fun b h3 => h2 b (Nat.le_trans hk h3)⟩
theorem OwnX.row {B : Nat} {w : World} {v : Value} {E : List El} (h : OwnX B w v E) : Rd w v (E.map Prod.fst) ∧ ∀ x ∈ E, RdP w x.1 x.2 := ⟨Rd.of_owns h.1, fun x hx => h.2 x hx w fun _ _ _ _ => rfl⟩
theorem zMz {B : Nat} {wr w3 w4 : World} {o3 : Obj} {v v4 s : Value} {E : List El} {l : List (Vc × Value)}
  (hown : wr.ownsRow B 33 1 v E.length (E.map Prod.fst)) (hel : ∀ x ∈ E, ∀ w' : World, (∀ b, B <= b -> b < wr.heap.size -> v.ownBlock ≠ some b -> w'.heap[b]? = wr.heap[b]?) -> RdP w' x.1 x.2) (hB : B <= wr.heap.size)
  (hag : Below wr.heap.size wr w3) (hs : ∀ w', Above wr.heap.size w3 w' -> RdP w' s l)
  (hg : (w3.alloc o3).grownBy w4 v.ownBlock) (hnew : ∀ g, v4.ownBlock = some g -> v.ownBlock = some g ∨ g = (w3.alloc o3).heap.size)
  (h4 : w4.ownsRow B 33 1 v4 (E.length + 1) (E.map Prod.fst ++ [s])) : OwnX B w4 v4 (E ++ [(s, l)]) := by
 have hsz : (w3.alloc o3).heap.size = w3.heap.size + 1 := by simp
 have hag4 : Agree (fun b => v.ownBlock = some b) wr w4 := ((Agree.refl _ wr).thenBelow hag).alloc o3 |>.thenGrown hg fun i _ h => h
 have hold : ∀ b, v.ownBlock = some b -> b < wr.heap.size := fun b hb => (hown.lt b hb).2
 have h34 : Agree (fun b => v.ownBlock = some b) w3 w4 := (zBd _ w3 o3).thenGrown hg fun i _ h => h
 refine ⟨by rw [List.length_append, List.map_append]; exact h4, fun x hx w' ha => ?_⟩
 rcases List.mem_append.1 hx with hx | hx
 ·refine hel x hx w' fun b h1 h2 h3 => (ha b h1 (Qq h2 hag4.size) fun e => ?_).trans (hag4.block b h2 h3)
  rcases hnew b e with h | h
  ·exact h3 h
  ·have := hag.size; omega
 ·rw [List.mem_singleton.1 hx]
  refine hs w' fun b h1 h2 => (ha b (by omega) (Qq h2 h34.size) fun e => ?_).trans (h34.block b h2 fun e => by have := hold b e; omega)
  rcases hnew b e with h | h
  ·have := hold b h; omega
  ·omega
open Go.RowKit Sy
structure TwoX (K : Nat) (w : World) (r s : Value) (E F : List El) : Prop where
 o1 : w.ownsRow K 33 1 r E.length (E.map Prod.fst)
 o2 : w.ownsRow K 33 1 s F.length (F.map Prod.fst)
 ne : ∀ b, r.ownBlock = some b -> s.ownBlock ≠ some b
 el : ∀ x, x ∈ E ∨ x ∈ F -> ∀ w' : World, (∀ b, b < w.heap.size -> r.ownBlock ≠ some b -> s.ownBlock ≠ some b -> w'.heap[b]? = w.heap[b]?) -> RdP w' x.1 x.2
theorem TwoX.symm {K : Nat} {w : World} {r s : Value} {E F : List El} (h : TwoX K w r s E F) : TwoX K w s r F E :=
 ⟨h.o2, h.o1, fun b h1 h2 => h.ne b h2 h1, fun x hx w' hw => h.el x hx.symm w' fun b h1 h2 h3 => hw b h1 h3 h2⟩
theorem TwoX.kept {K : Nat} {w w' : World} {r s : Value} {E F : List El} (h : TwoX K w r s E F) (hb : Below w.heap.size w w') : TwoX K w' r s E F :=
 ⟨zAf h.o1 (zAc hb) (Qg _), zAf h.o2 (zAc hb) (Qg _), h.ne, fun x hx w2 h2 => h.el x hx w2 fun b h3 h4 h5 => (h2 b (Qq h3 hb.size) h4 h5).trans (hb.block b h3)⟩
theorem TwoX.below {K g n cap i k : Nat} {w0 w : World} {s : Value} {E F : List El} {x y : El} (h : TwoX K w (.slice (some ⟨g, 0, none⟩) n cap) s E F) (hb : Below K w0 w) : Below K w0 ((w.setCell ⟨g, i, none⟩ y.1).setCell ⟨g, k, none⟩ x.1) := by
 have hK := (h.o1.lt g rfl).1
 exact (hb.setCell (p := ⟨g, i, none⟩) hK _).setCell (p := ⟨g, k, none⟩) hK _
theorem zIj : ∀ (l : List SetP) (r r' : List Vc), setsT r l = some r' -> r'.length = r.length
 | [], r, r', h => by cases h; rfl
 | y :: l, r, r', h => by
  unfold setsT at h
  split at h
  ·cases h
  ·split at h
   ·cases h
   ·rw [zIj l _ r' h, Qp]
end Go.Proofs.Ytnfjdoeemnhkbaa
