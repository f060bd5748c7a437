import Derived.Test.YtmpgnjhgegbdkaaGreatGmd
set_option linter.unusedVariables false
set_option linter.unusedSimpArgs false
set_option maxRecDepth 100000
set_option maxHeartbeats 1600000
open Go.Lib (hid)
namespace Go.Proofs.YtmpgnjhgegbdkaaGreat
open Go.RowKit
open _root_.Array renaming getElem?_eq_some_iff -> Qa
open _root_.List renaming set_cons_succ -> Qb, map_cons -> Qc, flatten_cons -> Qd, getElem?_eq_getElem -> Qe, cons_append -> Qg, nil_append -> Qh
open _root_.Nat renaming le_refl -> Qf, le_of_lt -> Qi
open Go renaming cell_of_row -> Qj, frozen_of_row -> Qk, heap_setCell_same -> Ql
theorem zGs {K sz n : Nat} {w w' : World} {E : TypeId} {v : Value} {xs : List Value} (h : w.ownsRow K E sz v n xs) (ha : Above K w w') : w'.ownsRow K E sz v n xs := by
 obtain ⟨h1, h2 | ⟨g, cap, cur, rfl, hg, hb, h3⟩⟩ := h
 ·exact ⟨h1, .inl h2⟩
 ·exact ⟨h1, .inr ⟨g, cap, cur, rfl, hg, (ha g hg (Qa.1 hb).1).trans hb, h3⟩⟩
theorem GrpAt.above {K G : Nat} {w w' : World} {cols : List Co} {rows : List (List Vc)} {ids : List Int} {sps : List (Int × Int × Int × Int)} (h : GrpAt K w G cols rows ids sps) (ha : Above K w w') (hs : w.heap.size <= w'.heap.size) : GrpAt K w' G cols rows ids sps := by
 obtain ⟨h0, K2, sg, n, ic, tc, ia, ta, h1, h2, h2b, h3, h4, h5, h6, h7⟩ := h
 exact ⟨h0, K2, sg, n, ic, tc, ia, ta, h1, h2, h2b, (ha G h0 (Qa.1 h3).1).trans h3, h4.above (fun b h8 h9 => ha b (by omega) h9) hs (Qf _), zGs h5 ha, zGs h6 ha, h7⟩
theorem zIy : ∀ (l : List (Int × Int × Int × Int)) (k : Nat) (t : Int × Int × Int × Int), k < l.length ->
  (((((l.map spc).flatten.set (k * 4) (.int .i64 t.1)).set (k * 4 + 1) (.int .i64 t.2.1)).set (k * 4 + 2) (.int .i64 t.2.2.1)).set (k * 4 + 3) (.int .i64 t.2.2.2)) = ((l.set k t).map spc).flatten
 | [], k, t, h => by simp at h
 | a :: r, 0, t, h => by simp [spc]
 | a :: r, k + 1, t, h => by
  have ih := zIy r k t (by simpa using h)
  rw [Qb, Qc, Qd, Qc, Qd, <- ih]
  rw [show (k + 1) * 4 = k * 4 + 1 + 1 + 1 + 1 by omega]
  simp only [spc, Qg, Qh]
  rw [show k * 4 + 1 + 1 + 1 + 1 + 1 = (k * 4 + 1) + 1 + 1 + 1 + 1 by omega, show k * 4 + 1 + 1 + 1 + 1 + 2 = (k * 4 + 2) + 1 + 1 + 1 + 1 by omega, show k * 4 + 1 + 1 + 1 + 1 + 3 = (k * 4 + 3) + 1 + 1 + 1 + 1 by omega]
  simp only [Qb]
theorem GrpAt.poke {K G K2 sg n ic tc tb k : Nat} {w w1 w' : World} {cols : List Co} {rows : List (List Vc)} {ids : List Int} {sps : List (Int × Int × Int × Int)} {ia : Option Addr} {t : Int × Int × Int × Int}
  (h0 : K <= G) (h1 : G < K2) (h2 : n = ids.length) (h2b : n = sps.length) (h3 : w.heap[G]? = some (.cells #[.pointer (some ⟨sg, 0, none⟩), .slice ia n ic, .slice (some ⟨tb, 0, none⟩) n tc] 94 (0, 0))) (h4 : SegAt K2 w sg cols rows)
  (h5 : w.ownsRow K 3 1 (.slice ia n ic) n (ids.map (Value.int .i64))) (h6 : w.ownsRow K 79 4 (.slice (some ⟨tb, 0, none⟩) n tc) n (sps.map spc).flatten)
  (h7 : (∀ b, (Value.slice ia n ic).ownBlock = some b -> b < K2 ∧ b ≠ G ∧ (Value.slice (some ⟨tb, 0, none⟩) n tc).ownBlock ≠ some b) ∧ (∀ b, (Value.slice (some ⟨tb, 0, none⟩) n tc).ownBlock = some b -> b < K2 ∧ b ≠ G))
  (hw1 : Agree (fun _ => False) w w1) (hk : k < n)
  (hw' : w' = (((w1.setCell ⟨tb, k * 4, none⟩ (.int .i64 t.1)).setCell ⟨tb, k * 4 + 1, none⟩ (.int .i64 t.2.1)).setCell ⟨tb, k * 4 + 2, none⟩ (.int .i64 t.2.2.1)).setCell ⟨tb, k * 4 + 3, none⟩ (.int .i64 t.2.2.2)) :
  GrpAt K w' G cols rows ids (sps.set k t) ∧ Below K w w' ∧ w.heap.size <= w'.heap.size := by
 have htb := h7.2 tb rfl
 have hKt : K <= tb := zAg h6 tb rfl
 have hG := (Qa.1 h3).1
 have hag : Agree (fun b => b = tb) w w' := by
  rw [hw']
  have a0 : Agree (fun b => b = tb) w w1 := hw1.mono fun _ _ h => h.elim
  have a1 := a0.set ⟨tb, k * 4, none⟩ (.int .i64 t.1) (.inl rfl)
  have a2 := a1.set ⟨tb, k * 4 + 1, none⟩ (.int .i64 t.2.1) (.inl rfl)
  have a3 := a2.set ⟨tb, k * 4 + 2, none⟩ (.int .i64 t.2.2.1) (.inl rfl)
  exact a3.set ⟨tb, k * 4 + 3, none⟩ (.int .i64 t.2.2.2) (.inl rfl)
 refine ⟨⟨h0, K2, sg, n, ic, tc, ia, some ⟨tb, 0, none⟩, h1, h2, by rw [List.length_set]; exact h2b, (hag.block G hG (fun e => htb.2 e.symm)).trans h3, h4.above (zHu hag fun i e => by rw [e]; exact htb.1) hag.size (Qf _), zAe h5 hag (fun b hb e => (h7.1 b hb).2.2 (by rw [e]; rfl)), ?_, h7⟩, hag.below (fun i hi e => by omega) (by have := h4.2.1; have := h4.1; omega), hag.size⟩
 have h6' := zAe h6 hw1 (fun _ _ h => h)
 have hst := ((((h6'.stored (k * 4) (.int .i64 t.1)).1.stored (k * 4 + 1) (.int .i64 t.2.1)).1.stored (k * 4 + 2) (.int .i64 t.2.2.1)).1.stored (k * 4 + 3) (.int .i64 t.2.2.2)).1
 rw [zIy sps k t (by rw [<- h2b]; exact hk)] at hst
 rw [hw']
 exact hst
theorem zL1 {K G : Nat} {cols : List Co} {rows : List (List Vc)} {ids : List Int} {sps : List (Int × Int × Int × Int)} (hl : sps.length <= 1000) (i bt ba et ea : Int) (w : World) (h : GrpAt K w G cols rows ids sps) :
  Calls Tryz.prog 40 #[.pointer (some ⟨G, 0, none⟩), .int .i64 i, .agg #[.int .i64 bt, .int .i64 ba, .int .i64 et, .int .i64 ea]] w fun e w' =>
   (∃ k : Nat, i = (k : Int) ∧ k < sps.length ∧ e = .returned (.bool true) ∧ GrpAt K w' G cols rows ids (sps.set k (bt, ba, et, ea)) ∧ Below K w w' ∧ w.heap.size <= w'.heap.size) ∨
    ((i < 0 ∨ (sps.length : Int) <= i) ∧ e = .returned (.bool false) ∧ Below w.heap.size w w') := by
 obtain ⟨h0, K2, sg, n, ic, tc, ia, ta, h1, h2, h2b, h3, h4, h5, h6, h7⟩ := h
 have c2 : w.cell? ⟨G, 2, none⟩ = some (.slice ta n tc) := by rw [Qj w G 2 _ _ _ h3]; rfl
 have hGs := (Qa.1 h3).1
 have hn : n <= 1000 := by omega
 by_cases hneg : i < 0
 ·have hnd : decide (i < 0) = true := decide_eq_true hneg
  have HX := hid (show i < 0 ∨ (sps.length : Int) <= i from .inl hneg)
  clear h0 h1 h2 h2b h3 h4 h5 h6 h7 hl hneg
  go_enter Tryz.func40, Tryz.ntmps40
  go_wp2_with fail
  go_ret
  exact .inr ⟨HX.out, rfl, zAd w _⟩
 ·have hnd : decide (i < 0) = false := decide_eq_false hneg
  by_cases hge : (n : Int) <= i
  ·have hgd : decide ((n : Int) <= i) = true := decide_eq_true hge
   have HX := hid (show i < 0 ∨ (sps.length : Int) <= i from .inr (by rw [<- h2b]; exact hge))
   have c2a : (w.alloc (.cells #[.int .i64 bt, .int .i64 ba, .int .i64 et, .int .i64 ea] 79)).cell? ⟨G, 2, none⟩ = some (.slice ta n tc) := by rw [Qj _ G 2 _ _ _ ((heap_alloc_old w _ hGs).trans h3)]; rfl
   clear h0 h1 h2 h2b h3 h4 h5 h6 h7 hl
   go_enter Tryz.func40, Tryz.ntmps40
   go_wp2_with fail
   go_ret
   exact .inr ⟨HX.out, rfl, zAd w _⟩
  ·have hgd : decide ((n : Int) <= i) = false := decide_eq_false hge
   obtain ⟨k, rfl⟩ : ∃ k : Nat, i = (k : Int) := ⟨i.toNat, by omega⟩
   have hk : k < n := by omega
   have hki : (k : Int) < (n : Int) := by omega
   have hk0 : (0 : Int) <= (k : Int) := by omega
   obtain ⟨tb, rfl⟩ : ∃ tb, ta = some ⟨tb, 0, none⟩ := by
    rcases h6.2 with ⟨_, h⟩ | ⟨g, cap, cur, h, _⟩
    ·omega
    ·simp only [Value.slice.injEq] at h; exact ⟨g, h.1⟩
   obtain ⟨wv, hwv⟩ : ∃ wv : World, wv = w.alloc (.cells #[.int .i64 bt, .int .i64 ba, .int .i64 et, .int .i64 ea] 79) := ⟨_, rfl⟩
   obtain ⟨VB, hVB⟩ : ∃ VB, VB = w.heap.size := ⟨_, rfl⟩
   have hxv : wv.heap[VB]? = some (.cells #[.int .i64 bt, .int .i64 ba, .int .i64 et, .int .i64 ea] 79 (0, 0)) := by rw [hwv, hVB]; exact heap_alloc_new _ _
   have v0 : wv.cell? ⟨VB, 0, none⟩ = some (.int .i64 bt) := by rw [Qj wv VB 0 _ _ _ hxv]; rfl
   have v1 : wv.cell? ⟨VB, 1, none⟩ = some (.int .i64 ba) := by rw [Qj wv VB 1 _ _ _ hxv]; rfl
   have v2 : wv.cell? ⟨VB, 2, none⟩ = some (.int .i64 et) := by rw [Qj wv VB 2 _ _ _ hxv]; rfl
   have v3 : wv.cell? ⟨VB, 3, none⟩ = some (.int .i64 ea) := by rw [Qj wv VB 3 _ _ _ hxv]; rfl
   have c2a : wv.cell? ⟨G, 2, none⟩ = some (.slice (some ⟨tb, 0, none⟩) n tc) := by rw [hwv, Qj _ G 2 _ _ _ ((heap_alloc_old w _ hGs).trans h3)]; rfl
   have HAG := hid (show Agree (fun _ => False) w wv by rw [hwv]; exact zCf _ _ _)
   obtain ⟨cur, hcur⟩ := zCo (zAe h6 HAG.out (fun _ _ h => h))
   have f0 : wv.frozen? ⟨tb, k * 4, none⟩ = false := Qk wv tb (k * 4) _ _ hcur.1
   have f1 : wv.frozen? ⟨tb, k * 4 + 1, none⟩ = false := Qk wv tb (k * 4 + 1) _ _ hcur.1
   have f2 : wv.frozen? ⟨tb, k * 4 + 2, none⟩ = false := Qk wv tb (k * 4 + 2) _ _ hcur.1
   have f3 : wv.frozen? ⟨tb, k * 4 + 3, none⟩ = false := Qk wv tb (k * 4 + 3) _ _ hcur.1
   have h6w := zAe h6 HAG.out (fun _ _ h => h)
   have hce : ∀ j, j < n * 4 -> ∃ u, wv.cell? ⟨tb, j, none⟩ = some u := fun j hj => ⟨_, (h6w.cellAt j hj).trans (Qe (by rw [h6w.1]; exact hj))⟩
   obtain ⟨d0, hd0⟩ := hce (k * 4) (by omega)
   obtain ⟨d1, hd1⟩ := hce (k * 4 + 1) (by omega)
   obtain ⟨d2, hd2⟩ := hce (k * 4 + 2) (by omega)
   obtain ⟨d3, hd3⟩ := hce (k * 4 + 3) (by omega)
   clear h6w hce
   have HP := hid fun (w1 w' : World) (hw1 : Agree (fun _ => False) w w1) hw' => GrpAt.poke (t := (bt, ba, et, ea)) h0 h1 h2 h2b h3 h4 h5 h6 h7 hw1 hk hw' (w' := w')
   have HKL := hid (show k < sps.length by rw [<- h2b]; exact hk)
   clear h0 h1 h2 h2b h3 h4 h5 h6 h7 hl hcur hxv c2
   go_enter Tryz.func40, Tryz.ntmps40
   go_upto_region 1 with (fail)
   rw [<- hwv, <- hVB]
   clear hwv hVB
   go_upto_region 3 with (fail)
   go_region
   go_wp2_with fail
   go_ret
   refine .inl ⟨k, rfl, HKL.out, rfl, ?_⟩
   exact HP.out _ _ (by first | exact HAG.out.drew | exact HAG.out) rfl
theorem zCh {K sz n : Nat} {w : World} {E : TypeId} {v : Value} {xs : List Value} (h : w.ownsRow K E sz v n xs) : ∃ a c, v = .slice a n c := by
 rcases h.2 with ⟨rfl, rfl⟩ | ⟨g, cap, cur, rfl, _⟩
 ·exact ⟨_, _, rfl⟩
 ·exact ⟨_, _, rfl⟩
theorem zE1 {K sz n : Nat} {w : World} {E : TypeId} {a : Option Addr} {c : Nat} {xs : List Value} (h : w.ownsRow K E sz (.slice a n c) n xs) (hn : 0 < n) : ∃ g, a = some ⟨g, 0, none⟩ := by
 rcases h.2 with ⟨_, h⟩ | ⟨g, cap, cur, h, _⟩
 ·omega
 ·simp only [Value.slice.injEq] at h; exact ⟨g, h.1⟩
theorem zL2 : ∀ (l : List (Int × Int × Int × Int)) (k : Nat) (s : Int × Int × Int × Int), l[k]? = some s ->
  (l.map spc).flatten[k * 4]? = some (.int .i64 s.1) ∧ (l.map spc).flatten[k * 4 + 1]? = some (.int .i64 s.2.1) ∧ (l.map spc).flatten[k * 4 + 2]? = some (.int .i64 s.2.2.1) ∧ (l.map spc).flatten[k * 4 + 3]? = some (.int .i64 s.2.2.2)
 | [], k, s, h => by simp at h
 | a :: r, 0, s, h => by
  have ha : a = s := by simpa using h
  subst ha
  exact ⟨rfl, rfl, rfl, rfl⟩
 | a :: r, k + 1, s, h => by
  have ih := zL2 r k s (by simpa using h)
  rw [Qc, Qd, show (k + 1) * 4 = k * 4 + 1 + 1 + 1 + 1 by omega, show k * 4 + 1 + 1 + 1 + 1 + 1 = (k * 4 + 1) + 1 + 1 + 1 + 1 by omega, show k * 4 + 1 + 1 + 1 + 1 + 2 = (k * 4 + 2) + 1 + 1 + 1 + 1 by omega, show k * 4 + 1 + 1 + 1 + 1 + 3 = (k * 4 + 3) + 1 + 1 + 1 + 1 by omega]
  simp only [spc, Qg, Qh, List.getElem?_cons_succ]
  exact ih
theorem zL3 {w : World} {X : Nat} {a0 a1 a2 a3 a4 a5 v0 v1 v2 v3 v4 v5 : Value} {T : TypeId} (h : w.heap[X]? = some (.cells #[a0, a1, a2, a3, a4, a5] T (0, 0))) : ((((((w.setCell ⟨X, 0, none⟩ v0).setCell ⟨X, 1, none⟩ v1).setCell ⟨X, 2, none⟩ v2).setCell ⟨X, 3, none⟩ v3).setCell ⟨X, 4, none⟩ v4).setCell ⟨X, 5, none⟩ v5).heap[X]? = some (.cells #[v0, v1, v2, v3, v4, v5] T (0, 0)) := by
 have h0 := Ql w X 0 _ _ v0 h
 have h1 := Ql (w.setCell ⟨X, 0, none⟩ v0) X 1 _ _ v1 h0
 have h2 := Ql ((w.setCell ⟨X, 0, none⟩ v0).setCell ⟨X, 1, none⟩ v1) X 2 _ _ v2 h1
 have h3 := Ql (((w.setCell ⟨X, 0, none⟩ v0).setCell ⟨X, 1, none⟩ v1).setCell ⟨X, 2, none⟩ v2) X 3 _ _ v3 h2
 have h4 := Ql ((((w.setCell ⟨X, 0, none⟩ v0).setCell ⟨X, 1, none⟩ v1).setCell ⟨X, 2, none⟩ v2).setCell ⟨X, 3, none⟩ v3) X 4 _ _ v4 h3
 have h5 := Ql (((((w.setCell ⟨X, 0, none⟩ v0).setCell ⟨X, 1, none⟩ v1).setCell ⟨X, 2, none⟩ v2).setCell ⟨X, 3, none⟩ v3).setCell ⟨X, 4, none⟩ v4) X 5 _ _ v5 h4
 simpa only [List.setIfInBounds_toArray, List.set_cons_zero, Qb] using h5
theorem zFs : (Tryz.prog.info? 81).map (·.size) = some 6 := by kernel_rfl
theorem zD9 {K K0 sz n : Nat} {w w' : World} {E : TypeId} {v : Value} {xs : List Value} (h : w.ownsRow K E sz v n xs) (ha : Above K w w') (hk : K0 <= K) : w'.ownsRow K0 E sz v n xs := by
 obtain ⟨h1, h2 | ⟨g, cap, cur, rfl, hg, hb, h3⟩⟩ := h
 ·exact ⟨h1, .inl h2⟩
 ·exact ⟨h1, .inr ⟨g, cap, cur, rfl, by omega, (ha g hg (Qa.1 hb).1).trans hb, h3⟩⟩
theorem OwnW.above {B B0 : Nat} {w w' : World} {v : Value} {l : List (Vc × Value)} (h : OwnW B w v l) (ha : Above B w w') (hk : B0 <= B) : OwnW B0 w' v l :=
 ⟨zD9 h.row ha hk, fun t ht => ⟨zD9 (h.els t ht).1 ha hk, (h.els t ht).2⟩, h.apart⟩
theorem zJ7 (w : World) (X : Nat) (v0 v1 v2 v3 v4 v5 : Value) : Agree (fun b => b = X) w ((((((w.setCell ⟨X, 0, none⟩ v0).setCell ⟨X, 1, none⟩ v1).setCell ⟨X, 2, none⟩ v2).setCell ⟨X, 3, none⟩ v3).setCell ⟨X, 4, none⟩ v4).setCell ⟨X, 5, none⟩ v5) := by
 have a0 := (Agree.refl (fun b => b = X) w).set ⟨X, 0, none⟩ v0 (.inl rfl)
 have a1 := a0.set ⟨X, 1, none⟩ v1 (.inl rfl)
 have a2 := a1.set ⟨X, 2, none⟩ v2 (.inl rfl)
 have a3 := a2.set ⟨X, 3, none⟩ v3 (.inl rfl)
 have a4 := a3.set ⟨X, 4, none⟩ v4 (.inl rfl)
 exact a4.set ⟨X, 5, none⟩ v5 (.inl rfl)
theorem zL4 {K G : Nat} {cols : List Co} {rows : List (List Vc)} {ids : List Int} {sps : List (Int × Int × Int × Int)} (hrc : RowsC cols rows) (hne : 0 < cols.length) (hm6 : cols.length <= 6) (hrl : rows.length = ids.length) (hl : ids.length <= 1000) (i : Int) (w : World) (h : GrpAt K w G cols rows ids sps) :
  Calls Tryz.prog 37 #[.pointer (some ⟨G, 0, none⟩), .int .i64 i] w fun e w' =>
   ((∃ (k : Nat) (r : List Vc) (id : Int) (s : Int × Int × Int × Int) (v : Value) (l : List (Vc × Value)), i = (k : Int) ∧ rows[k]? = some r ∧ ids[k]? = some id ∧ sps[k]? = some s ∧
     e = .returned (.tuple #[.agg #[.int .i64 id, v, .int .i64 s.1, .int .i64 s.2.1, .int .i64 s.2.2.1, .int .i64 s.2.2.2], .bool true]) ∧ l.map Prod.fst = r ∧ OwnW w.heap.size w' v l) ∨
    (rowAt rows i = none ∧ e = .returned (.tuple #[.agg #[.int .i64 0, .slice none 0 0, .int .i64 0, .int .i64 0, .int .i64 0, .int .i64 0], .bool false]))) ∧ Below w.heap.size w w' := by
 obtain ⟨wv, hwv⟩ : ∃ wv : World, wv = w.alloc (.cells #[.int .i64 0, .slice none 0 0, .int .i64 0, .int .i64 0, .int .i64 0, .int .i64 0] 81) := ⟨_, rfl⟩
 obtain ⟨VB, hVB⟩ : ∃ VB, VB = w.heap.size := ⟨_, rfl⟩
 have hxv : wv.heap[VB]? = some (.cells #[.int .i64 0, .slice none 0 0, .int .i64 0, .int .i64 0, .int .i64 0, .int .i64 0] 81 (0, 0)) := by rw [hwv, hVB]; exact heap_alloc_new _ _
 have HBV := hid (show Below w.heap.size w wv by rw [hwv]; exact zAd _ _)
 have HGV := hid (h.kept HBV.out)
 obtain ⟨h0, K2, sg, n, ic, tc, ia, ta, h1, h2, h2b, h3, h4, h5, h6, h7⟩ := HGV.out
 have c0 : wv.cell? ⟨G, 0, none⟩ = some (.pointer (some ⟨sg, 0, none⟩)) := by rw [Qj wv G 0 _ _ _ h3]; rfl
 have HROW := hid (zRo hrc hne hm6 i wv h4)
 have HX := hid hxv
 have HG3 := hid h3
 have H5 := hid h5
 have H6 := hid h6
 have HN := hid h2
 have HN2 := hid h2b
 have hn : n <= 1000 := by omega
 have HRL := hid (show rows.length = n by omega)
 have HVB := hid hVB
 have HVS := hid (Qa.1 hxv).1
 clear h h0 h1 h2 h2b h3 h4 h5 h6 h7 hxv hrc hne hm6 hrl hl HGV
 go_enter Tryz.func37, Tryz.ntmps37
 go_upto_region 1 with (fail)
 rw [<- hwv, <- hVB]
 rw [<- hVB] at HBV
 clear hwv hVB
 go_wp2_with fail
 refine HROW.out.mono ?_
 rintro e w1 ⟨hret, hb1⟩
 have HB1 := hid hb1
 have HX1 := hid ((hb1.block VB HVS.out).trans HX.out)
 have hx1 := HX1.out
 have v0 : w1.cell? ⟨VB, 0, none⟩ = some (.int .i64 0) := by rw [Qj w1 VB 0 _ _ _ hx1]; rfl
 have v1 : w1.cell? ⟨VB, 1, none⟩ = some (.slice none 0 0) := by rw [Qj w1 VB 1 _ _ _ hx1]; rfl
 have v2 : w1.cell? ⟨VB, 2, none⟩ = some (.int .i64 0) := by rw [Qj w1 VB 2 _ _ _ hx1]; rfl
 have v3 : w1.cell? ⟨VB, 3, none⟩ = some (.int .i64 0) := by rw [Qj w1 VB 3 _ _ _ hx1]; rfl
 have v4 : w1.cell? ⟨VB, 4, none⟩ = some (.int .i64 0) := by rw [Qj w1 VB 4 _ _ _ hx1]; rfl
 have v5 : w1.cell? ⟨VB, 5, none⟩ = some (.int .i64 0) := by rw [Qj w1 VB 5 _ _ _ hx1]; rfl
 have f0 : w1.frozen? ⟨VB, 0, none⟩ = false := Qk w1 VB 0 _ _ hx1
 have f1 : w1.frozen? ⟨VB, 1, none⟩ = false := Qk w1 VB 1 _ _ hx1
 have f2 : w1.frozen? ⟨VB, 2, none⟩ = false := Qk w1 VB 2 _ _ hx1
 have f3 : w1.frozen? ⟨VB, 3, none⟩ = false := Qk w1 VB 3 _ _ hx1
 have f4 : w1.frozen? ⟨VB, 4, none⟩ = false := Qk w1 VB 4 _ _ hx1
 have f5 : w1.frozen? ⟨VB, 5, none⟩ = false := Qk w1 VB 5 _ _ hx1
 have HBW := hid (show Below VB w w1 from HBV.out.trans (hb1.mono (Qi HVS.out)))
 cases ho : rowAt rows i with
 | none =>
  rw [ho] at hret
  obtain rfl := hret
  clear hb1 hx1 c0
  have HO := hid ho
  clear ho
  go_wp2_with fail
  refine bodyPost_ret (results_cell_tmp rfl _ _ VB _ _ (0, 0) _ _ rfl rfl (zL3 HX1.out) Tryz.underlying81 rfl zFs) rfl ?_
  rw [<- HVB.out]
  exact ⟨.inr ⟨HO.out, rfl⟩, HBW.out.trans ((zJ7 w1 VB _ _ _ _ _ _).below (fun i hi e => by omega) (by have := HB1.out.size; have := HVS.out; omega))⟩
 | some r =>
  rw [ho] at hret
  obtain ⟨v, l, rfl, hlr, hown⟩ := hret
  obtain ⟨va, vc, rfl⟩ := zCh hown.row
  have hik : ∃ k : Nat, i = (k : Int) ∧ rows[k]? = some r := by
   unfold rowAt at ho
   split at ho
   ·exact ⟨i.toNat, by omega, ho⟩
   ·cases ho
  obtain ⟨k, rfl, hrk⟩ := hik
  have hk : k < n := by rw [<- HRL.out]; exact (List.getElem?_eq_some_iff.1 hrk).1
  obtain ⟨id, hidx⟩ : ∃ id, ids[k]? = some id := ⟨_, Qe (by rw [<- HN.out]; exact hk)⟩
  obtain ⟨s, hs⟩ : ∃ s, sps[k]? = some s := ⟨_, Qe (by rw [<- HN2.out]; exact hk)⟩
  have hg1 := (hb1.block G (Qa.1 HG3.out).1).trans HG3.out
  have g1 : w1.cell? ⟨G, 1, none⟩ = some (.slice ia n ic) := by rw [Qj w1 G 1 _ _ _ hg1]; rfl
  have g2 : w1.cell? ⟨G, 2, none⟩ = some (.slice ta n tc) := by rw [Qj w1 G 2 _ _ _ hg1]; rfl
  obtain ⟨ib, rfl⟩ := zE1 H5.out (by omega)
  obtain ⟨tb, rfl⟩ := zE1 H6.out (by omega)
  have h5 := zB7 H5.out hb1
  have h6 := zB7 H6.out hb1
  have d0 : w1.cell? ⟨ib, k, none⟩ = some (.int .i64 id) := (h5.cellAt k (by omega)).trans (by rw [List.getElem?_map, hidx]; rfl)
  obtain ⟨s0, s1, s2, s3⟩ := zL2 sps k s hs
  have p0 : w1.cell? ⟨tb, k * 4, none⟩ = some (.int .i64 s.1) := (h6.cellAt (k * 4) (by omega)).trans s0
  have p1 : w1.cell? ⟨tb, k * 4 + 1, none⟩ = some (.int .i64 s.2.1) := (h6.cellAt (k * 4 + 1) (by omega)).trans s1
  have p2 : w1.cell? ⟨tb, k * 4 + 2, none⟩ = some (.int .i64 s.2.2.1) := (h6.cellAt (k * 4 + 2) (by omega)).trans s2
  have p3 : w1.cell? ⟨tb, k * 4 + 3, none⟩ = some (.int .i64 s.2.2.2) := (h6.cellAt (k * 4 + 3) (by omega)).trans s3
  obtain ⟨bt, ba, et, ea⟩ := s
  simp only at p0 p1 p2 p3
  have hki : (k : Int) < (n : Int) := by omega
  have hk0 : (0 : Int) <= (k : Int) := by omega
  have HLR := hid hlr
  have HOWN := hid hown
  have HRK := hid hrk
  have HID := hid hidx
  have HS := hid hs
  clear hb1 hx1 c0 ho hlr hown hrk hidx hs hg1 h5 h6 s0 s1 s2 s3
  go_upto_region 4 with (fail)
  go_region
  go_wp2_with fail
  obtain ⟨WX, hWX⟩ : ∃ WX : World, WX = (((((w1.setCell ⟨VB, 0, none⟩ (.int .i64 id)).setCell ⟨VB, 1, none⟩ (.slice va l.length vc)).setCell ⟨VB, 2, none⟩ (.int .i64 bt)).setCell ⟨VB, 3, none⟩ (.int .i64 ba)).setCell ⟨VB, 4, none⟩ (.int .i64 et)).setCell ⟨VB, 5, none⟩ (.int .i64 ea) := ⟨_, rfl⟩
  rw [<- hWX]
  have hsix : WX.heap[VB]? = some (.cells #[.int .i64 id, .slice va l.length vc, .int .i64 bt, .int .i64 ba, .int .i64 et, .int .i64 ea] 81 (0, 0)) := by rw [hWX]; exact zL3 HX1.out
  have hagx : Agree (fun b => b = VB) w1 WX := by rw [hWX]; exact zJ7 w1 VB _ _ _ _ _ _
  obtain ⟨W3, hW3⟩ : ∃ W3 : World, W3 = WX.drew := ⟨_, rfl⟩
  rw [<- hW3]
  have HX3 := hid (show W3.heap[VB]? = some (.cells #[.int .i64 id, .slice va l.length vc, .int .i64 bt, .int .i64 ba, .int .i64 et, .int .i64 ea] 81 (0, 0)) by rw [hW3]; exact ((zJo (fun _ => False) WX).block VB (Qa.1 hsix).1 (fun h => h)).trans hsix)
  have HAG := hid (show Agree (fun b => b = VB) w1 W3 by rw [hW3]; exact hagx.drew)
  clear hW3 hWX hsix hagx
  have hab : Above wv.heap.size w1 W3 := zHu HAG.out fun i e => by rw [e]; exact HVS.out
  have HOW3 := hid (show OwnW w.heap.size W3 (.slice va l.length vc) l from OwnW.above HOWN.out hab (by rw [<- HVB.out]; exact Qi HVS.out))
  have HB3 := hid (show Below w.heap.size w W3 from by
   rw [<- HVB.out]
   exact Below.trans HBW.out (HAG.out.below (fun i hi e => by omega) (by have := HB1.out.size; have := HVS.out; omega)))
  clear hab
  refine bodyPost_ret (results_cell_tmp rfl _ _ VB _ _ (0, 0) _ _ rfl rfl HX3.out Tryz.underlying81 rfl zFs) rfl ?_
  exact ⟨.inl ⟨k, r, id, (bt, ba, et, ea), .slice va l.length vc, l, rfl, HRK.out, HID.out, HS.out, rfl, HLR.out, HOW3.out⟩, HB3.out⟩
end Go.Proofs.YtmpgnjhgegbdkaaGreat
