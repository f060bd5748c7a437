/-
  Plain: what the parts of rows come to, and all of them.
-/
import Derived.Test.YtnfjdoeemnhkbaaAgl
import Derived.Test.YtnfjdoeemnhkbaaRow9
import Derived.Test.YtnfjdoeemnhkbaaRefk
namespace Go.Proofs.Ytnfjdoeemnhkbaa
set_option linter.unusedVariables false
set_option linter.unusedSimpArgs false
open Go.RowKit

theorem refC_key {a b : Vc} {kk : Int} (ha : NormV a) (hb : NormV b) (h1 : a.k = kk) (h2 : b.k = kk) (hk : kk = 1 ∨ kk = 2) : refC a b = cmpK (keyV a) (keyV b) := by
  rw [← cmpT_key ha hb (h1.trans h2.symm)]
  unfold refC cmpT
  rw [h1, h2]
  rcases hk with rfl | rfl <;> simp
theorem rows9_memA {cols : List Co} {l : List Int} {r : List Vc} (h : r ∈ rows9 cols l) : ∃ (i : Nat) (n : Int), i < 40 ∧ r = (rowOf cols n).set 0 ⟨false, 1, (i : Int) * 3 + n % 2, []⟩ := by
  obtain ⟨i, hi⟩ := List.getElem?_of_mem h
  unfold rows9 at hi
  rw [List.getElem?_mapIdx] at hi
  cases hq : (l.take 40)[i]? with
  | none => rw [hq] at hi; cases hi
  | some n =>
    rw [hq] at hi
    have := (List.getElem?_eq_some_iff.1 hq).1
    rw [List.length_take] at this
    exact ⟨i, n, by omega, (Option.some.inj hi).symm⟩
theorem rows9_leA (cols : List Co) (l : List Int) : (rows9 cols l).length ≤ 40 := by
  unfold rows9
  rw [List.length_mapIdx, List.length_take]
  omega
theorem row9_lenA {cols : List Co} {l : List Int} {r : List Vc} (h : r ∈ rows9 cols l) : r.length = cols.length := by
  obtain ⟨i, n, _, rfl⟩ := rows9_memA h
  rw [List.length_set, rowOf_len]
theorem numOf_i64A (n : Int) : I64 (numOf n) := by
  unfold numOf
  split
  · unfold I64 wrap64
    omega
  · split
    · unfold I64; omega
    · split <;> (unfold I64; omega)
theorem valOf_smallA (c : Co) (n : Int) : I64 (valOf c n).n ∧ (valOf c n).b.length ≤ 8 := by
  unfold valOf
  split
  · exact ⟨by unfold I64; simp, by simp⟩
  · split
    · exact ⟨numOf_i64A n, by simp⟩
    · refine ⟨by unfold I64; simp, ?_⟩
      simp only [List.length_take, List.length_drop]
      have : abcs.length = 8 := rfl
      omega
theorem rowOf_smallA {cols : List Co} (n : Int) : ∀ v ∈ rowOf cols n, I64 v.n ∧ v.b.length ≤ 8 := fun v hv => by
  obtain ⟨i, hi⟩ := List.getElem?_of_mem hv
  rw [rowOf_at] at hi
  cases hc : cols[i]? with
  | none => rw [hc] at hi; cases hi
  | some c =>
    rw [hc] at hi
    simp only [Option.map_some, Option.some.injEq] at hi
    rw [← hi]
    unfold eltOf
    split
    · exact ⟨by unfold I64; simp only; omega, by simp⟩
    · exact valOf_smallA _ _
theorem row9_smallA {cols : List Co} {l : List Int} {r : List Vc} (h : r ∈ rows9 cols l) : ∀ v ∈ r, I64 v.n ∧ v.b.length ≤ 8 := fun v hv => by
  obtain ⟨i, n, hi, rfl⟩ := rows9_memA h
  rcases List.mem_or_eq_of_mem_set hv with h | rfl
  · exact rowOf_smallA n v h
  · exact ⟨by unfold I64; simp only; omega, Nat.zero_le _⟩
theorem row9_atA {cols : List Co} (hok : ColsOk cols) (c : Int) (h0 : 0 ≤ c) (h1 : c < cols.length) : ∃ kk : Int, (kk = 1 ∨ kk = 2) ∧ ∀ (l : List Int), ∀ r ∈ rows9 cols l, NormV (atT r c) ∧ (atT r c).k = kk := by
  have hc : c.toNat < cols.length := by omega
  have hce : cols[c.toNat]? = some cols[c.toNat] := List.getElem?_eq_getElem hc
  obtain ⟨C, hC⟩ : ∃ C, C = cols[c.toNat] := ⟨_, rfl⟩
  have hck : C.k = 1 ∨ C.k = 2 := by rw [hC]; exact hok.ks _ (List.getElem_mem hc)
  rw [← hC] at hce
  clear hC
  obtain ⟨m, hm⟩ : ∃ m, m = c.toNat := ⟨_, rfl⟩
  rw [← hm] at hce hc
  refine ⟨C.k, hck, fun l r hr => ?_⟩
  obtain ⟨i, n, hi, rfl⟩ := rows9_memA hr
  unfold atT
  rw [if_neg (by omega), List.getD_eq_getElem?_getD, ← hm]
  by_cases hz : m = 0
  · have hlen : 0 < (rowOf cols n).length := by rw [rowOf_len]; exact hok.ne
    have hk := (hok.hd _ (by rw [← hz]; exact hce)).1
    rw [hz, List.getElem?_set_self hlen]
    exact ⟨⟨(fun h => by cases h), (fun h => by simp at h), fun _ => rfl⟩, hk.symm⟩
  · rw [List.getElem?_set_ne (by omega), rowOf_at, hce]
    exact eltOf_norm cols hok n _ _ hce
theorem row9_addA {cols : List Co} (hok : ColsOk cols) {l : List Int} {r : List Vc} (hr : r ∈ rows9 cols l) : 0 ≤ addT 0 r ∧ addT 0 r ≤ 200 := by
  obtain ⟨i, n, hi, rfl⟩ := rows9_memA hr
  have hlen : 0 < (rowOf cols n).length := by rw [rowOf_len]; exact hok.ne
  unfold addT atT
  rw [if_neg (by omega : ¬ (0 : Int) < 0), List.getD_eq_getElem?_getD, show (0 : Int).toNat = 0 from rfl, List.getElem?_set_self hlen]
  simp only [Option.getD_some]
  rw [if_neg (by decide)]
  omega
theorem sumT_le {R : List (List Vc)} (h : ∀ r ∈ R, 0 ≤ addT 0 r ∧ addT 0 r ≤ 200) : 0 ≤ sumT R 0 ∧ sumT R 0 ≤ 200 * (R.length : Int) := by
  induction R with
  | nil => exact ⟨by simp [sumT], by simp [sumT]⟩
  | cons x l ih =>
    have h1 := ih fun r hr => h r (List.mem_cons_of_mem _ hr)
    have h2 := h x List.mem_cons_self
    have h3 : sumT (x :: l) 0 = addT 0 x + sumT l 0 := by unfold sumT; rw [List.map_cons, List.sum_cons]
    rw [h3, List.length_cons]
    omega

/-- What a group comes to: the law's two. -/
def rowP (c : Int) (p : List El) : List Vc := [atT ((p.map El.row).headD []) c, ⟨false, 1, p.length, []⟩, ⟨false, 1, sumT (p.map El.row) 0, []⟩]
/-- Rows such as the law's. -/
structure Rows16 (cols : List Co) (l : List Int) (w : World) (v : Value) (E : List El) : Prop where
  row : E.map El.row = rows9 cols l
  rd : Rd w v (E.map Prod.fst)
  el : ∀ x ∈ E, RdP w x.1 x.2
theorem Rows16.kept {cols : List Co} {l : List Int} {w w' : World} {v : Value} {E : List El} (h : Rows16 cols l w v E) (hb : Below w.heap.size w w') : Rows16 cols l w' v E := ⟨h.row, h.rd.kept hb, fun x hx => (h.el x hx).kept hb⟩
theorem Rows16.mem {cols : List Co} {l : List Int} {w : World} {v : Value} {E : List El} (h : Rows16 cols l w v E) {x : El} (hx : x ∈ E) : x.row ∈ rows9 cols l := by rw [← h.row]; exact List.mem_map_of_mem hx
theorem Rows16.le {cols : List Co} {l : List Int} {w : World} {v : Value} {E : List El} (h : Rows16 cols l w v E) : E.length ≤ 40 := by
  have := rows9_leA cols l
  rw [← h.row, List.length_map] at this
  exact this
theorem Rows16.rowsIn {cols : List Co} (hok : ColsOk cols) {l : List Int} {w : World} {v : Value} {E : List El} (h : Rows16 cols l w v E) : RowsIn w E := fun x hx => by
  have hm := h.mem hx
  have hl := row9_lenA hm
  unfold El.row at hl
  rw [List.length_map] at hl
  refine ⟨h.el x hx, by have := hok.le; omega, fun t ht => ?_⟩
  have := row9_smallA hm t.1 (by unfold El.row; exact List.mem_map_of_mem ht)
  exact ⟨this.1, by omega⟩
theorem Rows16.sum {cols : List Co} (hok : ColsOk cols) {l : List Int} {w : World} {v : Value} {E : List El} (h : Rows16 cols l w v E) {p : List El} (hp : ∀ x ∈ p, x ∈ E) : 0 ≤ sumT (p.map El.row) 0 ∧ sumT (p.map El.row) 0 ≤ 200 * (p.length : Int) := by
  have := sumT_le (R := p.map El.row) fun r hr => by
    obtain ⟨x, hx, rfl⟩ := List.mem_map.1 hr
    exact row9_addA hok (h.mem (hp x hx))
  rw [List.length_map] at this
  exact this
theorem tot1 (R : List (List Vc)) (c : Int) : totT R 1 c = some ⟨false, 1, (R.length : Int), []⟩ := by unfold totT; rw [if_pos rfl]
theorem tot2 {R : List (List Vc)} {c : Int} (h : 0 ≤ sumT R c ∧ sumT R c ≤ 1000000) : totT R 2 c = some ⟨false, 1, sumT R c, []⟩ := by
  unfold totT
  rw [if_neg (by decide), if_pos rfl, if_pos ⟨by omega, by omega⟩]
theorem rdS_litsA (w : World) (cs : Array Value) (E : TypeId) (sz n : Nat) (css : List (List Value)) (h : cs.toList = css.flatten) (hl : ∀ t ∈ css, t.length = sz) (hn : n = css.length) : RdS (w.alloc (.cells cs E)) sz (.slice (some ⟨w.heap.size, 0, none⟩) n n) css := by
  subst hn
  refine ⟨some ⟨w.heap.size, 0, none⟩, css.length, rfl, ⟨(fun h => by cases h), Nat.le_refl _⟩, fun k t ht => ⟨w.heap.size, 0, rfl, fun j u hu => ?_⟩⟩
  rw [cell_of_row _ w.heap.size _ _ _ _ (heap_alloc_new w _), Nat.zero_add, ← Array.getElem?_toList, h]
  exact flatten_at css sz hl k t j u ht hu

set_option maxRecDepth 100000 in
set_option maxHeartbeats 4000000 in
theorem partsN_any (E : List El) (v : Value) (w : World) (hv : Rd w v (E.map Prod.fst)) :
    Calls Try.prog 44 #[v, .int .i64 (-1)] w fun e w' => ∃ v', e = .returned v' ∧ ∃ Ps : List (Value × List El), PsRd w' v' Ps ∧ Ps.map Prod.snd = [E] ∧ Below w.heap.size w w' := by
  have HV := Lib.hid hv
  obtain ⟨ao, cap, hvs⟩ : ∃ ao cap, v = .slice ao (E.map Prod.fst).length cap := by obtain ⟨ao, cap, h, _⟩ := hv; exact ⟨ao, cap, h⟩
  obtain ⟨n, hN⟩ : ∃ n, n = (E.map Prod.fst).length := ⟨_, rfl⟩
  rw [← hN] at hvs
  subst hvs
  clear hv hN
  go_enter Try.func44, Try.ntmps44
  go_upto_region 1 with (fail)
  obtain ⟨W, hW⟩ : ∃ W : World, W = w.alloc (.cells #[.int .i64 (-1)] 3) := ⟨_, rfl⟩
  obtain ⟨X, hX⟩ : ∃ X, X = w.heap.size := ⟨_, rfl⟩
  have HX := Lib.hid (show W.heap[X]? = some (.cells #[.int .i64 (-1)] 3 (0, 0)) by rw [hW, hX]; exact heap_alloc_new w _)
  have HBW := Lib.hid (show Below w.heap.size w W by rw [hW]; exact below_alloc w _)
  have cX : W.cell? ⟨X, 0, none⟩ = some (.int .i64 (-1)) := by rw [cell_of_row W X 0 _ _ _ HX.out]; rfl
  rw [← hW, ← hX]
  clear hW hX
  go_wp2_with fail
  go_ret
  have hb2 := below_lay HBW.out (.cells #[.slice ao n cap] 27)
  exact ⟨_, rfl, [(_, E)], ⟨rd_lit W #[.slice ao n cap] _ 1 [.slice ao n cap] rfl rfl (by decide), fun p hp => by rw [List.mem_singleton.1 hp]; exact HV.out.kept hb2⟩, rfl, hb2⟩

/-- What the groups of all come to: of a column; all in one. -/
structure GrpF (w : World) (v : Value) (c : Int) (E : List El) (C S : List Int) (T : List El) : Prop where
  rd : Rd w v (T.map Prod.fst)
  el : ∀ x ∈ T, RdP w x.1 x.2
  pos : ∀ (i : Nat) (x : El), T[i]? = some x → ∃ (k : Vc) (a b : Int) (s0 s1 s2 : Value), x.2 = [(k, s0), (⟨false, 1, a, []⟩, s1), (⟨false, 1, b, []⟩, s2)] ∧ C[i]? = some a ∧ S[i]? = some b ∧ 1 ≤ a ∧ a ≤ 40 ∧ 0 ≤ b ∧ b ≤ 8000
  rise : ∀ (i : Nat) (x y : El) (p q : Vc × Value), T[i]? = some x → T[i + 1]? = some y → x.2[0]? = some p → y.2[0]? = some q → refC p.1 q.1 < 0
  cnt : C.sum = E.length
  sum : S.sum = sumT (E.map El.row) 0
  lc : C.length = T.length
  ls : S.length = T.length
  le : T.length ≤ 40
theorem GrpF.kept {w w' : World} {v : Value} {c : Int} {E T : List El} {C S : List Int} (h : GrpF w v c E C S T) (hb : Below w.heap.size w w') : GrpF w' v c E C S T :=
  { h with rd := h.rd.kept hb, el := fun x hx => (h.el x hx).kept hb }
theorem flat_sum (Ps : List (List El)) : (Ps.map fun p => (p.length : Int)).sum = (Ps.flatten.length : Int) := by
  induction Ps with
  | nil => rfl
  | cons p l ih => rw [List.map_cons, List.sum_cons, ih, List.flatten_cons, List.length_append]; omega
theorem ne_flat (Ps : List (List El)) (h : ∀ p ∈ Ps, p ≠ []) : Ps.length ≤ Ps.flatten.length := by
  induction Ps with
  | nil => exact Nat.le_refl _
  | cons p l ih =>
    have h1 := ih fun q hq => h q (List.mem_cons_of_mem _ hq)
    have h2 : 0 < p.length := List.length_pos_iff.2 (h p List.mem_cons_self)
    rw [List.flatten_cons, List.length_append, List.length_cons]
    omega
theorem mem_len {Ps : List (List El)} {p : List El} (h : p ∈ Ps) : p.length ≤ Ps.flatten.length := by
  induction Ps with
  | nil => cases h
  | cons q l ih =>
    rw [List.flatten_cons, List.length_append]
    rcases List.mem_cons.1 h with rfl | h
    · omega
    · have := ih h; omega
theorem take_sum {C : List Int} {q : Nat} {a : Int} (h : C[q]? = some a) : (C.take (q + 1)).sum = (C.take q).sum + a := by
  rw [List.take_add_one, h, Option.toList_some, List.sum_append_int]
  simp
theorem row3 {x : El} {a b c : Vc} (h : x.row = [a, b, c]) : ∃ s0 s1 s2, x.2 = [(a, s0), (b, s1), (c, s2)] := by
  obtain ⟨xv, xl⟩ := x
  unfold El.row at h
  simp only at h ⊢
  match xl, h with
  | [(p, s0), (q, s1), (r, s2)], h =>
    simp only [List.map_cons, List.map_nil, List.cons.injEq, and_true] at h
    obtain ⟨rfl, rfl, rfl⟩ := h
    exact ⟨s0, s1, s2, rfl⟩
theorem row2 {x : El} {a b : Vc} (h : x.row = [a, b]) : ∃ s0 s1, x.2 = [(a, s0), (b, s1)] := by
  obtain ⟨xv, xl⟩ := x
  unfold El.row at h
  simp only at h ⊢
  match xl, h with
  | [(p, s0), (q, s1)], h =>
    simp only [List.map_cons, List.map_nil, List.cons.injEq, and_true] at h
    obtain ⟨rfl, rfl⟩ := h
    exact ⟨s0, s1, rfl⟩

theorem grpF_of {cols : List Co} (hok : ColsOk cols) {l : List Int} {w0 w : World} {v v0 : Value} {E T : List El} {Ps : List (List El)} {c : Int} (h0 : 0 ≤ c) (h1 : c < cols.length) (hE : Rows16 cols l w0 v0 E) (hp : Ps.flatten.Perm E) (hq : Parted cmpK (fun x : El => keyV (atT x.row c)) Ps)
    (hT : OwnD w0.heap.size w v T) (hl : T.length = Ps.length) (hr : ∀ (i : Nat) (p : List El) (x : El), Ps[i]? = some p → T[i]? = some x → RowOf c [(1, 0), (2, 0)] p x.row) : GrpF w v c E (Ps.map fun p => (p.length : Int)) (Ps.map fun p => sumT (p.map El.row) 0) T := by
  have hfl : Ps.flatten.length ≤ 40 := by rw [hp.length_eq]; exact hE.le
  have hmem : ∀ p ∈ Ps, ∀ x ∈ p, x ∈ E := fun p h x hx => hp.mem_iff.1 (List.mem_flatten.2 ⟨p, h, hx⟩)
  have hrow : ∀ (i : Nat) (x : El), T[i]? = some x → ∃ p, Ps[i]? = some p ∧ p ∈ Ps ∧ x.row = rowP c p := fun i x hx => by
    have hi : i < Ps.length := by rw [← hl]; exact (List.getElem?_eq_some_iff.1 hx).1
    obtain ⟨p, hpi⟩ : ∃ p, Ps[i]? = some p := ⟨_, List.getElem?_eq_getElem hi⟩
    have hpm := List.mem_of_getElem? hpi
    obtain ⟨ts, h2, h3⟩ := hr i p x hpi hx
    have hs := hE.sum hok (hmem p hpm)
    have hpl := mem_len hpm
    refine ⟨p, hpi, hpm, ?_⟩
    rw [if_pos h0] at h2
    simp only [List.map_cons, List.map_nil] at h3
    rw [tot1, tot2 ⟨hs.1, by omega⟩, List.length_map] at h3
    match ts, h3 with
    | [t1, t2], h3 =>
      simp only [List.map_cons, List.map_nil, List.cons.injEq, Option.some.injEq, and_true] at h3
      rw [h2, ← h3.1, ← h3.2]
      rfl
  obtain ⟨kk, hkk, hnk⟩ := row9_atA hok c h0 h1
  have hhd : ∀ p ∈ Ps, ∃ x ∈ p, (p.map El.row).headD [] = x.row ∧ NormV (atT x.row c) ∧ (atT x.row c).k = kk := fun p h => by
    have := hq.ne p h
    cases p with
    | nil => exact absurd rfl this
    | cons x t => exact ⟨x, List.mem_cons_self, rfl, hnk l _ (hE.mem (hmem _ h x List.mem_cons_self))⟩
  refine ⟨Rd.of_owns hT.1, fun x hx => (hT.2 x hx).rd, fun i x hx => ?_, fun i x y p q hx hy hxp hyq => ?_, ?_, ?_, by rw [List.length_map, hl], by rw [List.length_map, hl], ?_⟩
  · obtain ⟨p, hpi, hpm, hxr⟩ := hrow i x hx
    obtain ⟨s0, s1, s2, h⟩ := row3 hxr
    have hs := hE.sum hok (hmem p hpm)
    have hpl := mem_len hpm
    have hp0 : 0 < p.length := List.length_pos_iff.2 (hq.ne p hpm)
    exact ⟨_, _, _, s0, s1, s2, h, by rw [List.getElem?_map, hpi]; rfl, by rw [List.getElem?_map, hpi]; rfl, by omega, by omega, hs.1, by omega⟩
  · obtain ⟨p1, hp1, hm1, hr1⟩ := hrow i x hx
    obtain ⟨p2, hp2, hm2, hr2⟩ := hrow (i + 1) y hy
    obtain ⟨s0, s1, s2, e1⟩ := row3 hr1
    obtain ⟨t0, t1, t2, e2⟩ := row3 hr2
    rw [e1] at hxp
    rw [e2] at hyq
    cases hxp
    cases hyq
    obtain ⟨x1, hx1, hd1, hn1, hk1⟩ := hhd p1 hm1
    obtain ⟨x2, hx2, hd2, hn2, hk2⟩ := hhd p2 hm2
    show refC (atT ((p1.map El.row).headD []) c) (atT ((p2.map El.row).headD []) c) < 0
    rw [hd1, hd2, refC_key hn1 hn2 hk1 hk2 hkk]
    obtain ⟨g1, f1⟩ := List.getElem?_eq_some_iff.1 hp1
    obtain ⟨g2, f2⟩ := List.getElem?_eq_some_iff.1 hp2
    have := List.pairwise_iff_getElem.1 hq.rise i (i + 1) g1 g2 (by omega)
    rw [f1, f2] at this
    exact this x1 hx1 x2 hx2
  · rw [flat_sum, hp.length_eq]
  · have h := sumT_flat (Ps.map fun p => p.map El.row) 0
    rw [List.map_map] at h
    have h2 : (Ps.map fun p => p.map El.row).flatten = Ps.flatten.map El.row := by rw [List.map_flatten]
    rw [h2] at h
    rw [← sumT_perm (hp.map El.row) 0, h]
    rfl
  · have := ne_flat Ps hq.ne
    omega

set_option maxHeartbeats 4000000 in
theorem grp16_any {cols : List Co} (hok : ColsOk cols) (l : List Int) (E : List El) (c : Int) (h0 : 0 ≤ c) (h1 : c < cols.length) (v av : Value) (w : World) (hE : Rows16 cols l w v E) (hav : RdS w 2 av [[.int .i64 1, .int .i64 0], [.int .i64 2, .int .i64 0]]) :
    Calls Try.prog 11 #[v, .int .i64 c, av] w fun e w' => ∃ (v' : Value) (C S : List Int) (T : List El), e = .returned (.tuple #[v', .bool true]) ∧ GrpF w' v' c E C S T ∧ Below w.heap.size w w' := by
  have hle := hE.le
  obtain ⟨kk, hkk, hnk⟩ := row9_atA hok c h0 h1
  have hin := hE.rowsIn hok
  refine (groups_any (fun Ps => Ps.flatten.Perm E ∧ Parted cmpK (fun x : El => keyV (atT x.row c)) Ps) [(1, 0), (2, 0)] (fun a ha => ?_) (by decide) E c v av w hin (fun Ps hP => ?_) hav ?_ ?_).mono ?_
  · simp only [List.mem_cons, List.not_mem_nil, or_false] at ha
    rcases ha with rfl | rfl
    · exact totOK_count 0
    · exact totOK_sum 0
  · have hfl : Ps.flatten.length ≤ 40 := by rw [hP.1.length_eq]; exact hle
    refine ⟨fun p hp => ⟨fun x hx => hP.1.mem_iff.1 (List.mem_flatten.2 ⟨p, hp, hx⟩), ?_, fun _ => hP.2.ne p hp⟩, ?_⟩
    · have := mem_len hp; omega
    · have := ne_flat Ps hP.2.ne; omega
  · obtain ⟨ao, cap, h, _⟩ := hE.rd
    exact ⟨ao, _, cap, h⟩
  · refine (parts_any kk E c h0 (by omega) v w hE.rd (fun x hx => ⟨hE.el x hx, (hin x hx).2.1⟩) (fun x hx => hnk l _ (hE.mem hx))).mono ?_
    rintro e w' ⟨v', rfl, B, hB, Ps, ho, hp, hq, hb⟩
    exact ⟨v', rfl, Ps, ho.rd, ⟨hp, hq⟩, hb⟩
  · rintro e w' ⟨Ps, ⟨hp, hq⟩, hb, h⟩
    rcases h with ⟨v', rfl, T, hT, hTl, hTr⟩ | ⟨_, p, hpm, a, ha, hn⟩
    · exact ⟨v', _, _, T, rfl, grpF_of hok h0 h1 hE hp hq hT hTl hTr, hb⟩
    · exfalso
      have hs := hE.sum hok (p := p) fun x hx => hp.mem_iff.1 (List.mem_flatten.2 ⟨p, hpm, hx⟩)
      have hpl := mem_len hpm
      have hfl : Ps.flatten.length ≤ 40 := by rw [hp.length_eq]; exact hle
      simp only [List.mem_cons, List.not_mem_nil, or_false] at ha
      rcases ha with rfl | rfl
      · rw [tot1] at hn; cases hn
      · rw [tot2 ⟨hs.1, by omega⟩] at hn; cases hn

set_option maxHeartbeats 4000000 in
theorem grpN_any {cols : List Co} (hok : ColsOk cols) (l : List Int) (E : List El) (v av : Value) (w : World) (hE : Rows16 cols l w v E) (hav : RdS w 2 av [[.int .i64 1, .int .i64 0], [.int .i64 2, .int .i64 0]]) :
    Calls Try.prog 11 #[v, .int .i64 (-1), av] w fun e w' => ∃ (v' x1 s0 s1 : Value), e = .returned (.tuple #[v', .bool true]) ∧ Rd w' v' [x1] ∧ RdP w' x1 [(⟨false, 1, E.length, []⟩, s0), (⟨false, 1, sumT (E.map El.row) 0, []⟩, s1)] ∧ Below w.heap.size w w' := by
  have hle := hE.le
  have hin := hE.rowsIn hok
  have hs := hE.sum hok (p := E) fun x hx => hx
  refine (groups_any (fun Ps => Ps = [E]) [(1, 0), (2, 0)] (fun a ha => ?_) (by decide) E (-1) v av w hin (fun Ps hP => ?_) hav ?_ ?_).mono ?_
  · simp only [List.mem_cons, List.not_mem_nil, or_false] at ha
    rcases ha with rfl | rfl
    · exact totOK_count 0
    · exact totOK_sum 0
  · subst hP
    refine ⟨fun p hp => ?_, by simp⟩
    rw [List.mem_singleton.1 hp]
    exact ⟨fun x hx => hx, by omega, fun h => by omega⟩
  · obtain ⟨ao, cap, h, _⟩ := hE.rd
    exact ⟨ao, _, cap, h⟩
  · exact partsN_any E v w hE.rd
  · rintro e w' ⟨Ps, rfl, hb, h⟩
    rcases h with ⟨v', rfl, T, hT, hTl, hTr⟩ | ⟨_, p, hpm, a, ha, hn⟩
    · match T, hTl with
      | [x], _ =>
        obtain ⟨ts, h2, h3⟩ := hTr 0 E x rfl rfl
        rw [if_neg (by decide), List.nil_append] at h2
        simp only [List.map_cons, List.map_nil] at h3
        rw [tot1, tot2 ⟨hs.1, by omega⟩, List.length_map] at h3
        match ts, h3 with
        | [t1, t2], h3 =>
          simp only [List.map_cons, List.map_nil, List.cons.injEq, Option.some.injEq, and_true] at h3
          rw [← h3.1, ← h3.2] at h2
          obtain ⟨s0, s1, hx⟩ := row2 h2
          refine ⟨v', x.1, s0, s1, rfl, Rd.of_owns hT.1, ?_, hb⟩
          rw [← hx]
          exact (hT.2 x List.mem_cons_self).rd
    · exfalso
      rw [List.mem_singleton.1 hpm] at hn
      simp only [List.mem_cons, List.not_mem_nil, or_false] at ha
      rcases ha with rfl | rfl
      · rw [tot1] at hn; cases hn
      · rw [tot2 ⟨hs.1, by omega⟩] at hn; cases hn
end Go.Proofs.Ytnfjdoeemnhkbaa
