/-
  Contract of the reference's OkPred; the law's predicates.
-/
import Derived.Test.YtfmkalnnpddefaaOkd
import Derived.Test.YtfmkalnnpddefaaNormKeys
import Derived.Test.YtfmkalnnpddefaaNlaw
namespace Go.Proofs.Ytfmkalnnpddefaa
set_option linter.unusedVariables false
set_option linter.unusedSimpArgs false
open Go.RowKit

theorem cntL_bd : ∀ {l : List Pt} {C : Nat}, (∀ t ∈ l, cntT t ≤ C) → cntL l ≤ l.length * C
  | [], C, _ => by simp [cntL]
  | q :: r, C, h => by
    have h1 := h q List.mem_cons_self
    have h2 := cntL_bd (l := r) fun x hx => h x (List.mem_cons_of_mem _ hx)
    rw [cntL, List.length_cons, Nat.add_mul]
    omega

set_option maxRecDepth 100000 in
set_option maxHeartbeats 8000000 in
theorem okpred_some (cols : List Co) (p : Pt) (hp : RightOK cols p) (cs : List Value) (sv : Value) (w : World) (hv : RdC w sv cols) (hr : RdT1 w p cs) :
    Calls Try.prog 26 #[.agg #[sv], .agg cs.toArray] w fun e w' => ∃ b, e = .returned (.bool b) ∧ Below w.heap.size w w' := by
  have HV := Lib.hid hv
  have HR := Lib.hid hr
  obtain ⟨sa, sc, rfl⟩ := rdC_shape hv
  obtain ⟨sn, hsn⟩ : ∃ sn, sn = cols.length := ⟨_, rfl⟩
  rw [← hsn] at HV ⊢
  obtain ⟨k, c, o, vk, vn, u, a, n, m, a2, n2, m2, rfl⟩ := rdT1_shape hr
  have HB0 := Lib.hid (below2 w (.cells #[.slice sa sn sc] 24) (.cells #[.int .i64 k, .int .i64 c, .int .i64 o, .bool u, .int .i64 vk, .int .i64 vn, .slice a n m, .slice a2 n2 m2] 31))
  have HX0 := Lib.hid ((heap_alloc_old (w.alloc (.cells #[.slice sa sn sc] 24)) (.cells #[.int .i64 k, .int .i64 c, .int .i64 o, .bool u, .int .i64 vk, .int .i64 vn, .slice a n m, .slice a2 n2 m2] 31) (r := w.heap.size) (by simp)).trans (heap_alloc_new w _))
  have HY0 := Lib.hid (heap2 w (.cells #[.slice sa sn sc] 24) (.cells #[.int .i64 k, .int .i64 c, .int .i64 o, .bool u, .int .i64 vk, .int .i64 vn, .slice a n m, .slice a2 n2 m2] 31))
  clear hv hr hsn
  go_enter Try.func26, Try.ntmps26
  go_upto_region 1 with (fail)
  obtain ⟨W, hW⟩ : ∃ W : World, W = (w.alloc (.cells #[.slice sa sn sc] 24)).alloc (.cells #[.int .i64 k, .int .i64 c, .int .i64 o, .bool u, .int .i64 vk, .int .i64 vn, .slice a n m, .slice a2 n2 m2] 31) := ⟨_, rfl⟩
  rw [← hW] at HB0 HX0 HY0 ⊢
  obtain ⟨SB, hSB⟩ : ∃ SB, SB = w.heap.size := ⟨_, rfl⟩
  rw [← hSB] at HX0 HY0 ⊢
  clear hW hSB
  have hy := HY0.out
  have d0 : W.cell? ⟨SB + 1, 0, none⟩ = some (.int .i64 k) := by rw [cell_of_row W _ 0 _ _ _ hy]; rfl
  have d1 : W.cell? ⟨SB + 1, 1, none⟩ = some (.int .i64 c) := by rw [cell_of_row W _ 1 _ _ _ hy]; rfl
  have d2 : W.cell? ⟨SB + 1, 2, none⟩ = some (.int .i64 o) := by rw [cell_of_row W _ 2 _ _ _ hy]; rfl
  have d3 : W.cell? ⟨SB + 1, 3, none⟩ = some (.bool u) := by rw [cell_of_row W _ 3 _ _ _ hy]; rfl
  have d4 : W.cell? ⟨SB + 1, 4, none⟩ = some (.int .i64 vk) := by rw [cell_of_row W _ 4 _ _ _ hy]; rfl
  have d5 : W.cell? ⟨SB + 1, 5, none⟩ = some (.int .i64 vn) := by rw [cell_of_row W _ 5 _ _ _ hy]; rfl
  have d6 : W.cell? ⟨SB + 1, 6, none⟩ = some (.slice a n m) := by rw [cell_of_row W _ 6 _ _ _ hy]; rfl
  have d7 : W.cell? ⟨SB + 1, 7, none⟩ = some (.slice a2 n2 m2) := by rw [cell_of_row W _ 7 _ _ _ hy]; rfl
  clear hy
  have HD := Lib.hid (deep_any 6 (by decide) p _ W (RdT1.kept HB0.out _ HR.out))
  go_wp2_with fail
  refine HD.out.mono ?_
  rintro e W2 ⟨x, y, rfl, _, hb2⟩
  have hx := (hb2.block SB (Array.getElem?_eq_some_iff.1 HX0.out).1).trans HX0.out
  have hy := (hb2.block (SB + 1) (Array.getElem?_eq_some_iff.1 HY0.out).1).trans HY0.out
  have HB2 := Lib.hid (below_then HB0.out hb2)
  clear hb2 d0 d1 d2 d3 d4 d5 d6 d7
  by_cases h1 : x ≤ 5
  · have g1 : decide (x ≤ 5) = true := by rw [decide_eq_true_eq]; exact h1
    by_cases h2 : y ≤ 64
    · have g2 : decide (y ≤ 64) = true := by rw [decide_eq_true_eq]; exact h2
      have ds : W2.cell? ⟨SB, 0, none⟩ = some (.slice sa sn sc) := by rw [cell_of_row W2 _ 0 _ _ _ hx]; rfl
      have d0 : W2.cell? ⟨SB + 1, 0, none⟩ = some (.int .i64 k) := by rw [cell_of_row W2 _ 0 _ _ _ hy]; rfl
      have d1 : W2.cell? ⟨SB + 1, 1, none⟩ = some (.int .i64 c) := by rw [cell_of_row W2 _ 1 _ _ _ hy]; rfl
      have d2 : W2.cell? ⟨SB + 1, 2, none⟩ = some (.int .i64 o) := by rw [cell_of_row W2 _ 2 _ _ _ hy]; rfl
      have d3 : W2.cell? ⟨SB + 1, 3, none⟩ = some (.bool u) := by rw [cell_of_row W2 _ 3 _ _ _ hy]; rfl
      have d4 : W2.cell? ⟨SB + 1, 4, none⟩ = some (.int .i64 vk) := by rw [cell_of_row W2 _ 4 _ _ _ hy]; rfl
      have d5 : W2.cell? ⟨SB + 1, 5, none⟩ = some (.int .i64 vn) := by rw [cell_of_row W2 _ 5 _ _ _ hy]; rfl
      have d6 : W2.cell? ⟨SB + 1, 6, none⟩ = some (.slice a n m) := by rw [cell_of_row W2 _ 6 _ _ _ hy]; rfl
      have d7 : W2.cell? ⟨SB + 1, 7, none⟩ = some (.slice a2 n2 m2) := by rw [cell_of_row W2 _ 7 _ _ _ hy]; rfl
      have HQ := Lib.hid (hp _ _ W2 (RdC.kept HV.out HB2.out) (RdT1.kept HB2.out _ HR.out))
      clear hx hy
      go_wp2_with fail
      refine HQ.out.mono ?_
      rintro e W3 ⟨b, rfl, hb3⟩
      have HB3 := Lib.hid (below_then HB2.out hb3)
      clear hb3
      go_wp2_with fail
      go_ret
      exact ⟨b, rfl, HB3.out⟩
    · have g2 : decide (y ≤ 64) = false := by rw [decide_eq_false_iff_not]; exact h2
      go_wp2_with fail
      go_ret
      exact ⟨false, rfl, HB2.out⟩
  · have g1 : decide (x ≤ 5) = false := by rw [decide_eq_false_iff_not]; exact h1
    go_wp2_with fail
    go_ret
    exact ⟨false, rfl, HB2.out⟩

/-! Of the law's predicates. -/
def leafC (cols : List Co) (t : Pt) : Prop := match t with
  | .mk k c o v l => (k = 2 ∨ k = 3 → leafR cols (.mk k c o v l) ∧ v.b.length ≤ 8)
mutual
def okR (cols : List Co) : Pt → Prop
  | .mk k c o v l => (k = 2 ∨ k = 3 → leafR cols (.mk k c o v l) ∧ v.b.length ≤ 8) ∧ okRs cols l
def okRs (cols : List Co) : List Pt → Prop
  | [] => True
  | q :: t => okR cols q ∧ okRs cols t
end
theorem okRs_mem {cols : List Co} : ∀ {l : List Pt}, okRs cols l → ∀ q ∈ l, okR cols q
  | [], _, q, hq => by cases hq
  | p :: t, h, q, hq => by
    unfold okRs at h
    rcases List.mem_cons.1 hq with rfl | h1
    · exact h.1
    · exact okRs_mem h.2 q h1
theorem okRs_of {cols : List Co} : ∀ {l : List Pt}, (∀ q ∈ l, okR cols q) → okRs cols l
  | [], _ => by unfold okRs; trivial
  | p :: t, h => by unfold okRs; exact ⟨h p List.mem_cons_self, okRs_of fun q hq => h q (List.mem_cons_of_mem _ hq)⟩
theorem cmpV_nn (cols : List Co) (n : Int) : (cmpV cols n).u = false := by
  unfold cmpV
  split
  · rfl
  · split
    · rfl
    · unfold valOf
      rw [if_neg (by simp)]
      split <;> rfl
theorem cmpV_len8 (cols : List Co) (n : Int) : (cmpV cols n).b.length ≤ 8 := by
  unfold cmpV
  split
  · exact Nat.zero_le _
  · split
    · exact Nat.zero_le _
    · exact valOf_len _ _
theorem leafOf_okR {cols : List Co} (h : ColsOk cols) (n k : Int) : okR cols (leafOf cols n k) := by
  have hl := colOf_lt cols h.ne n
  have hc : cols[colOf cols n]? = some cols[colOf cols n] := List.getElem?_eq_getElem hl
  unfold leafOf
  split
  · unfold okR; exact ⟨fun h => by omega, by unfold okRs; trivial⟩
  · split
    · unfold okR; exact ⟨fun _ => ⟨.inr ⟨rfl, ⟨_, rfl, hl⟩, rfl, rfl, rfl⟩, Nat.zero_le _⟩, by unfold okRs; trivial⟩
    · unfold okR; exact ⟨fun _ => ⟨.inl ⟨rfl, rfl, ⟨_, _, rfl, hc, h.ks _ (List.mem_of_getElem? hc), cmpV_nn _ _, cmpV_k h n hc⟩, by omega, by omega⟩, cmpV_len8 _ _⟩, by unfold okRs; trivial⟩
theorem predOf_okR {cols : List Co} (h : ColsOk cols) (l : List Int) : ∀ (d at_ : Nat), okR cols (predOf cols l d at_)
  | 0, at_ => by unfold predOf; exact leafOf_okR h _ _
  | d + 1, at_ => by
    unfold predOf
    split
    · rename_i hk
      unfold okR
      refine ⟨fun h2 => by omega, okRs_of fun q hq => ?_⟩
      obtain ⟨i, _, rfl⟩ := List.mem_map.1 hq
      exact predOf_okR h l d _
    · split
      · unfold okR
        exact ⟨fun h2 => by omega, okRs_of fun q hq => by rw [List.mem_singleton.1 hq]; exact predOf_okR h l d _⟩
      · exact leafOf_okR h _ _
/-- A thing of a form of the law's predicates: right, and small. -/
def thingS (cols : List Co) (t : Pt) : Prop := thingR cols t ∧ depT t ≤ 2 ∧ cntT t ≤ 20 ∧ nodesT t ≤ 2
theorem leaf_small {cols : List Co} {t : Pt} (h : leafR cols t) (hb : match t with | .mk _ _ _ v _ => v.b.length ≤ 8) : depT t ≤ 1 ∧ cntT t ≤ 8 ∧ nodesT t ≤ 1 := by
  obtain ⟨k, c, o, v, l⟩ := t
  have hl : l = [] := by
    rcases h with ⟨_, h, _⟩ | ⟨_, _, _, _, h⟩
    · exact h
    · exact h
  subst hl
  simp only at hb
  simp only [depT, depL, cntT, cntL, nodesT, nodesL, List.length_nil]
  omega
theorem things_S {cols : List Co} {p : Pt} (hp : okR cols p) {nt : Bool} {a : List (List Pt)} (h : nrm p nt = some a) : ∀ x ∈ a, ∀ t ∈ x, thingS cols t :=
  nrm_all (R := okR cols) (Q := thingS cols) ⟨fun c o v l hr o' ho => by
      unfold okR at hr
      obtain ⟨h1, h2⟩ := hr.1 (.inl rfl)
      have h3 : leafR cols (.mk 2 c o' v l) := by
        rcases h1 with ⟨_, g1, g2, g3, g4⟩ | ⟨g, _⟩
        · refine .inl ⟨rfl, g1, g2, ?_⟩
          rcases ho with rfl | rfl
          · exact ⟨g3, g4⟩
          · exact opN_range o g3 g4
        · omega
      have := leaf_small h3 h2
      exact ⟨.inl h3, by omega, by omega, by omega⟩,
    fun c o v l hr => by
      unfold okR at hr
      obtain ⟨h1, h2⟩ := hr.1 (.inr rfl)
      obtain ⟨s1, s2, s3⟩ := leaf_small h1 h2
      refine ⟨⟨.inl h1, by omega, by omega, by omega⟩, ⟨.inr ⟨c, o, v, l, rfl, h1⟩, ?_⟩⟩
      have hz : zeroV.b.length = 0 := rfl
      rw [depT, cntT, nodesT]
      simp only [depL, cntL, nodesL, List.length_cons, List.length_nil, hz]
      omega⟩
    (fun k c o v l _ hr q hq => by unfold okR at hr; exact okRs_mem hr.2 q hq) p nt hp h
theorem nodesL_bound : ∀ {l : List Pt} {C : Nat}, (∀ t ∈ l, nodesT t ≤ C) → nodesL l ≤ l.length * C
  | [], C, _ => by simp [nodesL]
  | q :: r, C, h => by
    have h1 := h q List.mem_cons_self
    have h2 := nodesL_bound (l := r) fun x hx => h x (List.mem_cons_of_mem _ hx)
    rw [nodesL, List.length_cons, Nat.add_mul]
    omega
theorem depL_bound : ∀ {l : List Pt} {C : Nat}, (∀ t ∈ l, depT t ≤ C) → depL l ≤ C
  | [], C, _ => by simp [depL]
  | q :: r, C, h => by
    have h1 := h q List.mem_cons_self
    have h2 := depL_bound (l := r) fun x hx => h x (List.mem_cons_of_mem _ hx)
    rw [depL]
    omega
/-- A form of the law's predicates is small. -/
theorem form_small {cols : List Co} {a : List (List Pt)} (hs : SmallN a) (h : ∀ x ∈ a, ∀ t ∈ x, thingS cols t) : depT (.mk 5 0 0 zeroV (a.map fun x => .mk 4 0 0 zeroV x)) ≤ 10 ∧ cntT (.mk 5 0 0 zeroV (a.map fun x => .mk 4 0 0 zeroV x)) ≤ 60000 ∧ nodesT (.mk 5 0 0 zeroV (a.map fun x => .mk 4 0 0 zeroV x)) ≤ 4096 := by
  have hz : zeroV.b.length = 0 := rfl
  have hd : ∀ q ∈ a.map (fun x => Pt.mk 4 0 0 zeroV x), depT q ≤ 4 ∧ cntT q ≤ 32 + 32 * 20 ∧ nodesT q ≤ 32 * 2 + 1 := fun q hq => by
    obtain ⟨x, hx, rfl⟩ := List.mem_map.1 hq
    have d1 := depL_bound (l := x) (C := 2) fun t ht => (h x hx t ht).2.1
    have c1 := cntL_bd (l := x) (C := 20) fun t ht => (h x hx t ht).2.2.1
    have n1 := nodesL_bound (l := x) (C := 2) fun t ht => (h x hx t ht).2.2.2
    have l1 := hs.2 x hx
    rw [depT, cntT, nodesT, hz]
    omega
  have d1 := depL_bound (C := 4) fun t ht => (hd t ht).1
  have c1 := cntL_bd (C := 32 + 32 * 20) fun t ht => (hd t ht).2.1
  have n1 := nodesL_bound (C := 32 * 2 + 1) fun t ht => (hd t ht).2.2
  rw [List.length_map] at c1 n1
  have l1 := hs.1
  rw [depT, cntT, nodesT, hz, List.length_map]
  omega

end Go.Proofs.Ytfmkalnnpddefaa
