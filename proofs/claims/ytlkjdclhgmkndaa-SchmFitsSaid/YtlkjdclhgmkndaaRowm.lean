/-
  Plain: rows of numbers are such as may be; their order.
-/
import Derived.Test.YtlkjdclhgmkndaaRowa
namespace Go.Proofs.Ytlkjdclhgmkndaa
set_option linter.unusedVariables false
open Go.RowKit

/-- Columns such as may be: the first a number that is never null. -/
structure ColsOk (cols : List Co) : Prop where
  ks : ∀ c ∈ cols, c.k = 1 ∨ c.k = 2
  hd : ∀ c, cols[0]? = some c → c.k = 1 ∧ c.u = false
  le : cols.length ≤ 6
  ne : 0 < cols.length

theorem colsOf_len (l : List (Int × Bool)) : (colsOf l).length = l.length + 1 := by simp [colsOf]
theorem colsOf_ok {l : List (Int × Bool)} (h : Kinds l) (hl : l.length ≤ 5) : ColsOk (colsOf l) := by
  refine ⟨fun c hc => ?_, fun c hc => ?_, by rw [colsOf_len]; omega, by rw [colsOf_len]; omega⟩
  · unfold colsOf at hc
    rcases List.mem_cons.1 hc with h1 | h1
    · rw [h1]; exact .inl rfl
    · obtain ⟨⟨p, i⟩, h2, rfl⟩ := List.mem_map.1 h1
      have h3 := List.mem_zipIdx h2
      simp only at h3 ⊢
      have : p ∈ l := by rw [h3.2.2]; exact List.getElem_mem _
      exact h p this
  · unfold colsOf at hc
    simp only [List.getElem?_cons_zero, Option.some.injEq] at hc
    rw [← hc]; exact ⟨rfl, rfl⟩

theorem valOf_norm (c : Co) (n : Int) (h : c.k = 1 ∨ c.k = 2) : NormV (valOf c n) ∧ (valOf c n).k = c.k := by
  unfold valOf
  split
  · exact ⟨⟨fun _ => ⟨rfl, rfl⟩, fun _ => rfl, fun _ => rfl⟩, rfl⟩
  · split
    · rename_i h1
      exact ⟨⟨(fun h => by cases h), (fun h => by simp at h), fun _ => rfl⟩, h1.symm⟩
    · rename_i h1
      exact ⟨⟨(fun h => by cases h), fun _ => rfl, fun h2 => absurd (h.resolve_left h1) h2⟩, rfl⟩
theorem eltOf_norm (cols : List Co) (h : ColsOk cols) (n : Int) (i : Nat) (c : Co) (hc : cols[i]? = some c) : NormV (eltOf n i c) ∧ (eltOf n i c).k = c.k := by
  unfold eltOf
  split
  · rename_i h0
    subst h0
    exact ⟨⟨(fun h => by cases h), (fun h => by simp at h), fun _ => rfl⟩, (h.hd c hc).1.symm⟩
  · exact valOf_norm c _ (h.ks c (List.mem_of_getElem? hc))

theorem rowOf_at (cols : List Co) (n : Int) (i : Nat) : (rowOf cols n)[i]? = (cols[i]?).map (eltOf n i) := by unfold rowOf; rw [List.getElem?_mapIdx]
theorem rowOf_len (cols : List Co) (n : Int) : (rowOf cols n).length = cols.length := by unfold rowOf; rw [List.length_mapIdx]
theorem rowOf_norm (cols : List Co) (h : ColsOk cols) (n : Int) : ∀ v ∈ rowOf cols n, NormV v := by
  intro v hv
  obtain ⟨i, hi⟩ := List.mem_iff_getElem?.1 hv
  rw [rowOf_at] at hi
  obtain ⟨c, hc, rfl⟩ := Option.map_eq_some_iff.1 hi
  exact (eltOf_norm cols h n i c hc).1
theorem rowOf_kinds (cols : List Co) (h : ColsOk cols) (n : Int) : (rowOf cols n).map (·.k) = cols.map (·.k) := by
  apply List.ext_getElem?
  intro i
  rw [List.getElem?_map, List.getElem?_map, rowOf_at]
  cases hc : cols[i]? with
  | none => rfl
  | some c => simp [(eltOf_norm cols h n i c hc).2]

theorem ord_key {cols : List Co} (h : ColsOk cols) (a b : Int) : cmpR (rowOf cols a) (rowOf cols b) = lexL cmpK ((rowOf cols a).map keyV) ((rowOf cols b).map keyV) :=
  cmpR_key _ _ (rowOf_norm cols h a) (rowOf_norm cols h b) (by rw [rowOf_kinds cols h, rowOf_kinds cols h])
theorem ord_anti {cols : List Co} (h : ColsOk cols) (a b : Int) : cmpR (rowOf cols b) (rowOf cols a) = - cmpR (rowOf cols a) (rowOf cols b) := by
  rw [ord_key h, ord_key h]; exact (lexL_ok cmpK_ok).anti _ _
theorem ord_eq {cols : List Co} (h : ColsOk cols) (a b : Int) : (cmpR (rowOf cols a) (rowOf cols b) == 0) = sameR (rowOf cols a) (rowOf cols b) := by
  rw [Bool.eq_iff_iff, beq_iff_eq, ord_key h, (lexL_ok cmpK_ok).eq, keys_eq _ _ (by rw [rowOf_kinds cols h, rowOf_kinds cols h]), sameR_iff]
theorem ord_tr {cols : List Co} (h : ColsOk cols) (a b c : Int) : cmpR (rowOf cols a) (rowOf cols b) ≤ 0 → cmpR (rowOf cols b) (rowOf cols c) ≤ 0 → cmpR (rowOf cols a) (rowOf cols c) ≤ 0 ∧ (cmpR (rowOf cols a) (rowOf cols c) = 0 → cmpR (rowOf cols a) (rowOf cols b) = 0 ∧ cmpR (rowOf cols b) (rowOf cols c) = 0) := by
  rw [ord_key h, ord_key h, ord_key h]; exact (lexL_ok cmpK_ok).tr _ _ _
theorem ord_tri {cols : List Co} (h : ColsOk cols) (a b : Int) : cmpR (rowOf cols a) (rowOf cols b) = -1 ∨ cmpR (rowOf cols a) (rowOf cols b) = 0 ∨ cmpR (rowOf cols a) (rowOf cols b) = 1 := by
  rw [ord_key h]; exact (lexL_ok cmpK_ok).tri _ _
/-- Of two values of one column. -/
theorem val_ord {x y : Vc} (hx : NormV x) (hy : NormV y) (hk : x.k = y.k) : cmpT y x = - cmpT x y ∧ (cmpT x y == 0) = sameT x y ∧ (cmpT x y = -1 ∨ cmpT x y = 0 ∨ cmpT x y = 1) := by
  refine ⟨?_, ?_, ?_⟩
  · rw [cmpT_key hx hy hk, cmpT_key hy hx hk.symm]; exact cmpK_ok.anti _ _
  · rw [Bool.eq_iff_iff, beq_iff_eq, cmpT_key hx hy hk, cmpK_ok.eq, key_eq hk, sameT_iff]
  · rw [cmpT_key hx hy hk]; exact cmpK_ok.tri _ _

theorem OInv.rdP {w wr : World} {l : List (Vc × Value)} {v : Value} (h : OInv w l v wr) : RdP wr v l := rdP_own h.own rfl h.ok
theorem oinv_shape {w wr : World} {l : List (Vc × Value)} {v : Value} (h : OInv w l v wr) : ∃ ao cap, v = .slice ao l.length cap := own_shape h.own

end Go.Proofs.Ytlkjdclhgmkndaa
