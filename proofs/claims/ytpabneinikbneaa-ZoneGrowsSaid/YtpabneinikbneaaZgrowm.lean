/-
  Plain: zones of parts and of the whole.
-/
import Derived.Test.YtpabneinikbneaaZsafem
namespace Go.Proofs.Ytpabneinikbneaa
set_option linter.unusedVariables false
set_option linter.unusedSimpArgs false

theorem fold_n (c : Nat) : ∀ (rows : List (List Vc)) (z : Zt), (rows.foldl (stepT c) z).n = z.n + ((rows.countP fun r => (r[c]?).any fun v => v.u : Nat) : Int)
  | [], z => by simp
  | r :: t, z => by
    rw [List.foldl_cons, fold_n c t, List.countP_cons]
    unfold stepT
    cases h : r[c]? with
    | none => simp
    | some v =>
      simp only [Option.any_some]
      unfold widenT
      by_cases hu : v.u = true
      · rw [if_pos hu, if_pos hu]
        show z.n + 1 + _ = _
        omega
      · rw [if_neg hu, if_neg hu]
        rfl
theorem zone_n_append (kd : Int) (c : Nat) (A B : List (List Vc)) : (zoneT kd c (A ++ B)).n = (zoneT kd c A).n + (zoneT kd c B).n := by
  have h0 : (zone0 kd).n = 0 := rfl
  unfold zoneT
  rw [fold_n, fold_n, fold_n, List.countP_append, h0]
  omega
theorem zone_n_le (kd : Int) (c : Nat) (A : List (List Vc)) : 0 ≤ (zoneT kd c A).n ∧ (zoneT kd c A).n ≤ A.length := by
  have h0 : (zone0 kd).n = 0 := rfl
  unfold zoneT
  rw [fold_n, h0]
  have := List.countP_le_length (p := fun r : List Vc => (r[c]?).any fun v => v.u) (l := A)
  omega
theorem fold_mem (c : Nat) : ∀ (rows : List (List Vc)) (z : Zt), ((rows.foldl (stepT c) z).lo = z.lo ∨ ∃ r ∈ rows, r[c]? = some (rows.foldl (stepT c) z).lo) ∧ ((rows.foldl (stepT c) z).hi = z.hi ∨ ∃ r ∈ rows, r[c]? = some (rows.foldl (stepT c) z).hi)
  | [], z => ⟨.inl rfl, .inl rfl⟩
  | r :: t, z => by
    rw [List.foldl_cons]
    have ih := fold_mem c t (stepT c z r)
    have hs : ((stepT c z r).lo = z.lo ∨ r[c]? = some (stepT c z r).lo) ∧ ((stepT c z r).hi = z.hi ∨ r[c]? = some (stepT c z r).hi) := by
      unfold stepT
      cases h : r[c]? with
      | none => exact ⟨.inl rfl, .inl rfl⟩
      | some v =>
        simp only
        unfold widenT
        split
        · exact ⟨.inl rfl, .inl rfl⟩
        · refine ⟨?_, ?_⟩
          · show (if _ then v else z.lo) = z.lo ∨ some v = some (if _ then v else z.lo)
            split
            · exact .inr rfl
            · exact .inl rfl
          · show (if _ then v else z.hi) = z.hi ∨ some v = some (if _ then v else z.hi)
            split
            · exact .inr rfl
            · exact .inl rfl
    refine ⟨?_, ?_⟩
    · rcases ih.1 with h | ⟨x, hx, h⟩
      · rcases hs.1 with h2 | h2
        · exact .inl (h.trans h2)
        · exact .inr ⟨r, List.mem_cons_self, by rw [h]; exact h2⟩
      · exact .inr ⟨x, List.mem_cons_of_mem _ hx, h⟩
    · rcases ih.2 with h | ⟨x, hx, h⟩
      · rcases hs.2 with h2 | h2
        · exact .inl (h.trans h2)
        · exact .inr ⟨r, List.mem_cons_self, by rw [h]; exact h2⟩
      · exact .inr ⟨x, List.mem_cons_of_mem _ hx, h⟩
/-- The zone of a part lies within that of the whole. -/
theorem zone_part {kd : Int} {c : Nat} {rows H : List (List Vc)} (hk : ColK kd c rows) (hH : ∀ r ∈ H, r ∈ rows) (hu : (zoneT kd c H).lo.u = false) :
    (zoneT kd c rows).lo.u = false ∧ cmpT (zoneT kd c rows).lo (zoneT kd c H).lo ≤ 0 ∧ 0 ≤ cmpT (zoneT kd c rows).hi (zoneT kd c H).hi := by
  have hkH : ColK kd c H := fun r hr => hk r (hH r hr)
  have hf := fold_mem c H (zone0 kd)
  have hlo : ∃ r ∈ H, r[c]? = some (zoneT kd c H).lo := by
    rcases hf.1 with h | h
    · have h1 : (zoneT kd c H).lo = noneV kd := h
      rw [h1] at hu; cases hu
    · exact h
  obtain ⟨r, hr, hv⟩ := hlo
  have t1 := zone_tells hkH hr hv
  have hhu := (t1.2.1 hu).2.2.1
  have hhi : ∃ r ∈ H, r[c]? = some (zoneT kd c H).hi := by
    rcases hf.2 with h | h
    · have h1 : (zoneT kd c H).hi = noneV kd := h
      rw [h1] at hhu; cases hhu
    · exact h
  obtain ⟨r2, hr2, hv2⟩ := hhi
  have t2 := zone_tells hk (hH r hr) hv
  have t3 := zone_tells hk (hH r2 hr2) hv2
  obtain ⟨_, g1, _, g3, _⟩ := t2.2.1 hu
  obtain ⟨_, _, _, _, g5⟩ := t3.2.1 hhu
  refine ⟨g1, g3, ?_⟩
  rw [cmp_anti t1.2.2.2 t3.2.2.2]
  omega
theorem zone_of {kd : Int} {c : Nat} {rows : List (List Vc)} (hk : ColK kd c rows) : OfK kd (zoneT kd c rows).lo ∧ OfK kd (zoneT kd c rows).hi := by
  obtain ⟨S, h1, _⟩ := seen_fold rows (zone0 kd) [] hk ⟨noneV_of kd, noneV_of kd, fun v hv => (by cases hv), rfl, fun v hv => (by cases hv)⟩
  exact ⟨h1.lo, h1.hi⟩

end Go.Proofs.Ytpabneinikbneaa
