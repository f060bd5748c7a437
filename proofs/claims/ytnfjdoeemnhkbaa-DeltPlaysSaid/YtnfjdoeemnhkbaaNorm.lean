/-
  Contract of norm.Norm.
-/
import Derived.Test.YtnfjdoeemnhkbaaNnrm
import Derived.Deep.RegionLaw
import Derived.Deep.CutBlock
import Derived.Deep.DeepCutAuto
namespace Go.Proofs.Ytnfjdoeemnhkbaa
set_option linter.unusedVariables false
set_option linter.unusedSimpArgs false
open Go.RowKit

theorem results_cell_tmp {P : Program} {fn : Func} {p q : Tmp} {ty : TypeId} (h : fn.results = #[.cell p ty, .tmp q]) (tmps : Array Value) (w : World) (g : Nat) (t : TypeId) (cs : Array Value) (fr : Nat × Nat) (d : TypeDesc) (v : Value)
    (hp : tmps.getD p undef = .pointer (some ⟨g, 0, none⟩)) (hq : tmps.getD q undef = v) (hg : w.heap[g]? = some (.cells cs t fr))
    (hu : P.underlying ty = some d) (hd : (match d with | .struct _ | .array _ _ => true | _ => false) = true) (hi : (P.info? ty).map (·.size) = some cs.size) :
    (results fn tmps).run P w = .ok (.tuple #[.agg cs, v]) w := by
  have hp' : tmps[p]?.getD undef = .pointer (some ⟨g, 0, none⟩) := by simpa using hp
  have hq' : tmps[q]?.getD undef = v := by simpa using hq
  simp [results, h, hp', hq', asAddr, run_loadVar_row w g t ty cs fr d hg hu hd hi]

/-! What the things of a form are made of. -/
def LeafN (D C : Nat) (t : Pt) : Prop := depT t ≤ D + 1 ∧ cntT t ≤ C + 1
theorem timesN_all {Q : Pt → Prop} {a b o : List (List Pt)} (ha : ∀ x ∈ a, ∀ t ∈ x, Q t) (hb : ∀ x ∈ b, ∀ t ∈ x, Q t) (h : timesN a b = some o) : ∀ x ∈ o, ∀ t ∈ x, Q t := by
  unfold timesN at h
  split at h
  · cases h
  · split at h
    · cases h
      intro x hx t ht
      unfold prodL at hx
      obtain ⟨y, hy, hx⟩ := List.mem_flatMap.1 hx
      obtain ⟨z, hz, rfl⟩ := List.mem_map.1 hx
      rcases List.mem_append.1 ht with h1 | h1
      · exact ha y hy t h1
      · exact hb z hz t h1
    · cases h
/-- A fact that holds of all that a leaf may become holds of all things of a form. -/
def OfLeaf (R Q : Pt → Prop) : Prop := (∀ c o v l, R (.mk 2 c o v l) → ∀ o', o' = o ∨ o' = opN o → Q (.mk 2 c o' v l)) ∧ (∀ c o v l, R (.mk 3 c o v l) → Q (.mk 3 c o v l) ∧ Q (.mk 6 0 0 zeroV [.mk 3 c o v l]))
mutual
theorem nrm_all {R Q : Pt → Prop} (hq : OfLeaf R Q) (hr : ∀ k c o v l, k = 4 ∨ k = 5 ∨ k = 6 → R (.mk k c o v l) → ∀ q ∈ l, R q) : ∀ (p : Pt) (nt : Bool) {a : List (List Pt)}, R p → nrm p nt = some a → ∀ x ∈ a, ∀ t ∈ x, Q t
  | .mk k c o v l, nt, a, hp, h => by
    unfold nrm at h
    split at h
    · cases h; cases nt <;> simp
    · split at h
      · rename_i hk
        subst hk
        cases h
        intro x hx t ht
        rw [List.mem_singleton.1 hx] at ht
        rw [List.mem_singleton.1 ht]
        exact hq.1 c o v l hp _ (by cases nt <;> simp)
      · split at h
        · rename_i hk
          subst hk
          cases h
          intro x hx t ht
          rw [List.mem_singleton.1 hx] at ht
          rw [List.mem_singleton.1 ht]
          have := hq.2 c o v l hp
          cases nt
          · exact this.1
          · exact this.2
        · split at h
          · rename_i hk
            exact nrmOne_all hq hr l nt (hr k c o v l (.inr (.inr hk)) hp) h
          · split at h
            · rename_i hk
              split at h
              · exact prodN_all hq hr l nt [[]] (hr k c o v l (hk.elim .inl fun h => .inr (.inl h)) hp) (by simp) h
              · exact sumN_all hq hr l nt [] (hr k c o v l (hk.elim .inl fun h => .inr (.inl h)) hp) (by simp) h
            · cases h
theorem nrmOne_all {R Q : Pt → Prop} (hq : OfLeaf R Q) (hr : ∀ k c o v l, k = 4 ∨ k = 5 ∨ k = 6 → R (.mk k c o v l) → ∀ q ∈ l, R q) : ∀ (l : List Pt) (nt : Bool) {a : List (List Pt)}, (∀ q ∈ l, R q) → nrmOne l nt = some a → ∀ x ∈ a, ∀ t ∈ x, Q t
  | [], nt, a, hp, h => by unfold nrmOne at h; cases h
  | q :: r, nt, a, hp, h => by
    unfold nrmOne at h
    split at h
    · exact nrm_all hq hr q _ (hp q List.mem_cons_self) h
    · cases h
theorem sumN_all {R Q : Pt → Prop} (hq : OfLeaf R Q) (hr : ∀ k c o v l, k = 4 ∨ k = 5 ∨ k = 6 → R (.mk k c o v l) → ∀ q ∈ l, R q) : ∀ (l : List Pt) (nt : Bool) (out : List (List Pt)) {a : List (List Pt)}, (∀ q ∈ l, R q) → (∀ x ∈ out, ∀ t ∈ x, Q t) → sumN l nt out = some a → ∀ x ∈ a, ∀ t ∈ x, Q t
  | [], nt, out, a, hp, ho, h => by unfold sumN at h; cases h; exact ho
  | q :: r, nt, out, a, hp, ho, h => by
    unfold sumN at h
    split at h
    · cases h
    · rename_i m hm
      split at h
      · cases h
      · have hs := nrm_all hq hr q nt (hp q List.mem_cons_self) hm
        refine sumN_all hq hr r nt (out ++ m) (fun q hq => hp q (List.mem_cons_of_mem _ hq)) (fun x hx => ?_) h
        rcases List.mem_append.1 hx with h1 | h1
        · exact ho x h1
        · exact hs x h1
theorem prodN_all {R Q : Pt → Prop} (hq : OfLeaf R Q) (hr : ∀ k c o v l, k = 4 ∨ k = 5 ∨ k = 6 → R (.mk k c o v l) → ∀ q ∈ l, R q) : ∀ (l : List Pt) (nt : Bool) (out : List (List Pt)) {a : List (List Pt)}, (∀ q ∈ l, R q) → (∀ x ∈ out, ∀ t ∈ x, Q t) → prodN l nt out = some a → ∀ x ∈ a, ∀ t ∈ x, Q t
  | [], nt, out, a, hp, ho, h => by unfold prodN at h; cases h; exact ho
  | q :: r, nt, out, a, hp, ho, h => by
    unfold prodN at h
    split at h
    · cases h
    · rename_i m hm
      split at h
      · cases h
      · rename_i o2 ho2
        exact prodN_all hq hr r nt o2 (fun q hq => hp q (List.mem_cons_of_mem _ hq)) (timesN_all ho (nrm_all hq hr q nt (hp q List.mem_cons_self) hm) ho2) h
end
theorem nrm_leaf {p : Pt} {nt : Bool} {a : List (List Pt)} {D C : Nat} (hd : depT p ≤ D) (hc : cntT p ≤ C) (h : nrm p nt = some a) : ∀ x ∈ a, ∀ t ∈ x, LeafN D C t := by
  refine nrm_all (R := fun q => depT q ≤ D ∧ cntT q ≤ C) ⟨fun c o v l hr o' _ => ?_, fun c o v l hr => ?_⟩ (fun k c o v l _ hr q hq => ?_) p nt ⟨hd, hc⟩ h
  · obtain ⟨h1, h2⟩ := hr
    unfold depT at h1
    unfold cntT at h2
    unfold LeafN depT cntT
    omega
  · obtain ⟨h1, h2⟩ := hr
    unfold depT at h1
    unfold cntT at h2
    unfold LeafN
    simp only [depT, cntT, depL, cntL, zeroV, List.length_nil, List.length_cons]
    omega
  · obtain ⟨i, hi, rfl⟩ := List.mem_iff_getElem.1 hq
    have h3 := depL_mem (List.getElem?_eq_getElem hi)
    have h4 := cntL_mem (List.getElem?_eq_getElem hi)
    obtain ⟨h1, h2⟩ := hr
    unfold depT at h1
    unfold cntT at h2
    omega

/-- A predicate of one's own, and whether there is one. -/
def RetP (w : World) (r : Option Pt) (e : Ending) (w' : World) : Prop := match r with
  | none => e = .returned (.tuple #[.agg #[.int .i64 0, .int .i64 0, .int .i64 0, .bool false, .int .i64 0, .int .i64 0, .slice none 0 0, .slice none 0 0], .bool false])
  | some q => ∃ cs', e = .returned (.tuple #[.agg cs'.toArray, .bool true]) ∧ RdA1 w.heap.size w' q cs'

theorem free_above {K : Nat} {w : World} {P : World → Prop} (h : ∀ w', Above K w w' → P w') : Free (fun b => b < K) w P := fun w' ha => h w' (agree_above ha fun i hi => hi)

end Go.Proofs.Ytnfjdoeemnhkbaa
