/-
  What the law's four come to, of rows and of the same rows in another order.
-/
import Derived.Test.YtnfjdoeemnhkbaaAgs
import Derived.Test.YtnfjdoeemnhkbaaAgo
import Derived.Test.YtnfjdoeemnhkbaaAgn
import Derived.Test.YtnfjdoeemnhkbaaAgp
import Derived.Test.YtnfjdoeemnhkbaaAgq
namespace Go.Proofs.Ytnfjdoeemnhkbaa
set_option linter.unusedVariables false
set_option linter.unusedSimpArgs false
open Go.RowKit Sy

/-- Rows such as the law's, in any order. -/
structure RowsX (cols : List Co) (l : List Int) (w : World) (v : Value) (E : List El) : Prop where
  mem : ∀ x ∈ E, x.row ∈ rows9 cols l
  le : E.length ≤ 40
  rd : Rd w v (E.map Prod.fst)
  el : ∀ x ∈ E, RdP w x.1 x.2
theorem RowsX.kept {cols : List Co} {l : List Int} {w w' : World} {v : Value} {E : List El} (h : RowsX cols l w v E) (hb : Below w.heap.size w w') : RowsX cols l w' v E := ⟨h.mem, h.le, h.rd.kept hb, fun x hx => (h.el x hx).kept hb⟩
theorem RowsX.rowsIn {cols : List Co} (hok : ColsOk cols) {l : List Int} {w : World} {v : Value} {E : List El} (h : RowsX cols l w v E) : RowsIn w E := fun x hx => by
  have hm := h.mem x hx
  have hl := row9_lenA hm
  unfold El.row at hl
  rw [List.length_map] at hl
  refine ⟨h.el x hx, by have := hok.le; omega, fun t ht => ?_⟩
  have := row9_smallA hm t.1 (by unfold El.row; exact List.mem_map_of_mem ht)
  exact ⟨this.1, by omega⟩
theorem RowsX.sum {cols : List Co} (hok : ColsOk cols) {l : List Int} {w : World} {v : Value} {E : List El} (h : RowsX cols l w v E) {p : List El} (hp : ∀ x ∈ p, x ∈ E) : 0 ≤ sumT (p.map El.row) 0 ∧ sumT (p.map El.row) 0 ≤ 200 * (p.length : Int) := by
  have := sumT_le (R := p.map El.row) fun r hr => by
    obtain ⟨x, hx, rfl⟩ := List.mem_map.1 hr
    exact row9_addA hok (h.mem x (hp x hx))
  rw [List.length_map] at this
  exact this
/-- The parts of a column; or all in one. -/
def PartQ (c : Int) (E : List El) (Ps : List (List El)) : Prop := (0 ≤ c → Ps.flatten.Perm E ∧ Parted cmpK (fun x : El => keyV (atT x.row c)) Ps) ∧ (c < 0 → Ps = [E])
theorem PartQ.sub {c : Int} {E : List El} {Ps : List (List El)} (h : PartQ c E Ps) (hE : E.length ≤ 40) : (∀ p ∈ Ps, (∀ x ∈ p, x ∈ E) ∧ p.length ≤ 40 ∧ (0 ≤ c → p ≠ [])) ∧ Ps.length ≤ 41 ∧ (0 ≤ c → Ps.length ≤ E.length) := by
  rcases Int.lt_or_le c 0 with hc | hc
  · rw [h.2 hc]
    refine ⟨fun p hp => ?_, by simp, fun h => by omega⟩
    rw [List.mem_singleton.1 hp]
    exact ⟨fun x hx => hx, hE, fun h => by omega⟩
  · obtain ⟨h1, h2⟩ := h.1 hc
    have hfl := h1.length_eq
    have hne := ne_flat Ps h2.ne
    refine ⟨fun p hp => ⟨fun x hx => h1.mem_iff.1 (List.mem_flatten.2 ⟨p, hp, hx⟩), ?_, fun _ => h2.ne p hp⟩, by omega, fun _ => by omega⟩
    have := mem_len hp
    omega
def ags4 (c : Int) : List (Int × Int) := [(1, 0), (2, 0), (3, c), (4, c)]
/-- What the groups come to. -/
structure GrpX (w0 w : World) (v : Value) (g c : Int) (E : List El) (Ps : List (List El)) (T : List El) : Prop where
  part : PartQ g E Ps
  own : OwnD w0.heap.size w v T
  len : T.length = Ps.length
  row : ∀ (i : Nat) (p : List El) (x : El), Ps[i]? = some p → T[i]? = some x → RowOf g (ags4 c) p x.row
set_option maxHeartbeats 4000000 in
theorem grpX_any {cols : List Co} (hok : ColsOk cols) (l : List Int) (E : List El) (g c : Int) (hg : g = -1 ∨ (0 ≤ g ∧ g < cols.length)) (v av : Value) (w : World) (hE : RowsX cols l w v E) (hav : RdS w 2 av ((ags4 c).map fun a => [.int .i64 a.1, .int .i64 a.2])) :
    Calls Try.prog 11 #[v, .int .i64 g, av] w fun e w' => ∃ (v' : Value) (Ps : List (List El)) (T : List El), e = .returned (.tuple #[v', .bool true]) ∧ GrpX w w' v' g c E Ps T ∧ Below w.heap.size w w' := by
  have hle := hE.le
  have hin := hE.rowsIn hok
  refine (groups_any (PartQ g E) (ags4 c) (fun a ha => ?_) (by unfold ags4; simp) E g v av w hin (fun Ps hP => ?_) hav ?_ ?_).mono ?_
  · unfold ags4 at ha
    simp only [List.mem_cons, List.not_mem_nil, or_false] at ha
    rcases ha with rfl | rfl | rfl | rfl
    · exact totOK_count 0
    · exact totOK_sum 0
    · exact totOK_min c
    · exact totOK_max c
  · obtain ⟨h1, h2, _⟩ := hP.sub hle
    exact ⟨fun p hp => ⟨(h1 p hp).1, by have := (h1 p hp).2.1; omega, (h1 p hp).2.2⟩, by omega⟩
  · obtain ⟨ao, cap, h, _⟩ := hE.rd
    exact ⟨ao, _, cap, h⟩
  · rcases hg with rfl | ⟨h0, h1⟩
    · refine (partsN_any E v w hE.rd).mono ?_
      rintro e w' ⟨v', rfl, Ps, hrd, hps, hb⟩
      exact ⟨v', rfl, Ps, hrd, ⟨fun h => by omega, fun _ => hps⟩, hb⟩
    · obtain ⟨kk, hkk, hnk⟩ := row9_atA hok g h0 h1
      refine (parts_any kk E g h0 (by omega) v w hE.rd (fun x hx => ⟨hE.el x hx, (hin x hx).2.1⟩) (fun x hx => hnk l _ (hE.mem x hx))).mono ?_
      rintro e w' ⟨v', rfl, B, hB, Ps, ho, hp, hq, hb⟩
      exact ⟨v', rfl, Ps, ho.rd, ⟨fun _ => ⟨hp, hq⟩, fun h => by omega⟩, hb⟩
  · rintro e w' ⟨Ps, hP, hb, h⟩
    rcases h with ⟨v', rfl, T, hT, hTl, hTr⟩ | ⟨_, p, hpm, a, ha, hn⟩
    · exact ⟨v', Ps, T, rfl, ⟨hP, hT, hTl, hTr⟩, hb⟩
    · exfalso
      obtain ⟨h1, _, _⟩ := hP.sub hle
      have hs := hE.sum hok (h1 p hpm).1
      have hpl := (h1 p hpm).2.1
      unfold ags4 at ha
      simp only [List.mem_cons, List.not_mem_nil, or_false] at ha
      rcases ha with rfl | rfl | rfl | rfl
      · rw [tot1] at hn; cases hn
      · rw [tot2 ⟨hs.1, by omega⟩] at hn; cases hn
      · unfold totT at hn; simp at hn
      · unfold totT at hn; simp at hn

/-- Of the same rows, the same. -/
theorem rowOf_same {cols : List Co} (hok : ColsOk cols) {l : List Int} {g c : Int} (hg : g < cols.length) (hc0 : 0 ≤ c) (hc : c < cols.length) {p q : List El} (hp : ∀ x ∈ p, x.row ∈ rows9 cols l) (hpq : p.Perm q) (hd : 0 ≤ g → p ≠ [] ∧ ∀ x ∈ p, ∀ y ∈ p, keyV (atT x.row g) = keyV (atT y.row g)) {r r' : List Vc}
    (h1 : RowOf g (ags4 c) p r) (h2 : RowOf g (ags4 c) q r') : r = r' := by
  obtain ⟨ts, e1, e2⟩ := h1
  obtain ⟨ts', e3, e4⟩ := h2
  have hperm : (p.map El.row).Perm (q.map El.row) := hpq.map _
  have hmem : ∀ r ∈ p.map El.row, r ∈ rows9 cols l := fun r hr => by obtain ⟨x, hx, rfl⟩ := List.mem_map.1 hr; exact hp x hx
  have ht : (ags4 c).map (fun a => totT (p.map El.row) a.1 a.2) = (ags4 c).map (fun a => totT (q.map El.row) a.1 a.2) := by
    refine List.map_congr_left fun a ha => ?_
    have hca : 0 ≤ a.2 ∧ a.2 < cols.length := by
      have := hok.ne
      unfold ags4 at ha
      simp only [List.mem_cons, List.not_mem_nil, or_false] at ha
      rcases ha with rfl | rfl | rfl | rfl <;> simp only <;> omega
    obtain ⟨kk, _, hnk⟩ := row9_atA hok a.2 hca.1 hca.2
    exact totT_perm hperm (fun r hr => hnk l r (hmem r hr)) a.1
  rw [e2, e4] at ht
  have hts : ts = ts' := (List.map_inj_right (f := some) (fun a b h => Option.some.inj h)).1 ht
  rw [e1, e3, hts]
  congr 1
  by_cases h0 : 0 ≤ g
  · rw [if_pos h0, if_pos h0]
    obtain ⟨kk, _, hnk⟩ := row9_atA hok g h0 hg
    obtain ⟨hne, hsame⟩ := hd h0
    match p, q, hne, hpq with
    | x :: p', [], _, h => exact absurd h.length_eq (by simp)
    | x :: p', y :: q', _, h =>
      have hy : y ∈ x :: p' := h.mem_iff.2 List.mem_cons_self
      have hk := hsame x List.mem_cons_self y hy
      have n1 := hnk l x.row (hp x List.mem_cons_self)
      have n2 := hnk l y.row (hp y hy)
      show [atT x.row g] = [atT y.row g]
      rw [(key_eq (n1.2.trans n2.2.symm)).1 hk]
  · rw [if_neg h0, if_neg h0]
theorem grpX_same {cols : List Co} (hok : ColsOk cols) {l : List Int} {g c : Int} (hg : g < cols.length) (hc0 : 0 ≤ c) (hc : c < cols.length) {w1 w2 w3 w4 : World} {v1 v2 : Value} {E M T U : List El} {Ps Qs : List (List El)} (hE : ∀ x ∈ E, x.row ∈ rows9 cols l) (hEM : M.Perm E)
    (h1 : GrpX w1 w2 v1 g c E Ps T) (h2 : GrpX w3 w4 v2 g c M Qs U) : T.map El.row = U.map El.row := by
  have hfl : Ps.length = Qs.length ∧ ∀ (i : Nat) (p q : List El), Ps[i]? = some p → Qs[i]? = some q → p.Perm q := by
    rcases Int.lt_or_le g 0 with h0 | h0
    · rw [h1.part.2 h0, h2.part.2 h0]
      refine ⟨rfl, fun i p q hp hq => ?_⟩
      cases i with
      | zero => cases hp; cases hq; exact hEM.symm
      | succ i => simp at hp
    · obtain ⟨a1, a2⟩ := h1.part.1 h0
      obtain ⟨b1, b2⟩ := h2.part.1 h0
      exact parted_same cmpK_ok Ps Qs a2 b2 (a1.trans (hEM.symm.trans b1.symm))
  apply List.ext_getElem?
  intro i
  rw [List.getElem?_map, List.getElem?_map]
  have hlen : T.length = U.length := by rw [h1.len, h2.len, hfl.1]
  cases hx : T[i]? with
  | none => rw [List.getElem?_eq_none (by have := List.getElem?_eq_none_iff.1 hx; omega)]
  | some x =>
    have hi := (List.getElem?_eq_some_iff.1 hx).1
    obtain ⟨y, hy⟩ : ∃ y, U[i]? = some y := ⟨_, List.getElem?_eq_getElem (by omega)⟩
    obtain ⟨p, hp⟩ : ∃ p, Ps[i]? = some p := ⟨_, List.getElem?_eq_getElem (by rw [← h1.len]; exact hi)⟩
    obtain ⟨q, hq⟩ : ∃ q, Qs[i]? = some q := ⟨_, List.getElem?_eq_getElem (by rw [← h2.len]; omega)⟩
    have hpm := List.mem_of_getElem? hp
    have hpE : ∀ x ∈ p, x ∈ E := by
      rcases Int.lt_or_le g 0 with h0 | h0
      · rw [h1.part.2 h0] at hpm
        rw [List.mem_singleton.1 hpm]
        exact fun x hx => hx
      · exact fun x hx => (h1.part.1 h0).1.mem_iff.1 (List.mem_flatten.2 ⟨p, hpm, hx⟩)
    rw [hy, Option.map_some, Option.map_some, rowOf_same hok hg hc0 hc (fun x hx => hE x (hpE x hx)) (hfl.2 i p q hp hq) (fun h0 => ⟨(h1.part.1 h0).2.ne p hpm, (h1.part.1 h0).2.same p hpm⟩) (h1.row i p x hp hx) (h2.row i q y hq hy)]

/-- Sorted ones of the same rows are the same. -/
theorem kinds_inj {ks : List Int} : ∀ (R S : List (List Vc)), KindsR ks R → KindsR ks S → R.map keyR = S.map keyR → R = S
  | [], [], _, _, _ => rfl
  | [], _ :: _, _, _, h => by cases h
  | _ :: _, [], _, _, h => by cases h
  | x :: R, y :: S, h1, h2, h => by
    rw [List.map_cons, List.map_cons, List.cons.injEq] at h
    have hx := (h1 x List.mem_cons_self).1
    have hy := (h2 y List.mem_cons_self).1
    rw [(keys_eq x y (hx.trans hy.symm)).1 h.1, kinds_inj R S (fun r hr => h1 r (List.mem_cons_of_mem _ hr)) (fun r hr => h2 r (List.mem_cons_of_mem _ hr)) h.2]
theorem sorted_same {ks : List Int} {Z Y : List El} {R S : List (List Vc)} (hk : KindsR ks R) (hRS : S.Perm R) (h1 : (Z.map El.row).Perm R) (h2 : (Y.map El.row).Perm S) (s1 : Srt (ltC (lexL cmpK) fun x : El => keyR x.row) Z) (s2 : Srt (ltC (lexL cmpK) fun x : El => keyR x.row) Y) : Z.map El.row = Y.map El.row := by
  have hp : (Z.map El.row).Perm (Y.map El.row) := h1.trans (hRS.symm.trans h2.symm)
  have kz : KindsR ks (Z.map El.row) := fun r hr => hk r (h1.mem_iff.1 hr)
  have ky : KindsR ks (Y.map El.row) := fun r hr => hk r (hRS.mem_iff.1 (h2.mem_iff.1 hr))
  refine kinds_inj _ _ kz ky ?_
  have h3 : (Z.map fun x : El => keyR x.row).Perm (Y.map fun x : El => keyR x.row) := by
    have := hp.map keyR
    rw [List.map_map, List.map_map] at this
    exact this
  have h4 := srt_keys (lexL_ok cmpK_ok) s1 s2 h3
  rw [List.map_map, List.map_map]
  exact h4
theorem rows9_kinds {cols : List Co} (hok : ColsOk cols) (l : List Int) : KindsR (cols.map (·.k)) (rows9 cols l) := fun r hr => by
  obtain ⟨i, n, hi, rfl⟩ := rows9_memA hr
  obtain ⟨c0, hc0⟩ : ∃ c0, cols[0]? = some c0 := ⟨_, List.getElem?_eq_getElem hok.ne⟩
  have hk := (hok.hd _ hc0).1
  refine ⟨?_, fun v hv => ?_⟩
  · rw [List.map_set, rowOf_kinds cols hok]
    apply List.ext_getElem?
    intro j
    by_cases hj : j = 0
    · subst hj
      rw [List.getElem?_set_self (by rw [List.length_map]; exact hok.ne), List.getElem?_map, hc0, Option.map_some, hk]
    · rw [List.getElem?_set_ne (fun e => hj e.symm)]
  · rcases List.mem_or_eq_of_mem_set hv with h | rfl
    · exact rowOf_norm cols hok n v h
    · exact ⟨(fun h => by cases h), (fun h => by simp at h), fun _ => rfl⟩
theorem cols_kinds {cols : List Co} (hok : ColsOk cols) (l : List Int) (c : Int) (h0 : 0 ≤ c) (h1 : c < cols.length) : ∃ ks, ∀ E : List El, (∀ x ∈ E, x.row ∈ rows9 cols l) → KindsR ks (E.map fun y => [c, 0].map (atT y.row)) := by
  obtain ⟨k1, _, n1⟩ := row9_atA hok c h0 h1
  obtain ⟨k2, _, n2⟩ := row9_atA hok 0 (Int.le_refl _) (by have := hok.ne; omega)
  refine ⟨[k1, k2], fun E hE r hr => ?_⟩
  obtain ⟨y, hy, rfl⟩ := List.mem_map.1 hr
  have a := n1 l _ (hE y hy)
  have b := n2 l _ (hE y hy)
  refine ⟨?_, fun v hv => ?_⟩
  · show [(atT y.row c).k, (atT y.row 0).k] = _
    rw [a.2, b.2]
  · simp only [List.map_cons, List.map_nil, List.mem_cons, List.not_mem_nil, or_false] at hv
    rcases hv with rfl | rfl
    · exact a.1
    · exact b.1
/-- Two of them change places. -/
theorem swap2_perm {α : Type} (l : List α) (i j : Nat) (x y : α) (hi : l[i]? = some x) (hj : l[j]? = some y) : ((l.set i y).set j x).Perm l := by
  obtain ⟨h1, rfl⟩ := List.getElem?_eq_some_iff.1 hi
  obtain ⟨h2, rfl⟩ := List.getElem?_eq_some_iff.1 hj
  classical
  rw [List.perm_iff_count]
  intro b
  have c1 : (if l[i] == b then 1 else 0) ≤ l.count b := by
    split
    · rename_i h
      rw [← beq_iff_eq.1 h]
      exact List.count_pos_iff.2 (List.getElem_mem h1)
    · exact Nat.zero_le _
  rw [List.count_set (by rw [List.length_set]; exact h2), List.count_set h1, List.getElem_set, ite_self]
  omega
end Go.Proofs.Ytnfjdoeemnhkbaa
