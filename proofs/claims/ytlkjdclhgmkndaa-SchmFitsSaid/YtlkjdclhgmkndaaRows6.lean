/-
  Contracts: the reference's SameRow; slices.CompareFunc at values, schm.Rows; schm.Fits.
-/
import Derived.Test.YtlkjdclhgmkndaaSame6
namespace Go.Proofs.Ytlkjdclhgmkndaa
set_option linter.unusedVariables false
set_option linter.unusedSimpArgs false
open Go.RowKit

/-- The cells of the k-th value. -/
theorem RdP.at {w : World} {ao : Option Addr} {len cap : Nat} {l : List (Vc × Value)} (h : RdP w (.slice ao len cap) l) {k : Nat} {t : Vc × Value} (hk : l[k]? = some t) :
    ∃ b off, ao = some ⟨b, off, none⟩ ∧ w.cell? ⟨b, off + k * 4, none⟩ = some (.bool t.1.u) ∧ w.cell? ⟨b, off + k * 4 + 1, none⟩ = some (.int .i64 t.1.k) ∧ w.cell? ⟨b, off + k * 4 + 2, none⟩ = some (.int .i64 t.1.n) ∧
      w.cell? ⟨b, off + k * 4 + 3, none⟩ = some t.2 ∧ OkV w t := by
  obtain ⟨b, off, ha, hc⟩ := h.1.at (k := k) (t := cellsV t) (by rw [List.getElem?_map, hk]; rfl)
  exact ⟨b, off, ha, hc 0 _ rfl, hc 1 _ rfl, hc 2 _ rfl, hc 3 _ rfl, h.2 t (List.mem_of_getElem? hk)⟩
theorem rdP_shape {w : World} {v : Value} {l : List (Vc × Value)} (h : RdP w v l) : ∃ ao cap, v = .slice ao l.length cap := by
  obtain ⟨ao, cap, hv⟩ := rdS_shape h.1
  exact ⟨ao, cap, by simpa using hv⟩

theorem sameR_drop {x y : List Vc} {k : Nat} {a b : Vc} (hx : x[k]? = some a) (hy : y[k]? = some b) : sameR (x.drop k) (y.drop k) = (sameT a b && sameR (x.drop (k + 1)) (y.drop (k + 1))) := by
  obtain ⟨h1, h2⟩ := List.getElem?_eq_some_iff.1 hx
  obtain ⟨h3, h4⟩ := List.getElem?_eq_some_iff.1 hy
  rw [List.drop_eq_getElem_cons h1, List.drop_eq_getElem_cons h3, sameR, h2, h4]
theorem sameR_len : ∀ (x y : List Vc), x.length ≠ y.length → sameR x y = false
  | [], [], h => absurd rfl h
  | [], _ :: _, _ => rfl
  | _ :: _, [], _ => rfl
  | a :: x, b :: y, h => by rw [sameR, sameR_len x y (by simpa using h)]; simp
theorem cmpR_drop {x y : List Vc} {k : Nat} {a b : Vc} (hx : x[k]? = some a) (hy : y[k]? = some b) : cmpR (x.drop k) (y.drop k) = if cmpT a b = 0 then cmpR (x.drop (k + 1)) (y.drop (k + 1)) else cmpT a b := by
  obtain ⟨h1, h2⟩ := List.getElem?_eq_some_iff.1 hx
  obtain ⟨h3, h4⟩ := List.getElem?_eq_some_iff.1 hy
  unfold cmpR
  rw [List.drop_eq_getElem_cons h1, List.drop_eq_getElem_cons h3, lexL, h2, h4]

theorem map_at {l : List (Vc × Value)} {k : Nat} {t : Vc × Value} (h : l[k]? = some t) : (l.map Prod.fst)[k]? = some t.1 := by rw [List.getElem?_map, h]; rfl

set_option maxRecDepth 100000 in
set_option maxHeartbeats 4000000 in
theorem sameRow_any (v1 v2 : Value) (x y : List Vc) (w : World) (hx : RdRow w v1 x) (hy : RdRow w v2 y) (hl : x.length ≤ 1000000) (hl2 : y.length ≤ 1000000) :
    Calls Try.prog 20 #[v1, v2] w fun e w' => e = .returned (.bool (sameR x y)) ∧ Below w.heap.size w w' := by
  obtain ⟨l, rfl, hx⟩ := hx
  obtain ⟨m, rfl, hy⟩ := hy
  rw [List.length_map] at hl hl2
  obtain ⟨a1, c1, rfl⟩ := rdP_shape hx
  obtain ⟨a2, c2, rfl⟩ := rdP_shape hy
  by_cases hn : l.length = m.length
  · obtain ⟨n, hN⟩ : ∃ n, n = l.length := ⟨_, rfl⟩
    rw [← hN] at hn hx hl ⊢
    rw [← hn] at hy ⊢
    have HX := Lib.hid hx
    have HY := Lib.hid hy
    have HN := Lib.hid hN
    have HM := Lib.hid hn
    clear hx hy hN hn hl2
    go_enter Try.func20, Try.ntmps20
    go_wp2_with fail
    go_loopw [5] (fun i wr => ∃ k : Nat, k ≤ n ∧ i = .int .i64 (k : Int) ∧ sameR (l.map Prod.fst) (m.map Prod.fst) = sameR ((l.map Prod.fst).drop k) ((m.map Prod.fst).drop k) ∧ Below w.heap.size w wr) (fun i _ => n - (intOf i).toNat)
    case atStart => exact ⟨0, Nat.zero_le _, rfl, rfl, Below.refl _ _⟩
    case round =>
      obtain ⟨k, hk, rfl, hs, hbel⟩ := hrel
      have HS := Lib.hid hs
      have HB := Lib.hid hbel
      clear hs hbel
      by_cases hlt : k < n
      · obtain ⟨t, ht⟩ : ∃ t, l[k]? = some t := ⟨_, List.getElem?_eq_getElem (by rw [← HN.out]; exact hlt)⟩
        obtain ⟨u, hu⟩ : ∃ u, m[k]? = some u := ⟨_, List.getElem?_eq_getElem (by rw [← HM.out]; exact hlt)⟩
        obtain ⟨b1, o1, rfl, p0, p1, p2, p3, ok1⟩ := (HX.out.kept HB.out).at ht
        obtain ⟨b2, o2, rfl, q0, q1, q2, q3, ok2⟩ := (HY.out.kept HB.out).at hu
        have HE := Lib.hid (sameR_drop (map_at ht) (map_at hu))
        have HO1 := Lib.hid ok1
        have HO2 := Lib.hid ok2
        clear ht hu ok1 ok2
        have HC := fun w1 (h : Below wr.heap.size wr w1) => Lib.hid (sameVal_any t u w1 (HO1.out.kept h) (HO2.out.kept h))
        unfold aggV at HC
        cases hsm : sameT t.1 u.1
        · rw [hsm] at HC
          have HR := Lib.hid (show sameR (l.map Prod.fst) (m.map Prod.fst) = false by rw [HS.out, HE.out, hsm]; rfl)
          clear hsm
          go_wp2_with fail
          go_region_with (go_at_call 22; refine ((HC _ (below_draws (Below.refl _ _) _)).out).mono ?_; rintro e w2 ⟨rfl, hb⟩)
          all_goals
            have HB2 := Lib.hid (below_then (below_draws HB.out _) hb)
            clear hb
            go_wp2_with fail
            go_ret
            exact ⟨by rw [HR.out] <;> rfl, HB2.out⟩
        · rw [hsm] at HC
          have HR := Lib.hid (show sameR (l.map Prod.fst) (m.map Prod.fst) = sameR ((l.map Prod.fst).drop (k + 1)) ((m.map Prod.fst).drop (k + 1)) by rw [HS.out, HE.out, hsm]; rfl)
          clear hsm
          go_wp2_with fail
          go_region_with (go_at_call 22; refine ((HC _ (below_draws (Below.refl _ _) _)).out).mono ?_; rintro e w2 ⟨rfl, hb⟩)
          all_goals
            have HB2 := Lib.hid (below_then (below_draws HB.out _) hb)
            clear hb
            go_wp2_with fail
            go_roundw
            case rel => exact ⟨k + 1, by omega, by go_num, HR.out, HB2.out⟩
            case measure => simp [intOf]; omega
      · have HR := Lib.hid (show sameR (l.map Prod.fst) (m.map Prod.fst) = true by
          have e : k = n := by omega
          rw [HS.out, e, List.drop_of_length_le (by rw [List.length_map, HN.out]; omega), List.drop_of_length_le (by rw [List.length_map, ← HM.out]; omega)]
          rfl)
        go_wp2_with fail
        go_ret
        exact ⟨by rw [HR.out] <;> rfl, HB.out⟩
  · have HR := Lib.hid (show sameR (l.map Prod.fst) (m.map Prod.fst) = false from sameR_len _ _ (by rw [List.length_map, List.length_map]; exact hn))
    obtain ⟨n1, hN1⟩ : ∃ n1, n1 = l.length := ⟨_, rfl⟩
    obtain ⟨n2, hN2⟩ : ∃ n2, n2 = m.length := ⟨_, rfl⟩
    rw [← hN1] at hn ⊢
    rw [← hN2] at hn ⊢
    have q : ((n1 : Int) != (n2 : Int)) = true := by rw [bne_iff_ne]; omega
    clear hn hN1 hN2 hx hy
    go_enter Try.func20, Try.ntmps20
    go_wp2_with fail
    go_ret
    exact ⟨by rw [HR.out] <;> rfl, Below.refl _ _⟩

theorem cmpR_ends : ∀ (x y : List Vc), x.length ≤ y.length → ∀ k, k = x.length → cmpR (x.drop k) (y.drop k) = if x.length < y.length then -1 else 0 := by
  intro x y h k hk
  subst hk
  rw [List.drop_length]
  by_cases hl : x.length < y.length
  · rw [if_pos hl, List.drop_eq_getElem_cons hl]; rfl
  · rw [if_neg hl, List.drop_of_length_le (by omega)]; rfl
theorem cmpR_over (x y : List Vc) (k : Nat) (h : y.length ≤ k) (hk : k < x.length) : cmpR (x.drop k) (y.drop k) = 1 := by
  rw [List.drop_eq_getElem_cons hk, List.drop_of_length_le h]; rfl

set_option maxRecDepth 100000 in
set_option maxHeartbeats 4000000 in
theorem compareFunc_any (v1 v2 : Value) (x y : List Vc) (w : World) (hx : RdRow w v1 x) (hy : RdRow w v2 y) (hl : x.length ≤ 1000000) (hl2 : y.length ≤ 1000000) :
    Calls Try.prog 55 #[v1, v2, .func (.func 21) #[] #[]] w
      fun e w' => e = .returned (.int .i64 (cmpR x y)) ∧ Below w.heap.size w w' := by
  obtain ⟨l, rfl, hx⟩ := hx
  obtain ⟨m, rfl, hy⟩ := hy
  rw [List.length_map] at hl hl2
  obtain ⟨a1, c1, rfl⟩ := rdP_shape hx
  obtain ⟨a2, c2, rfl⟩ := rdP_shape hy
  obtain ⟨n, hN⟩ : ∃ n, n = l.length := ⟨_, rfl⟩
  obtain ⟨n2, hN2⟩ : ∃ n2, n2 = m.length := ⟨_, rfl⟩
  rw [← hN] at hx hl ⊢
  rw [← hN2] at hy hl2 ⊢
  have HX := Lib.hid hx
  have HY := Lib.hid hy
  have HN := Lib.hid hN
  have HM := Lib.hid hN2
  clear hx hy hN hN2
  go_enter Try.func55, Try.ntmps55
  go_wp2_with fail
  go_loopw [13] (fun i wr => ∃ k : Nat, k ≤ n ∧ k ≤ n2 ∧ i = .int .i64 (k : Int) ∧ cmpR (l.map Prod.fst) (m.map Prod.fst) = cmpR ((l.map Prod.fst).drop k) ((m.map Prod.fst).drop k) ∧ Below w.heap.size w wr) (fun i _ => n - (intOf i).toNat)
  case atStart => exact ⟨0, Nat.zero_le _, Nat.zero_le _, rfl, rfl, Below.refl _ _⟩
  case round =>
    obtain ⟨k, hk, hk2, rfl, hs, hbel⟩ := hrel
    have HS := Lib.hid hs
    have HB := Lib.hid hbel
    clear hs hbel
    by_cases hlt : k < n
    · obtain ⟨t, ht⟩ : ∃ t, l[k]? = some t := ⟨_, List.getElem?_eq_getElem (by rw [← HN.out]; exact hlt)⟩
      obtain ⟨b1, o1, rfl, p0, p1, p2, p3, ok1⟩ := (HX.out.kept HB.out).at ht
      obtain ⟨sa, sc, hs1⟩ := rd_shape8 ok1.1
      obtain ⟨tv, ts⟩ := t
      simp only at hs1 p0 p1 p2 p3
      subst hs1
      have HO1 := Lib.hid ok1
      clear ok1
      by_cases hlt2 : k < n2
      · obtain ⟨u, hu⟩ : ∃ u, m[k]? = some u := ⟨_, List.getElem?_eq_getElem (by rw [← HM.out]; exact hlt2)⟩
        obtain ⟨b2, o2, rfl, q0, q1, q2, q3, ok2⟩ := (HY.out.kept HB.out).at hu
        have HE := Lib.hid (cmpR_drop (map_at ht) (map_at hu))
        obtain ⟨sa2, sc2, hs2⟩ := rd_shape8 ok2.1
        obtain ⟨uv, us⟩ := u
        simp only at hs2 q0 q1 q2 q3
        subst hs2
        replace q0 := fun o => Lib.cell?_alloc_some (W := wr) o q0
        replace q1 := fun o => Lib.cell?_alloc_some (W := wr) o q1
        replace q2 := fun o => Lib.cell?_alloc_some (W := wr) o q2
        replace q3 := fun o => Lib.cell?_alloc_some (W := wr) o q3
        have HO2 := Lib.hid ok2
        clear ht hu ok2
        have HC := fun w1 (h : Below wr.heap.size wr w1) => Lib.hid (compare_any (tv, _) (uv, _) w1 (HO1.out.kept h) (HO2.out.kept h))
        unfold aggV at HC
        simp only at HC
        obtain ⟨z, hz⟩ : ∃ z, z = cmpT tv uv := ⟨_, rfl⟩
        rw [← hz] at HC
        by_cases h0 : z = 0
        · have HR := Lib.hid (show cmpR (l.map Prod.fst) (m.map Prod.fst) = cmpR ((l.map Prod.fst).drop (k + 1)) ((m.map Prod.fst).drop (k + 1)) by rw [HS.out, HE.out, ← hz, if_pos h0])
          subst h0
          clear hz
          go_wp2_with (go_at_call 21; go_must (refine ((HC _ (below2 _ _ _)).out).mono ?_); rintro e w2 ⟨rfl, hb⟩; have HB2 := Lib.hid (below_then (below_lay (below_lay HB.out _) _) hb); clear hb)
          go_roundw
          case rel => exact ⟨k + 1, by omega, by omega, by go_num, HR.out, HB2.out⟩
          case measure => simp [intOf]; omega
        · have HR := Lib.hid (show cmpR (l.map Prod.fst) (m.map Prod.fst) = z by rw [HS.out, HE.out, ← hz, if_neg h0])
          have q : (z != 0) = true := by rw [bne_iff_ne]; exact h0
          clear hz h0
          go_wp2_with (go_at_call 21; go_must (refine ((HC _ (below2 _ _ _)).out).mono ?_); rintro e w2 ⟨rfl, hb⟩; have HB2 := Lib.hid (below_then (below_lay (below_lay HB.out _) _) hb); clear hb)
          go_ret
          exact ⟨by rw [HR.out] <;> rfl, HB2.out⟩
      · have HR := Lib.hid (show cmpR (l.map Prod.fst) (m.map Prod.fst) = 1 by rw [HS.out]; exact cmpR_over _ _ _ (by rw [List.length_map, ← HM.out]; omega) (by rw [List.length_map, ← HN.out]; exact hlt))
        clear ht
        go_wp2_with fail
        go_ret
        exact ⟨by rw [HR.out] <;> rfl, below_lay HB.out _⟩
    · have HR := Lib.hid (show cmpR (l.map Prod.fst) (m.map Prod.fst) = if n < n2 then -1 else 0 by
        rw [HS.out, cmpR_ends _ _ (by rw [List.length_map, List.length_map, ← HN.out, ← HM.out]; omega) k (by rw [List.length_map, ← HN.out]; omega), List.length_map, List.length_map, ← HN.out, ← HM.out])
      by_cases hnn : n < n2
      · rw [if_pos hnn] at HR
        go_wp2_with fail
        go_ret
        exact ⟨by rw [HR.out] <;> rfl, HB.out⟩
      · rw [if_neg hnn] at HR
        go_wp2_with fail
        go_ret
        exact ⟨by rw [HR.out] <;> rfl, HB.out⟩

set_option maxHeartbeats 1000000 in
theorem rows_any (v1 v2 : Value) (x y : List Vc) (w : World) (hx : RdRow w v1 x) (hy : RdRow w v2 y) (hl : x.length ≤ 1000000) (hl2 : y.length ≤ 1000000) :
    Calls Try.prog 19 #[v1, v2] w fun e w' => e = .returned (.int .i64 (cmpR x y)) ∧ Below w.heap.size w w' := by
  have HC := Lib.hid (compareFunc_any v1 v2 x y w hx hy hl hl2)
  obtain ⟨a1, c1, rfl⟩ := rdRow_shape hx
  obtain ⟨a2, c2, rfl⟩ := rdRow_shape hy
  clear hx hy
  go_enter Try.func19, Try.ntmps19
  go_wp2_with fail
  refine HC.out.mono ?_
  rintro e w2 ⟨rfl, hb⟩
  have HB := Lib.hid hb
  clear hb
  go_wp2_with fail
  go_ret
  exact ⟨rfl, HB.out⟩

end Go.Proofs.Ytlkjdclhgmkndaa
