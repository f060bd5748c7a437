/-
  Contract of schm.Fits.
-/
import Derived.Test.YtlkjdclhgmkndaaRows6
namespace Go.Proofs.Ytlkjdclhgmkndaa
set_option linter.unusedVariables false
set_option linter.unusedSimpArgs false
open Go.RowKit

def fitsR : List Co → List Vc → Bool
  | [], [] => true
  | c :: cs, v :: vs => fitsT c v && fitsR cs vs
  | _, _ => false
theorem fitsR_len : ∀ (x : List Co) (y : List Vc), x.length ≠ y.length → fitsR x y = false
  | [], [], h => absurd rfl h
  | [], _ :: _, _ => rfl
  | _ :: _, [], _ => rfl
  | a :: x, b :: y, h => by rw [fitsR, fitsR_len x y (by simpa using h)]; simp
theorem fitsR_drop {x : List Co} {y : List Vc} {k : Nat} {a : Co} {b : Vc} (hx : x[k]? = some a) (hy : y[k]? = some b) : fitsR (x.drop k) (y.drop k) = (fitsT a b && fitsR (x.drop (k + 1)) (y.drop (k + 1))) := by
  obtain ⟨h1, h2⟩ := List.getElem?_eq_some_iff.1 hx
  obtain ⟨h3, h4⟩ := List.getElem?_eq_some_iff.1 hy
  rw [List.drop_eq_getElem_cons h1, List.drop_eq_getElem_cons h3, fitsR, h2, h4]

theorem RdC.at {w : World} {ao : Option Addr} {len cap : Nat} {l : List Co} (h : RdC w (.slice ao len cap) l) {k : Nat} {t : Co} (hk : l[k]? = some t) :
    ∃ b off, ao = some ⟨b, off, none⟩ ∧ w.cell? ⟨b, off + k * 3, none⟩ = some (.string t.n) ∧ w.cell? ⟨b, off + k * 3 + 1, none⟩ = some (.int .i64 t.k) ∧ w.cell? ⟨b, off + k * 3 + 2, none⟩ = some (.bool t.u) := by
  obtain ⟨b, off, ha, hc⟩ := RdS.at h (k := k) (t := t.cells) (by rw [List.getElem?_map, hk]; rfl)
  exact ⟨b, off, ha, hc 0 _ rfl, hc 1 _ rfl, hc 2 _ rfl⟩
theorem rdC_shape {w : World} {v : Value} {l : List Co} (h : RdC w v l) : ∃ ao cap, v = .slice ao l.length cap := by
  obtain ⟨ao, cap, hv⟩ := rdS_shape h
  exact ⟨ao, cap, by simpa using hv⟩
theorem RdC.kept {w w' : World} {v : Value} {l : List Co} (h : RdC w v l) (hb : Below w.heap.size w w') : RdC w' v l := RdS.kept h hb

set_option maxRecDepth 100000 in
set_option maxHeartbeats 4000000 in
theorem fitsRow_any (v1 v2 : Value) (x : List Co) (y : List Vc) (w : World) (hx : RdC w v1 x) (hy : RdRow w v2 y) (hl : x.length ≤ 1000000) (hl2 : y.length ≤ 1000000) :
    Calls Try.prog 17 #[.agg #[v1], v2] w fun e w' => e = .returned (.bool (fitsR x y)) ∧ Below w.heap.size w w' := by
  obtain ⟨m, rfl, hy⟩ := hy
  rw [List.length_map] at hl2
  obtain ⟨a1, c1, rfl⟩ := rdC_shape hx
  obtain ⟨a2, c2, rfl⟩ := rdP_shape hy
  by_cases hn : x.length = m.length
  · obtain ⟨n, hN⟩ : ∃ n, n = x.length := ⟨_, rfl⟩
    rw [← hN] at hn hx hl ⊢
    rw [← hn] at hy ⊢
    have HX := Lib.hid (RdC.kept hx (below_alloc w (.cells #[.slice a1 n c1] 24)))
    have HY := Lib.hid (hy.kept (below_alloc w (.cells #[.slice a1 n c1] 24)))
    have HBA := Lib.hid (below_alloc w (.cells #[.slice a1 n c1] 24))
    have HZ := Lib.hid (heap_alloc_new w (.cells #[.slice a1 n c1] 24))
    have HN := Lib.hid hN
    have HM := Lib.hid hn
    clear hx hy hN hn hl2
    go_enter Try.func17, Try.ntmps17
    go_wp2_with fail
    go_loopw [15] (fun i wr => ∃ k : Nat, k ≤ n ∧ i = .int .i64 (k : Int) ∧ fitsR x (m.map Prod.fst) = fitsR (x.drop k) ((m.map Prod.fst).drop k) ∧ Below (w.alloc (.cells #[.slice a1 n c1] 24)).heap.size (w.alloc (.cells #[.slice a1 n c1] 24)) wr) (fun i _ => n - (intOf i).toNat)
    case atStart => exact ⟨0, Nat.zero_le _, rfl, rfl, Below.refl _ _⟩
    case round =>
      obtain ⟨k, hk, rfl, hs, hbel⟩ := hrel
      have HS := Lib.hid hs
      have HB := Lib.hid hbel
      clear hs hbel
      by_cases hlt : k < n
      · obtain ⟨t, ht⟩ : ∃ t, x[k]? = some t := ⟨_, List.getElem?_eq_getElem (by rw [← HN.out]; exact hlt)⟩
        obtain ⟨u, hu⟩ : ∃ u, m[k]? = some u := ⟨_, List.getElem?_eq_getElem (by rw [← HM.out]; exact hlt)⟩
        obtain ⟨b1, o1, rfl, p0, p1, p2⟩ := (RdC.kept HX.out HB.out).at ht
        obtain ⟨b2, o2, rfl, q0, q1, q2, q3, ok2⟩ := (HY.out.kept HB.out).at hu
        have HE := Lib.hid (fitsR_drop ht (map_at hu))
        obtain ⟨sa2, sc2, hs2⟩ := rd_shape8 ok2.1
        obtain ⟨uv, us⟩ := u
        simp only at hs2 q0 q1 q2 q3
        subst hs2
        have z0 := (HB.out.block w.heap.size (by simp)).trans HZ.out
        have zc : wr.cell? ⟨w.heap.size, 0, none⟩ = some (.slice (some ⟨b1, o1, none⟩) n c1) := by rw [cell_of_row wr w.heap.size 0 _ _ _ z0]; rfl
        replace zc := fun o => Lib.cell?_alloc_some (W := wr) o zc
        replace p0 := fun o => Lib.cell?_alloc_some (W := wr) o p0
        replace p1 := fun o => Lib.cell?_alloc_some (W := wr) o p1
        replace p2 := fun o => Lib.cell?_alloc_some (W := wr) o p2
        have HO2 := Lib.hid ok2
        clear ht hu ok2 z0
        have HC := fun w1 (h : Below wr.heap.size wr w1) => Lib.hid (fits_any t (uv, _) w1 (HO2.out.kept h))
        unfold aggV Co.agg at HC
        simp only at HC HE
        cases hsm : fitsT t uv
        · rw [hsm] at HC
          have HR := Lib.hid (show fitsR x (m.map Prod.fst) = false by rw [HS.out, HE.out, hsm]; rfl)
          clear hsm
          go_wp2_with fail
          go_region_with (go_at_call 52; refine ((HC _ (below_draws (below_alloc _ _) _)).out).mono ?_; rintro e w2 ⟨rfl, hb⟩)
          all_goals
            have HB2 := Lib.hid (below_then (below_draws (below_lay HB.out _) _) hb)
            clear hb
            go_wp2_with fail
            go_ret
            exact ⟨by rw [HR.out] <;> rfl, below_then HBA.out HB2.out⟩
        · rw [hsm] at HC
          have HR := Lib.hid (show fitsR x (m.map Prod.fst) = fitsR (x.drop (k + 1)) ((m.map Prod.fst).drop (k + 1)) by rw [HS.out, HE.out, hsm]; rfl)
          clear hsm
          go_wp2_with fail
          go_region_with (go_at_call 52; refine ((HC _ (below_draws (below_alloc _ _) _)).out).mono ?_; rintro e w2 ⟨rfl, hb⟩)
          all_goals
            have HB2 := Lib.hid (below_then (below_draws (below_lay HB.out _) _) hb)
            clear hb
            go_wp2_with fail
            go_roundw
            case rel => exact ⟨k + 1, by omega, by go_num, HR.out, HB2.out⟩
            case measure => simp [intOf]; omega
      · have HR := Lib.hid (show fitsR x (m.map Prod.fst) = true by
          have e : k = n := by omega
          rw [HS.out, e, List.drop_of_length_le (by rw [← HN.out]; omega), List.drop_of_length_le (by rw [List.length_map, ← HM.out]; omega)]
          rfl)
        go_wp2_with fail
        go_ret
        exact ⟨by rw [HR.out] <;> rfl, below_then HBA.out HB.out⟩
  · have HR := Lib.hid (show fitsR x (m.map Prod.fst) = false from fitsR_len _ _ (by rw [List.length_map]; exact hn))
    obtain ⟨n1, hN1⟩ : ∃ n1, n1 = x.length := ⟨_, rfl⟩
    obtain ⟨n2, hN2⟩ : ∃ n2, n2 = m.length := ⟨_, rfl⟩
    rw [← hN1] at hn ⊢
    rw [← hN2] at hn ⊢
    have q : ((n2 : Int) != (n1 : Int)) = true := by rw [bne_iff_ne]; omega
    clear hn hN1 hN2 hx hy
    go_enter Try.func17, Try.ntmps17
    go_wp2_with fail
    go_ret
    exact ⟨by rw [HR.out] <;> rfl, below_alloc w _⟩

end Go.Proofs.Ytlkjdclhgmkndaa
