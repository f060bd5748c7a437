import Derived.Test.YtmpgnjhgegbdkaaGreatSgt
set_option linter.unusedVariables false
set_option linter.unusedSimpArgs false
set_option maxRecDepth 100000
set_option maxHeartbeats 8000000
open Go.Lib (hid)
namespace Go.Proofs.YtmpgnjhgegbdkaaGreat
open Go.RowKit
open _root_.List renaming getElem_toArray -> Qa, getElem_cons_succ -> Qb, getElem_cons_zero -> Qc, setIfInBounds_toArray -> Qd, set_cons_zero -> Qe, set_cons_succ -> Qf, length_map -> Qi, getElem?_eq_getElem -> Qj, drop_of_length_le -> Qk
open Go.World renaming block_lt_of_cell? -> Qg
open Go.RowKit.Below renaming refl -> Qh
theorem zTl (v1 v2 : Value) (x : List Co) (y : List Vc) (w : World) (hx : RdC w v1 x) (hy : RdRow w v2 y) (hl : x.length <= 1000000) (hl2 : y.length <= 1000000) :
  Calls Tryz.prog 26 #[.agg #[v1], v2] w fun e w' => e = .returned (.bool (fitsR x y)) ∧ Below w.heap.size w w' := by
 obtain ⟨m, rfl, hy⟩ := hy
 rw [Qi] at hl2
 obtain ⟨a1, c1, rfl⟩ := zBs hx
 obtain ⟨a2, c2, rfl⟩ := zD3 hy
 by_cases hn : x.length = m.length
 ·obtain ⟨n, hN⟩ : ∃ n, n = x.length := ⟨_, rfl⟩
  rw [<- hN] at hn hx hl ⊢
  rw [<- hn] at hy ⊢
  have HX := hid (RdC.kept hx (zAc w (.cells #[.slice a1 n c1] 24)))
  have HY := hid (hy.kept (zAc w (.cells #[.slice a1 n c1] 24)))
  have HBA := hid (zAc w (.cells #[.slice a1 n c1] 24))
  have HZ := hid (heap_alloc_new w (.cells #[.slice a1 n c1] 24))
  have HN := hid hN
  have HM := hid hn
  clear hx hy hN hn hl2
  go_enter Tryz.func26, Tryz.ntmps26
  go_wp2_with fail
  go_loopw [5] (fun i wr => ∃ k : Nat, k <= n ∧ i = .int .i64 (k : Int) ∧ fitsR x (m.map Prod.fst) = fitsR (x.drop k) ((m.map Prod.fst).drop k) ∧ Below (w.alloc (.cells #[.slice a1 n c1] 24)).heap.size (w.alloc (.cells #[.slice a1 n c1] 24)) wr) (fun i _ => n - (intOf i).toNat)
  case atStart => exact ⟨0, Nat.zero_le _, rfl, rfl, Qh _ _⟩
  case round =>
   obtain ⟨k, hk, rfl, hs, hbel⟩ := hrel
   have HS := hid hs
   have HB := hid hbel
   clear hs hbel
   by_cases hlt : k < n
   ·have hlti : (k : Int) < (n : Int) := by omega
    have hk0 : (0 : Int) <= (k : Int) := by omega
    obtain ⟨t, ht⟩ : ∃ t, x[k]? = some t := ⟨_, Qj (by rw [<- HN.out]; exact hlt)⟩
    obtain ⟨u, hu⟩ : ∃ u, m[k]? = some u := ⟨_, Qj (by rw [<- HM.out]; exact hlt)⟩
    obtain ⟨b1, o1, rfl, p0, p1, p2⟩ := (RdC.kept HX.out HB.out).at ht
    obtain ⟨b2, o2, rfl, q0, q1, q2, q3, ok2⟩ := (HY.out.kept HB.out).at hu
    have HE := hid (zKq ht (zIe hu))
    obtain ⟨sa2, sc2, hs2⟩ := zAj ok2.1
    obtain ⟨⟨uu, uk, un, ub⟩, us⟩ := u
    obtain ⟨tn, tk, tu⟩ := t
    simp only at hs2 q0 q1 q2 q3 p0 p1 p2
    subst hs2
    have z0 := (HB.out.block w.heap.size (by simp)).trans HZ.out
    have zc : wr.cell? ⟨w.heap.size, 0, none⟩ = some (.slice (some ⟨b1, o1, none⟩) n c1) := by rw [cell_of_row wr w.heap.size 0 _ _ _ z0]; rfl
    have HC := fun w1 => hid (zRf tk ⟨uu, uk, un, ub⟩ sa2 sc2 w1)
    rw [zTj] at HE
    simp only at HC HE
    obtain ⟨B, hB⟩ : ∃ B, B = valB tk ⟨uu, uk, un, ub⟩ := ⟨_, rfl⟩
    rw [<- hB] at HC HE
    clear ht hu ok2 z0 hB p0
    cases B with
    | false =>
     have HR := hid (show fitsR x (m.map Prod.fst) = false by rw [HS.out, HE.out]; rfl)
     go_upto_region 6 with (fail)
     refine wp_region_noPanic ?_
     refine wp_region_held_drew (S := (fun w' => w'.cell? ⟨w.heap.size, 0, none⟩ = some (.slice (some ⟨b1, o1, none⟩) n c1) ∧ w'.cell? ⟨b1, o1 + k * 3 + 1, none⟩ = some (.int .i64 tk) ∧ w'.cell? ⟨b1, o1 + k * 3 + 2, none⟩ = some (.bool tu) ∧ w'.cell? ⟨b2, o2 + k * 4, none⟩ = some (.bool uu) ∧ w'.cell? ⟨b2, o2 + k * 4 + 1, none⟩ = some (.int .i64 uk) ∧ w'.cell? ⟨b2, o2 + k * 4 + 2, none⟩ = some (.int .i64 un) ∧ w'.cell? ⟨b2, o2 + k * 4 + 3, none⟩ = some (.slice sa2 ub.length sc2) ∧ Below wr.heap.size wr w')) (by kernel_rfl) ?hS0 (fun hHeld => ?go0)
     case' hS0 => ((try dsimp only); first | assumption | exact zAe _ _ | exact Qh _ _ | exact ⟨(by first | assumption | exact (hB9.cell (Qg _ _ zc)).trans zc), (by first | assumption | exact (hB9.cell (Qg _ _ p1)).trans p1), (by first | assumption | exact (hB9.cell (Qg _ _ p2)).trans p2), (by first | assumption | exact (hB9.cell (Qg _ _ q0)).trans q0), (by first | assumption | exact (hB9.cell (Qg _ _ q1)).trans q1), (by first | assumption | exact (hB9.cell (Qg _ _ q2)).trans q2), (by first | assumption | exact (hB9.cell (Qg _ _ q3)).trans q3), (by first | assumption | exact hB9 | exact zAe _ _ | exact Qh _ _)⟩)
     refine wpAnyH_take (i := 0) (v := ?v0) rfl (by kernel_rfl) (by kernel_rfl) (by kernel_rfl) (fun _ _ _ h => h) (Or.inl ⟨by rfl, ?hy0⟩) (by assumption) ?_
     case' hy0 => (intro w hSw; (try dsimp only at hSw); first | (go_simp; done) | (go_simp; with_reducible rfl))
     (try simp only [Act.put, Qa, Qb, Qc, Qd, Qe, Qf])
     refine wpAnyH_take (i := 1) (v := ?v1) rfl (by kernel_rfl) (by kernel_rfl) (by kernel_rfl) (fun _ _ _ h => h) (Or.inl ⟨by rfl, ?hy1⟩) (by assumption) ?_
     case' hy1 => (intro w hSw; (try dsimp only at hSw); first | (go_simp; done) | (go_simp; with_reducible rfl))
     (try simp only [Act.put, Qa, Qb, Qc, Qd, Qe, Qf])
     refine wpAnyH_take (i := 2) (v := ?v2) rfl (by kernel_rfl) (by kernel_rfl) (by kernel_rfl) (fun _ _ _ h => h) (Or.inl ⟨by rfl, ?hy2⟩) (by assumption) ?_
     case' hy2 => (intro w hSw; (try dsimp only at hSw); first | (go_simp; done) | (go_simp; with_reducible rfl))
     (try simp only [Act.put, Qa, Qb, Qc, Qd, Qe, Qf])
     refine wpAnyH_take (i := 3) (v := ?v3) rfl (by kernel_rfl) (by kernel_rfl) (by kernel_rfl) (fun _ _ _ h => h) (Or.inl ⟨by rfl, ?hy3⟩) (by assumption) ?_
     case' hy3 => (intro w hSw; (try dsimp only at hSw); first | (go_simp; done) | (go_simp; with_reducible rfl))
     (try simp only [Act.put, Qa, Qb, Qc, Qd, Qe, Qf])
     refine wpAnyH_take (i := 4) (v := ?v4) rfl (by kernel_rfl) (by kernel_rfl) (by kernel_rfl) (fun _ _ _ h => h) (Or.inl ⟨by rfl, ?hy4⟩) (by assumption) ?_
     case' hy4 => (intro w hSw; (try dsimp only at hSw); first | (go_simp; done) | (go_simp; with_reducible rfl))
     (try simp only [Act.put, Qa, Qb, Qc, Qd, Qe, Qf])
     refine wpAnyH_take (i := 5) (v := ?v5) rfl (by kernel_rfl) (by kernel_rfl) (by kernel_rfl) (fun _ _ _ h => h) (Or.inl ⟨by rfl, ?hy5⟩) (by assumption) ?_
     case' hy5 => (intro w hSw; (try dsimp only at hSw); first | (go_simp; done) | (go_simp; with_reducible rfl))
     (try simp only [Act.put, Qa, Qb, Qc, Qd, Qe, Qf])
     refine wpAnyH_take (i := 6) (v := ?v6) rfl (by kernel_rfl) (by kernel_rfl) (by kernel_rfl) (fun _ _ _ h => h) (Or.inl ⟨by rfl, ?hy6⟩) (by assumption) ?_
     case' hy6 => (intro w hSw; (try dsimp only at hSw); first | (go_simp; done) | (go_simp; with_reducible rfl))
     (try simp only [Act.put, Qa, Qb, Qc, Qd, Qe, Qf])
     refine wpAnyH_take (i := 7) (v := ?v7) rfl (by kernel_rfl) (by kernel_rfl) (by kernel_rfl) (fun _ _ _ h => h) (Or.inl ⟨by rfl, ?hy7⟩) (by assumption) ?_
     case' hy7 => (intro w hSw; (try dsimp only at hSw); first | (go_simp; done) | (go_simp; with_reducible rfl))
     (try simp only [Act.put, Qa, Qb, Qc, Qd, Qe, Qf])
     refine wpAnyH_take (i := 8) (v := ?v8) rfl (by kernel_rfl) (by kernel_rfl) (by kernel_rfl) (fun _ _ _ h => h) (Or.inl ⟨by rfl, ?hy8⟩) (by assumption) ?_
     case' hy8 => (intro w hSw; (try dsimp only at hSw); first | (go_simp; done) | (go_simp; with_reducible rfl))
     (try simp only [Act.put, Qa, Qb, Qc, Qd, Qe, Qf])
     refine wpAnyH_take (i := 9) (v := ?v9) rfl (by kernel_rfl) (by kernel_rfl) (by kernel_rfl) (fun _ _ _ h => h) (Or.inl ⟨by rfl, ?hy9⟩) (by assumption) ?_
     case' hy9 => (intro w hSw; (try dsimp only at hSw); first | (go_simp; done) | (go_simp; with_reducible rfl))
     (try simp only [Act.put, Qa, Qb, Qc, Qd, Qe, Qf])
     refine wpAnyH_ready (rs := [10]) (by kernel_rfl) (by simp) ?_
     refine AllReadyH.cons (o := _) rfl (fun K10 hK10 => ?_) AllReadyH.nil
     go_simp
     (first | (go_at_call 56; refine ((HC _).out).mono ?_; rintro e w2 ⟨rfl, hb⟩; have hB9 : Below wr.heap.size wr w2 := (by first | exact hb | exact zAa (zAe _ _) hb)))
     refine hK10.out _ _ ?hS10 (fun hHeld10 => ?_)
     case' hS10 => ((try dsimp only); first | assumption | exact zAe _ _ | exact Qh _ _ | exact ⟨(by first | assumption | exact (hB9.cell (Qg _ _ zc)).trans zc), (by first | assumption | exact (hB9.cell (Qg _ _ p1)).trans p1), (by first | assumption | exact (hB9.cell (Qg _ _ p2)).trans p2), (by first | assumption | exact (hB9.cell (Qg _ _ q0)).trans q0), (by first | assumption | exact (hB9.cell (Qg _ _ q1)).trans q1), (by first | assumption | exact (hB9.cell (Qg _ _ q2)).trans q2), (by first | assumption | exact (hB9.cell (Qg _ _ q3)).trans q3), (by first | assumption | exact hB9 | exact zAe _ _ | exact Qh _ _)⟩)
     clear hK10 K10
     (try simp only [Act.put, Qa, Qb, Qc, Qd, Qe, Qf])
     refine wpAnyH_take (i := 11) (v := ?v11) rfl (by kernel_rfl) (by kernel_rfl) (by kernel_rfl) (fun _ _ _ h => h) (Or.inl ⟨by rfl, ?hy11⟩) (by assumption) ?_
     case' hy11 => (intro w hSw; (try dsimp only at hSw); first | (go_simp; done) | (go_simp; with_reducible rfl))
     (try simp only [Act.put, Qa, Qb, Qc, Qd, Qe, Qf])
     refine wpAnyH_take (i := 12) (v := ?v12) rfl (by kernel_rfl) (by kernel_rfl) (by kernel_rfl) (fun _ _ _ h => h) (Or.inl ⟨by rfl, ?hy12⟩) (by assumption) ?_
     case' hy12 => (intro w hSw; (try dsimp only at hSw); first | (go_simp; done) | (go_simp; with_reducible rfl))
     (try simp only [Act.put, Qa, Qb, Qc, Qd, Qe, Qf])
     refine wpAnyH_take (i := 13) (v := undef) rfl (by kernel_rfl) (by kernel_rfl) (by kernel_rfl) (fun _ _ _ h => h) (Or.inr ⟨by rfl, rfl⟩) (by assumption) ?_
     (try simp only [Act.put, Qa, Qb, Qc, Qd, Qe, Qf])
     refine wpAnyH_take (i := 14) (v := undef) rfl (by kernel_rfl) (by kernel_rfl) (by kernel_rfl) (fun _ _ _ h => h) (Or.inr ⟨by rfl, rfl⟩) (by assumption) ?_
     (try simp only [Act.put, Qa, Qb, Qc, Qd, Qe, Qf])
     refine wpAnyH_take (i := 15) (v := undef) rfl (by kernel_rfl) (by kernel_rfl) (by kernel_rfl) (fun _ _ _ h => h) (Or.inr ⟨by rfl, rfl⟩) (by assumption) ?_
     (try simp only [Act.put, Qa, Qb, Qc, Qd, Qe, Qf])
     refine wpAnyH_take (i := 16) (v := undef) rfl (by kernel_rfl) (by kernel_rfl) (by kernel_rfl) (fun _ _ _ h => h) (Or.inr ⟨by rfl, rfl⟩) (by assumption) ?_
     (try simp only [Act.put, Qa, Qb, Qc, Qd, Qe, Qf])
     refine wpAnyH_take (i := 17) (v := undef) rfl (by kernel_rfl) (by kernel_rfl) (by kernel_rfl) (fun _ _ _ h => h) (Or.inr ⟨by rfl, rfl⟩) (by assumption) ?_
     (try simp only [Act.put, Qa, Qb, Qc, Qd, Qe, Qf])
     refine wpAnyH_take (i := 18) (v := undef) rfl (by kernel_rfl) (by kernel_rfl) (by kernel_rfl) (fun _ _ _ h => h) (Or.inr ⟨by rfl, rfl⟩) (by assumption) ?_
     (try simp only [Act.put, Qa, Qb, Qc, Qd, Qe, Qf])
     refine wpAnyH_take (i := 19) (v := undef) rfl (by kernel_rfl) (by kernel_rfl) (by kernel_rfl) (fun _ _ _ h => h) (Or.inr ⟨by rfl, rfl⟩) (by assumption) ?_
     (try simp only [Act.put, Qa, Qb, Qc, Qd, Qe, Qf])
     refine wpAnyH_take (i := 20) (v := undef) rfl (by kernel_rfl) (by kernel_rfl) (by kernel_rfl) (fun _ _ _ h => h) (Or.inr ⟨by rfl, rfl⟩) (by assumption) ?_
     (try simp only [Act.put, Qa, Qb, Qc, Qd, Qe, Qf])
     refine wpAnyH_take (i := 21) (v := undef) rfl (by kernel_rfl) (by kernel_rfl) (by kernel_rfl) (fun _ _ _ h => h) (Or.inr ⟨by rfl, rfl⟩) (by assumption) ?_
     (try simp only [Act.put, Qa, Qb, Qc, Qd, Qe, Qf])
     refine wpAnyH_take (i := 22) (v := undef) rfl (by kernel_rfl) (by kernel_rfl) (by kernel_rfl) (fun _ _ _ h => h) (Or.inr ⟨by rfl, rfl⟩) (by assumption) ?_
     (try simp only [Act.put, Qa, Qb, Qc, Qd, Qe, Qf])
     refine wpAnyH_take (i := 23) (v := undef) rfl (by kernel_rfl) (by kernel_rfl) (by kernel_rfl) (fun _ _ _ h => h) (Or.inr ⟨by rfl, rfl⟩) (by assumption) ?_
     (try simp only [Act.put, Qa, Qb, Qc, Qd, Qe, Qf])
     refine wpAnyH_take (i := 24) (v := undef) rfl (by kernel_rfl) (by kernel_rfl) (by kernel_rfl) (fun _ _ _ h => h) (Or.inr ⟨by rfl, rfl⟩) (by assumption) ?_
     (try simp only [Act.put, Qa, Qb, Qc, Qd, Qe, Qf])
     refine wpAnyH_take (i := 25) (v := undef) rfl (by kernel_rfl) (by kernel_rfl) (by kernel_rfl) (fun _ _ _ h => h) (Or.inr ⟨by rfl, rfl⟩) (by assumption) ?_
     (try simp only [Act.put, Qa, Qb, Qc, Qd, Qe, Qf])
     refine wpAnyH_take (i := 26) (v := undef) rfl (by kernel_rfl) (by kernel_rfl) (by kernel_rfl) (fun _ _ _ h => h) (Or.inr ⟨by rfl, rfl⟩) (by assumption) ?_
     (try simp only [Act.put, Qa, Qb, Qc, Qd, Qe, Qf])
     refine wpAnyH_take (i := 27) (v := ?v27) rfl (by kernel_rfl) (by kernel_rfl) (by kernel_rfl) (fun _ _ _ h => h) (Or.inl ⟨by rfl, ?hy27⟩) (by assumption) ?_
     case' hy27 => (intro w hSw; (try dsimp only at hSw); first | (go_simp; done) | (go_simp; with_reducible rfl))
     (try simp only [Act.put, Qa, Qb, Qc, Qd, Qe, Qf])
     refine wpAnyH_done (by kernel_rfl) ?_ _
     refine NoPanic.normal ?_
     all_goals
      go_wp2_with fail
      go_ret
      exact ⟨by rw [HR.out] <;> rfl, zAa HBA.out (zAa HB.out hB9)⟩
    | true =>
     cases uu with
     | false =>
      have HR := hid (show fitsR x (m.map Prod.fst) = fitsR (x.drop (k + 1)) ((m.map Prod.fst).drop (k + 1)) by rw [HS.out, HE.out]; rfl)
      go_upto_region 6 with (fail)
      refine wp_region_noPanic ?_
      refine wp_region_held_drew (S := (fun w' => w'.cell? ⟨w.heap.size, 0, none⟩ = some (.slice (some ⟨b1, o1, none⟩) n c1) ∧ w'.cell? ⟨b1, o1 + k * 3 + 1, none⟩ = some (.int .i64 tk) ∧ w'.cell? ⟨b1, o1 + k * 3 + 2, none⟩ = some (.bool tu) ∧ w'.cell? ⟨b2, o2 + k * 4, none⟩ = some (.bool false) ∧ w'.cell? ⟨b2, o2 + k * 4 + 1, none⟩ = some (.int .i64 uk) ∧ w'.cell? ⟨b2, o2 + k * 4 + 2, none⟩ = some (.int .i64 un) ∧ w'.cell? ⟨b2, o2 + k * 4 + 3, none⟩ = some (.slice sa2 ub.length sc2) ∧ Below wr.heap.size wr w')) (by kernel_rfl) ?gS0 (fun hHeld => ?gp0)
      case' gS0 => ((try dsimp only); first | assumption | exact zAe _ _ | exact Qh _ _ | exact ⟨(by first | assumption | exact (hB9.cell (Qg _ _ zc)).trans zc), (by first | assumption | exact (hB9.cell (Qg _ _ p1)).trans p1), (by first | assumption | exact (hB9.cell (Qg _ _ p2)).trans p2), (by first | assumption | exact (hB9.cell (Qg _ _ q0)).trans q0), (by first | assumption | exact (hB9.cell (Qg _ _ q1)).trans q1), (by first | assumption | exact (hB9.cell (Qg _ _ q2)).trans q2), (by first | assumption | exact (hB9.cell (Qg _ _ q3)).trans q3), (by first | assumption | exact hB9 | exact zAe _ _ | exact Qh _ _)⟩)
      refine wpAnyH_take (i := 0) (v := ?u0) rfl (by kernel_rfl) (by kernel_rfl) (by kernel_rfl) (fun _ _ _ h => h) (Or.inl ⟨by rfl, ?gy0⟩) (by assumption) ?_
      case' gy0 => (intro w hSw; (try dsimp only at hSw); first | (go_simp; done) | (go_simp; with_reducible rfl))
      (try simp only [Act.put, Qa, Qb, Qc, Qd, Qe, Qf])
      refine wpAnyH_take (i := 1) (v := ?u1) rfl (by kernel_rfl) (by kernel_rfl) (by kernel_rfl) (fun _ _ _ h => h) (Or.inl ⟨by rfl, ?gy1⟩) (by assumption) ?_
      case' gy1 => (intro w hSw; (try dsimp only at hSw); first | (go_simp; done) | (go_simp; with_reducible rfl))
      (try simp only [Act.put, Qa, Qb, Qc, Qd, Qe, Qf])
      refine wpAnyH_take (i := 2) (v := ?u2) rfl (by kernel_rfl) (by kernel_rfl) (by kernel_rfl) (fun _ _ _ h => h) (Or.inl ⟨by rfl, ?gy2⟩) (by assumption) ?_
      case' gy2 => (intro w hSw; (try dsimp only at hSw); first | (go_simp; done) | (go_simp; with_reducible rfl))
      (try simp only [Act.put, Qa, Qb, Qc, Qd, Qe, Qf])
      refine wpAnyH_take (i := 3) (v := ?u3) rfl (by kernel_rfl) (by kernel_rfl) (by kernel_rfl) (fun _ _ _ h => h) (Or.inl ⟨by rfl, ?gy3⟩) (by assumption) ?_
      case' gy3 => (intro w hSw; (try dsimp only at hSw); first | (go_simp; done) | (go_simp; with_reducible rfl))
      (try simp only [Act.put, Qa, Qb, Qc, Qd, Qe, Qf])
      refine wpAnyH_take (i := 4) (v := ?u4) rfl (by kernel_rfl) (by kernel_rfl) (by kernel_rfl) (fun _ _ _ h => h) (Or.inl ⟨by rfl, ?gy4⟩) (by assumption) ?_
      case' gy4 => (intro w hSw; (try dsimp only at hSw); first | (go_simp; done) | (go_simp; with_reducible rfl))
      (try simp only [Act.put, Qa, Qb, Qc, Qd, Qe, Qf])
      refine wpAnyH_take (i := 5) (v := ?u5) rfl (by kernel_rfl) (by kernel_rfl) (by kernel_rfl) (fun _ _ _ h => h) (Or.inl ⟨by rfl, ?gy5⟩) (by assumption) ?_
      case' gy5 => (intro w hSw; (try dsimp only at hSw); first | (go_simp; done) | (go_simp; with_reducible rfl))
      (try simp only [Act.put, Qa, Qb, Qc, Qd, Qe, Qf])
      refine wpAnyH_take (i := 6) (v := ?u6) rfl (by kernel_rfl) (by kernel_rfl) (by kernel_rfl) (fun _ _ _ h => h) (Or.inl ⟨by rfl, ?gy6⟩) (by assumption) ?_
      case' gy6 => (intro w hSw; (try dsimp only at hSw); first | (go_simp; done) | (go_simp; with_reducible rfl))
      (try simp only [Act.put, Qa, Qb, Qc, Qd, Qe, Qf])
      refine wpAnyH_take (i := 7) (v := ?u7) rfl (by kernel_rfl) (by kernel_rfl) (by kernel_rfl) (fun _ _ _ h => h) (Or.inl ⟨by rfl, ?gy7⟩) (by assumption) ?_
      case' gy7 => (intro w hSw; (try dsimp only at hSw); first | (go_simp; done) | (go_simp; with_reducible rfl))
      (try simp only [Act.put, Qa, Qb, Qc, Qd, Qe, Qf])
      refine wpAnyH_take (i := 8) (v := ?u8) rfl (by kernel_rfl) (by kernel_rfl) (by kernel_rfl) (fun _ _ _ h => h) (Or.inl ⟨by rfl, ?gy8⟩) (by assumption) ?_
      case' gy8 => (intro w hSw; (try dsimp only at hSw); first | (go_simp; done) | (go_simp; with_reducible rfl))
      (try simp only [Act.put, Qa, Qb, Qc, Qd, Qe, Qf])
      refine wpAnyH_take (i := 9) (v := ?u9) rfl (by kernel_rfl) (by kernel_rfl) (by kernel_rfl) (fun _ _ _ h => h) (Or.inl ⟨by rfl, ?gy9⟩) (by assumption) ?_
      case' gy9 => (intro w hSw; (try dsimp only at hSw); first | (go_simp; done) | (go_simp; with_reducible rfl))
      (try simp only [Act.put, Qa, Qb, Qc, Qd, Qe, Qf])
      refine wpAnyH_ready (rs := [10]) (by kernel_rfl) (by simp) ?_
      refine AllReadyH.cons (o := _) rfl (fun K10 hK10 => ?_) AllReadyH.nil
      go_simp
      (first | (go_at_call 56; refine ((HC _).out).mono ?_; rintro e w2 ⟨rfl, hb⟩; have hB9 : Below wr.heap.size wr w2 := (by first | exact hb | exact zAa (zAe _ _) hb)))
      refine hK10.out _ _ ?gS10 (fun hHeld10 => ?_)
      case' gS10 => ((try dsimp only); first | assumption | exact zAe _ _ | exact Qh _ _ | exact ⟨(by first | assumption | exact (hB9.cell (Qg _ _ zc)).trans zc), (by first | assumption | exact (hB9.cell (Qg _ _ p1)).trans p1), (by first | assumption | exact (hB9.cell (Qg _ _ p2)).trans p2), (by first | assumption | exact (hB9.cell (Qg _ _ q0)).trans q0), (by first | assumption | exact (hB9.cell (Qg _ _ q1)).trans q1), (by first | assumption | exact (hB9.cell (Qg _ _ q2)).trans q2), (by first | assumption | exact (hB9.cell (Qg _ _ q3)).trans q3), (by first | assumption | exact hB9 | exact zAe _ _ | exact Qh _ _)⟩)
      clear hK10 K10
      (try simp only [Act.put, Qa, Qb, Qc, Qd, Qe, Qf])
      refine wpAnyH_take (i := 11) (v := ?u11) rfl (by kernel_rfl) (by kernel_rfl) (by kernel_rfl) (fun _ _ _ h => h) (Or.inl ⟨by rfl, ?gy11⟩) (by assumption) ?_
      case' gy11 => (intro w hSw; (try dsimp only at hSw); first | (go_simp; done) | (go_simp; with_reducible rfl))
      (try simp only [Act.put, Qa, Qb, Qc, Qd, Qe, Qf])
      refine wpAnyH_take (i := 12) (v := ?u12) rfl (by kernel_rfl) (by kernel_rfl) (by kernel_rfl) (fun _ _ _ h => h) (Or.inl ⟨by rfl, ?gy12⟩) (by assumption) ?_
      case' gy12 => (intro w hSw; (try dsimp only at hSw); first | (go_simp; done) | (go_simp; with_reducible rfl))
      (try simp only [Act.put, Qa, Qb, Qc, Qd, Qe, Qf])
      refine wpAnyH_take (i := 13) (v := ?u13) rfl (by kernel_rfl) (by kernel_rfl) (by kernel_rfl) (fun _ _ _ h => h) (Or.inl ⟨by rfl, ?gy13⟩) (by assumption) ?_
      case' gy13 => (intro w hSw; (try dsimp only at hSw); first | (go_simp; done) | (go_simp; with_reducible rfl))
      (try simp only [Act.put, Qa, Qb, Qc, Qd, Qe, Qf])
      refine wpAnyH_take (i := 14) (v := ?u14) rfl (by kernel_rfl) (by kernel_rfl) (by kernel_rfl) (fun _ _ _ h => h) (Or.inl ⟨by rfl, ?gy14⟩) (by assumption) ?_
      case' gy14 => (intro w hSw; (try dsimp only at hSw); first | (go_simp; done) | (go_simp; with_reducible rfl))
      (try simp only [Act.put, Qa, Qb, Qc, Qd, Qe, Qf])
      refine wpAnyH_take (i := 15) (v := ?u15) rfl (by kernel_rfl) (by kernel_rfl) (by kernel_rfl) (fun _ _ _ h => h) (Or.inl ⟨by rfl, ?gy15⟩) (by assumption) ?_
      case' gy15 => (intro w hSw; (try dsimp only at hSw); first | (go_simp; done) | (go_simp; with_reducible rfl))
      (try simp only [Act.put, Qa, Qb, Qc, Qd, Qe, Qf])
      refine wpAnyH_take (i := 16) (v := ?u16) rfl (by kernel_rfl) (by kernel_rfl) (by kernel_rfl) (fun _ _ _ h => h) (Or.inl ⟨by rfl, ?gy16⟩) (by assumption) ?_
      case' gy16 => (intro w hSw; (try dsimp only at hSw); first | (go_simp; done) | (go_simp; with_reducible rfl))
      (try simp only [Act.put, Qa, Qb, Qc, Qd, Qe, Qf])
      refine wpAnyH_take (i := 17) (v := ?u17) rfl (by kernel_rfl) (by kernel_rfl) (by kernel_rfl) (fun _ _ _ h => h) (Or.inl ⟨by rfl, ?gy17⟩) (by assumption) ?_
      case' gy17 => (intro w hSw; (try dsimp only at hSw); first | (go_simp; done) | (go_simp; with_reducible rfl))
      (try simp only [Act.put, Qa, Qb, Qc, Qd, Qe, Qf])
      refine wpAnyH_take (i := 18) (v := ?u18) rfl (by kernel_rfl) (by kernel_rfl) (by kernel_rfl) (fun _ _ _ h => h) (Or.inl ⟨by rfl, ?gy18⟩) (by assumption) ?_
      case' gy18 => (intro w hSw; (try dsimp only at hSw); first | (go_simp; done) | (go_simp; with_reducible rfl))
      (try simp only [Act.put, Qa, Qb, Qc, Qd, Qe, Qf])
      refine wpAnyH_take (i := 19) (v := undef) rfl (by kernel_rfl) (by kernel_rfl) (by kernel_rfl) (fun _ _ _ h => h) (Or.inr ⟨by rfl, rfl⟩) (by assumption) ?_
      (try simp only [Act.put, Qa, Qb, Qc, Qd, Qe, Qf])
      refine wpAnyH_take (i := 20) (v := undef) rfl (by kernel_rfl) (by kernel_rfl) (by kernel_rfl) (fun _ _ _ h => h) (Or.inr ⟨by rfl, rfl⟩) (by assumption) ?_
      (try simp only [Act.put, Qa, Qb, Qc, Qd, Qe, Qf])
      refine wpAnyH_take (i := 21) (v := undef) rfl (by kernel_rfl) (by kernel_rfl) (by kernel_rfl) (fun _ _ _ h => h) (Or.inr ⟨by rfl, rfl⟩) (by assumption) ?_
      (try simp only [Act.put, Qa, Qb, Qc, Qd, Qe, Qf])
      refine wpAnyH_take (i := 22) (v := undef) rfl (by kernel_rfl) (by kernel_rfl) (by kernel_rfl) (fun _ _ _ h => h) (Or.inr ⟨by rfl, rfl⟩) (by assumption) ?_
      (try simp only [Act.put, Qa, Qb, Qc, Qd, Qe, Qf])
      refine wpAnyH_take (i := 23) (v := undef) rfl (by kernel_rfl) (by kernel_rfl) (by kernel_rfl) (fun _ _ _ h => h) (Or.inr ⟨by rfl, rfl⟩) (by assumption) ?_
      (try simp only [Act.put, Qa, Qb, Qc, Qd, Qe, Qf])
      refine wpAnyH_take (i := 24) (v := undef) rfl (by kernel_rfl) (by kernel_rfl) (by kernel_rfl) (fun _ _ _ h => h) (Or.inr ⟨by rfl, rfl⟩) (by assumption) ?_
      (try simp only [Act.put, Qa, Qb, Qc, Qd, Qe, Qf])
      refine wpAnyH_take (i := 25) (v := undef) rfl (by kernel_rfl) (by kernel_rfl) (by kernel_rfl) (fun _ _ _ h => h) (Or.inr ⟨by rfl, rfl⟩) (by assumption) ?_
      (try simp only [Act.put, Qa, Qb, Qc, Qd, Qe, Qf])
      refine wpAnyH_take (i := 26) (v := ?u26) rfl (by kernel_rfl) (by kernel_rfl) (by kernel_rfl) (fun _ _ _ h => h) (Or.inl ⟨by rfl, ?gy26⟩) (by assumption) ?_
      case' gy26 => (intro w hSw; (try dsimp only at hSw); first | (go_simp; done) | (go_simp; with_reducible rfl))
      (try simp only [Act.put, Qa, Qb, Qc, Qd, Qe, Qf])
      refine wpAnyH_take (i := 27) (v := ?u27) rfl (by kernel_rfl) (by kernel_rfl) (by kernel_rfl) (fun _ _ _ h => h) (Or.inl ⟨by rfl, ?gy27⟩) (by assumption) ?_
      case' gy27 => (intro w hSw; (try dsimp only at hSw); first | (go_simp; done) | (go_simp; with_reducible rfl))
      (try simp only [Act.put, Qa, Qb, Qc, Qd, Qe, Qf])
      refine wpAnyH_done (by kernel_rfl) ?_ _
      refine NoPanic.normal ?_
      all_goals
       go_wp2_with fail
       go_roundw
       case rel => exact ⟨k + 1, by omega, by go_num, HR.out, zAa HB.out hB9⟩
       case measure => simp [intOf]; omega
     | true =>
      cases tu with
      | true =>
       have HR := hid (show fitsR x (m.map Prod.fst) = fitsR (x.drop (k + 1)) ((m.map Prod.fst).drop (k + 1)) by rw [HS.out, HE.out]; rfl)
       go_upto_region 6 with (fail)
       go_region_held3 (fun w' => w'.cell? ⟨w.heap.size, 0, none⟩ = some (.slice (some ⟨b1, o1, none⟩) n c1) ∧ w'.cell? ⟨b1, o1 + k * 3 + 1, none⟩ = some (.int .i64 tk) ∧ w'.cell? ⟨b1, o1 + k * 3 + 2, none⟩ = some (.bool true) ∧ w'.cell? ⟨b2, o2 + k * 4, none⟩ = some (.bool true) ∧ w'.cell? ⟨b2, o2 + k * 4 + 1, none⟩ = some (.int .i64 uk) ∧ w'.cell? ⟨b2, o2 + k * 4 + 2, none⟩ = some (.int .i64 un) ∧ w'.cell? ⟨b2, o2 + k * 4 + 3, none⟩ = some (.slice sa2 ub.length sc2) ∧ Below wr.heap.size wr w') (first | assumption | exact zAe _ _ | exact Qh _ _ | exact ⟨(by first | assumption | exact (hB9.cell (Qg _ _ zc)).trans zc), (by first | assumption | exact (hB9.cell (Qg _ _ p1)).trans p1), (by first | assumption | exact (hB9.cell (Qg _ _ p2)).trans p2), (by first | assumption | exact (hB9.cell (Qg _ _ q0)).trans q0), (by first | assumption | exact (hB9.cell (Qg _ _ q1)).trans q1), (by first | assumption | exact (hB9.cell (Qg _ _ q2)).trans q2), (by first | assumption | exact (hB9.cell (Qg _ _ q3)).trans q3), (by first | assumption | exact hB9 | exact zAe _ _ | exact Qh _ _)⟩) (first | (go_at_call 56; refine ((HC _).out).mono ?_; rintro e w2 ⟨rfl, hb⟩; have hB9 : Below wr.heap.size wr w2 := (by first | exact hb | exact zAa (zAe _ _) hb)))
       all_goals
        go_wp2_with fail
        go_roundw
        case rel => exact ⟨k + 1, by omega, by go_num, HR.out, zAa HB.out hB9⟩
        case measure => simp [intOf]; omega
      | false =>
       have HR := hid (show fitsR x (m.map Prod.fst) = false by rw [HS.out, HE.out]; rfl)
       go_upto_region 6 with (fail)
       go_region_held3 (fun w' => w'.cell? ⟨w.heap.size, 0, none⟩ = some (.slice (some ⟨b1, o1, none⟩) n c1) ∧ w'.cell? ⟨b1, o1 + k * 3 + 1, none⟩ = some (.int .i64 tk) ∧ w'.cell? ⟨b1, o1 + k * 3 + 2, none⟩ = some (.bool false) ∧ w'.cell? ⟨b2, o2 + k * 4, none⟩ = some (.bool true) ∧ w'.cell? ⟨b2, o2 + k * 4 + 1, none⟩ = some (.int .i64 uk) ∧ w'.cell? ⟨b2, o2 + k * 4 + 2, none⟩ = some (.int .i64 un) ∧ w'.cell? ⟨b2, o2 + k * 4 + 3, none⟩ = some (.slice sa2 ub.length sc2) ∧ Below wr.heap.size wr w') (first | assumption | exact zAe _ _ | exact Qh _ _ | exact ⟨(by first | assumption | exact (hB9.cell (Qg _ _ zc)).trans zc), (by first | assumption | exact (hB9.cell (Qg _ _ p1)).trans p1), (by first | assumption | exact (hB9.cell (Qg _ _ p2)).trans p2), (by first | assumption | exact (hB9.cell (Qg _ _ q0)).trans q0), (by first | assumption | exact (hB9.cell (Qg _ _ q1)).trans q1), (by first | assumption | exact (hB9.cell (Qg _ _ q2)).trans q2), (by first | assumption | exact (hB9.cell (Qg _ _ q3)).trans q3), (by first | assumption | exact hB9 | exact zAe _ _ | exact Qh _ _)⟩) (first | (go_at_call 56; refine ((HC _).out).mono ?_; rintro e w2 ⟨rfl, hb⟩; have hB9 : Below wr.heap.size wr w2 := (by first | exact hb | exact zAa (zAe _ _) hb)))
       all_goals
        go_wp2_with fail
        go_ret
        exact ⟨by rw [HR.out] <;> rfl, zAa HBA.out (zAa HB.out hB9)⟩
   ·have HR := hid (show fitsR x (m.map Prod.fst) = true by
     have e : k = n := by omega
     rw [HS.out, e, Qk (by rw [<- HN.out]; omega), Qk (by rw [Qi, <- HM.out]; omega)]
     rfl)
    have hlti : ¬ (k : Int) < (n : Int) := by omega
    go_wp2_with fail
    go_ret
    exact ⟨by rw [HR.out] <;> rfl, zAa HBA.out HB.out⟩
 ·have HR := hid (show fitsR x (m.map Prod.fst) = false from zIf _ _ (by rw [Qi]; exact hn))
  obtain ⟨n1, hN1⟩ : ∃ n1, n1 = x.length := ⟨_, rfl⟩
  obtain ⟨n2, hN2⟩ : ∃ n2, n2 = m.length := ⟨_, rfl⟩
  rw [<- hN1] at hn ⊢
  rw [<- hN2] at hn ⊢
  have q : ((n2 : Int) != (n1 : Int)) = true := by rw [bne_iff_ne]; omega
  clear hn hN1 hN2 hx hy
  go_enter Tryz.func26, Tryz.ntmps26
  go_wp2_with fail
  go_ret
  exact ⟨by rw [HR.out] <;> rfl, zAc w _⟩
end Go.Proofs.YtmpgnjhgegbdkaaGreat
