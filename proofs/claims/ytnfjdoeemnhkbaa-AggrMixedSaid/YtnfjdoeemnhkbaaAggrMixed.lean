/-
  The walk of AggrMixed.
-/
import Derived.Test.YtnfjdoeemnhkbaaAgt
import Derived.Test.YtnfjdoeemnhkbaaColn
import Derived.Test.YtnfjdoeemnhkbaaLsix
import Derived.Test.YtnfjdoeemnhkbaaLone
import Derived.Test.YtnfjdoeemnhkbaaAwake16
import Derived.Deep.RegionHeld3
import Derived.Deep.QuietTactic
import Derived.BigQuiet
namespace Go.Proofs.Ytnfjdoeemnhkbaa
set_option linter.unusedVariables false
set_option linter.unusedSimpArgs false
open Go.RowKit Sy

theorem rd_at {w : World} {ao : Option Addr} {n cap : Nat} {xs : List Value} (h : Rd w (.slice ao n cap) xs) (h0 : 0 < xs.length) : ∃ b off, ao = some ⟨b, off, none⟩ ∧ ∀ i x, xs[i]? = some x → w.cell? ⟨b, off + i, none⟩ = some x := by
  obtain ⟨ao', cap', hv, _, hc⟩ := h
  cases hv
  obtain ⟨b, off, ha, hcell⟩ := hc h0
  refine ⟨b, off, ha, fun i x hx => ?_⟩
  rw [hcell i (List.getElem?_eq_some_iff.1 hx).1, List.getD_eq_getElem?_getD, hx]
  rfl
theorem GrpX.short {w0 w : World} {v : Value} {g c : Int} {E T : List El} {Ps : List (List El)} (h : GrpX w0 w v g c E Ps T) : ∀ x ∈ T, x.2.length ≤ 1000000 := fun x hx => by
  obtain ⟨i, hi⟩ := List.getElem?_of_mem hx
  have hil := (List.getElem?_eq_some_iff.1 hi).1
  obtain ⟨p, hp⟩ : ∃ p, Ps[i]? = some p := ⟨_, List.getElem?_eq_getElem (by rw [← h.len]; exact hil)⟩
  obtain ⟨ts, e1, e2⟩ := h.row i p x hp hi
  have h1 := congrArg List.length e2
  rw [List.length_map, List.length_map] at h1
  have h2 := congrArg List.length e1
  unfold El.row at h2
  rw [List.length_map, List.length_append, ← h1] at h2
  unfold ags4 at h2
  simp only [List.length_cons, List.length_nil] at h2
  split at h2 <;> simp at h2 <;> omega
theorem own_short {R : List (List Vc)} {Z : List El} (h : (Z.map El.row).Perm R) (hr : ∀ r ∈ R, r.length ≤ 1000000) : ∀ x ∈ Z, x.2.length ≤ 1000000 := fun x hx => by
  have h2 := hr x.row (h.mem_iff.1 (List.mem_map_of_mem hx))
  unfold El.row at h2
  rw [List.length_map] at h2
  exact h2
theorem same_own {K1 K2 : Nat} {w : World} {v1 v2 : Value} {E F : List El} (h1 : OwnD K1 w v1 E) (h2 : OwnD K2 w v2 F) (l1 : ∀ x ∈ E, x.2.length ≤ 1000000) (l2 : ∀ x ∈ F, x.2.length ≤ 1000000) (hl : E.length ≤ 1000000) (he : E.map El.row = F.map El.row) :
    Calls Try.prog 18 #[v1, v2] w fun e w' => e = .returned (.bool true) ∧ Below w.heap.size w w' :=
  sameTrue_any E F v1 v2 w hl (Rd.of_owns h1.1) (Rd.of_owns h2.1) (fun x hx => ⟨(h1.2 x hx).rd, l1 x hx⟩) (fun x hx => ⟨(h2.2 x hx).rd, l2 x hx⟩) he

set_option maxRecDepth 100000 in
set_option maxHeartbeats 16000000 in
theorem walk_AggrMixed (a0 : Int) (a1 : Option Addr) (len1 cap1 : Nat) (z1 : List Int) (a2 : Option Addr) (len2 cap2 : Nat) (z2 : List Int) (a3 : Int) (w : World) (w0 : (Lit.int .i64 a0).wf = true) (w1 : IsRow .i64 w a1 len1 cap1 z1) (w2 : IsRow .i64 w a2 len2 cap2 z2) (w3 : (Lit.int .i64 a3).wf = true) :
    Calls Try.prog 5 #[.int .i64 a0, .slice a1 len1 cap1, .slice a2 len2 cap2, .int .i64 a3] w fun e w' => e = .returned (.bool true) ∧ Below w.heap.size w w' := by
  obtain ⟨la, hla, h1, _⟩ := isRow_rd w1
  obtain ⟨ls, hls, h2, _⟩ := isRow_rd w2
  have hl2 : len2 ≤ maxLen := by rcases w2 with ⟨_, h, _⟩ | ⟨x, _, h1, h2, _⟩ <;> omega
  unfold maxLen at hl2
  have HLA := Lib.hid hla
  have HR1 := Lib.hid h1
  have HLS := Lib.hid hls
  have HR2 := Lib.hid h2
  have HS := Lib.hid (schema_rd a0 w)
  have HOK := Lib.hid (colsN_ok a0)
  have HAW := Lib.hid awake16_any
  clear hla h1 hls h2 w0 w1 w2 w3
  go_enter Try.func5, Try.ntmps5
  go_wp2_with fail
  refine HS.out.mono ?_
  rintro e W1 ⟨so, sc, rfl, hs1, hb1⟩
  obtain ⟨m, hm⟩ : ∃ m, m = (colsN a0).length := ⟨_, rfl⟩
  have hc1 : RdC W1 _ (colsN a0) := hs1.rd
  rw [← hm] at hs1 hc1 ⊢
  have hm0 : 0 < m := by rw [hm]; exact HOK.out.ne
  have HM := Lib.hid hm
  clear hm
  go_upto_region 2 with (fail)
  obtain ⟨W2, hW2⟩ : ∃ W2 : World, W2 = W1.alloc (.cells #[.slice so m sc] 25) := ⟨_, rfl⟩
  obtain ⟨SB, hSB⟩ : ∃ SB, SB = W1.heap.size := ⟨_, rfl⟩
  rw [← hW2, ← hSB]
  have HSB := Lib.hid (show W2.heap[SB]? = some (.cells #[.slice so m sc] 25 (0, 0)) by rw [hW2, hSB]; exact heap_alloc_new W1 _)
  have hb12 : Below W1.heap.size W1 W2 := by rw [hW2]; exact below_alloc W1 _
  have HB2 := Lib.hid (below_then hb1 hb12)
  have HC2 := Lib.hid (RdC.kept hc1 hb12)
  have cs2 : W2.cell? ⟨SB, 0, none⟩ = some (.slice so m sc) := by rw [cell_of_row W2 SB 0 _ _ _ HSB.out]; rfl
  have HCS := Lib.hid (show ∀ w', Below W2.heap.size W2 w' → w'.cell? ⟨SB, 0, none⟩ = some (.slice so m sc) from fun w' h => (h.cell (World.block_lt_of_cell? _ _ cs2)).trans cs2)
  clear hs1 hc1 hb1 hb12 hW2 hSB
  go_wp2_with fail
  refine (rows9_any (colsN a0) HOK.out la (.slice so m sc) a1 len1 cap1 HLA.out.symm W2 HC2.out (HR1.out.kept HB2.out)).mono ?_
  rintro e W3 ⟨v, L, rfl, hLm, hrs, hb3⟩
  obtain ⟨E, hEL, hrd, hel⟩ := hrs.els
  have hrw : E.map El.row = rows9 (colsN a0) la := by rw [← hLm, ← hEL, List.map_map]; rfl
  have hE : RowsX (colsN a0) la W3 v E := ⟨fun x hx => by rw [← hrw]; exact List.mem_map_of_mem hx, by have := rows9_leA (colsN a0) la; rw [← hrw, List.length_map] at this; exact this, hrd, hel⟩
  obtain ⟨ra, rc, hvs⟩ : ∃ ao cap, v = .slice ao (E.map Prod.fst).length cap := by obtain ⟨ao, cap, h, _⟩ := hrd; exact ⟨ao, cap, h⟩
  rw [List.length_map] at hvs
  obtain ⟨n, hn⟩ : ∃ n, n = E.length := ⟨_, rfl⟩
  rw [← hn] at hvs
  subst hvs
  have hn40 : n ≤ 40 := by rw [hn]; exact hE.le
  have HN := Lib.hid hn
  have HE := Lib.hid hE
  have HB3 := Lib.hid (below_then HB2.out hb3)
  have HB23 := Lib.hid hb3
  obtain ⟨K, hK⟩ : ∃ K, K = W3.heap.size := ⟨_, rfl⟩
  have HKE := Lib.hid hK
  have HOE := Lib.hid (show (W3.alloc (.cells #[] 33)).ownsRow K 33 1 (.slice (some ⟨W3.heap.size, 0, none⟩) 0 0) 0 [] from by rw [hK]; exact World.ownsRow_lit W3 #[] 0 (Nat.le_refl _) (by unfold maxLen; omega) rfl)
  have HRA := Lib.hid (rdS_flat (hrd.kept (below_alloc W3 (.cells #[] 33))))
  have HONE := Lib.hid (ones_flat (xs := E.map Prod.fst) (fun u hu => by obtain ⟨x, hx, rfl⟩ := List.mem_map.1 hu; obtain ⟨a, c, h⟩ := rdS_shape (hel x hx).1; rw [h]; rfl))
  have HSZ := Lib.hid (show K ≤ (W3.alloc (.cells #[] 33)).heap.size by rw [hK]; simp)
  have HL1 := Lib.hid (show 0 + ((E.map Prod.fst).map fun u => [u]).length ≤ 10000000 by rw [List.length_map, List.length_map, ← HN.out]; omega)
  have HL2 := Lib.hid (show 0 + ((E.map Prod.fst).map fun u => [u]).length = n by rw [List.length_map, List.length_map, ← HN.out]; omega)
  clear hLm hrs hEL hrd hel hE hn hb3 cs2 hrw hK
  go_upto_region 4 with (at_builtin; go_must (refine wpList_append_k elmRowsA rfl _ _ rfl K _ _ _ rfl HOE.out _ _ rfl HRA.out HONE.out HL1.out HSZ.out n HL2.out ?_); intro ma mc W4 hown4 hgrow4 hnew4; have HO4 := Lib.hid hown4; have HG4 := Lib.hid hgrow4; clear hown4 hgrow4 hnew4)
  have HM4 := Lib.hid (show W4.ownsRow K 33 1 (.slice ma n mc) n (E.map Prod.fst) from by have h := HO4.out; rw [List.nil_append, flat_ones] at h; exact h)
  have HB34 := Lib.hid (show Below W3.heap.size W3 W4 from by have h := (below_alloc W3 (.cells #[] 33)).grown HG4.out (by simp) (by have h := own_base HOE.out; rw [HKE.out] at h; exact h); exact h)
  clear HO4 HG4 HOE HRA HONE HSZ HL1 HL2
  go_wp2_with fail
  go_loopw [12] (fun i wr => ∃ (q : Nat) (M : List El), (q = 0 ∨ q + 1 ≤ len2) ∧ i = .int .i64 (q : Int) ∧ M.Perm E ∧ wr.ownsRow K 33 1 (.slice ma n mc) n (M.map Prod.fst) ∧ Below W3.heap.size W3 wr) (fun i _ => len2 - (intOf i).toNat)
  case atStart => exact ⟨0, E, .inl rfl, rfl, .refl _, HM4.out, HB34.out⟩
  case round =>
    obtain ⟨q, M, hq, rfl, hM, hown, hb⟩ := hrel
    have HMP := Lib.hid hM
    have HO := Lib.hid hown
    have HB := Lib.hid hb
    have hq1 : IntKind.i64.wrap ((q : Int) + 1) = (q : Int) + 1 := IntWalk.i64_in _ (by omega)
    clear hM hown hb
    go_upto_region 5 with (fail)
    go_cut [40] (fun c wx => c = .bool (decide (q + 1 < len2 ∧ 0 < n)) ∧ wr = wx)
    case first =>
      by_cases hc1 : q + 1 < len2
      · have hc2 : (q : Int) + 1 < (len2 : Int) := by omega
        have hc3 : decide ((q : Int) + 1 < (len2 : Int)) = true := by rw [decide_eq_true_eq]; exact hc2
        by_cases hc4 : 0 < n
        · have hc5 : (0 : Int) < (n : Int) := by omega
          go_wp2_with fail
          go_meet
          exact ⟨by rw [decide_eq_true (show q + 1 < len2 ∧ 0 < n from ⟨hc1, hc4⟩)], rfl⟩
        · have hc5 : ¬ (0 : Int) < (n : Int) := by omega
          go_wp2_with fail
          go_meet
          exact ⟨by rw [decide_eq_false (show ¬ (q + 1 < len2 ∧ 0 < n) from by omega)], rfl⟩
      · have hc2 : ¬ (q : Int) + 1 < (len2 : Int) := by omega
        have hc3 : decide ((q : Int) + 1 < (len2 : Int)) = false := by rw [decide_eq_false_iff_not]; exact hc2
        go_wp2_with fail
        go_meet
        exact ⟨by rw [decide_eq_false (show ¬ (q + 1 < len2 ∧ 0 < n) from by omega)], rfl⟩
    case rest =>
      obtain ⟨rfl, rfl⟩ := hcut
      by_cases hcc : q + 1 < len2 ∧ 0 < n
      · have hdd := decide_eq_true hcc
        rw [hdd]
        clear hdd
        obtain ⟨hc1, hc4⟩ := hcc
        obtain ⟨ga, hga⟩ := own_isAtA HO.out hc4
        obtain ⟨s1, hs1⟩ : ∃ x, ls[q]? = some x := ⟨_, List.getElem?_eq_getElem (by rw [HLS.out]; omega)⟩
        obtain ⟨s2, hs2⟩ : ∃ x, ls[q + 1]? = some x := ⟨_, List.getElem?_eq_getElem (by rw [HLS.out]; omega)⟩
        have HBw := Lib.hid (below_then HB3.out HB.out)
        obtain ⟨sb, so2, hsb, hsc⟩ := rd_at (n := len2) (HR2.out.kept HBw.out) (by rw [List.length_map, HLS.out]; omega)
        have k1 : wr.cell? ⟨sb, so2 + q, none⟩ = some (.int .i64 s1) := hsc q _ (by rw [List.getElem?_map, hs1]; rfl)
        have k2 : wr.cell? ⟨sb, so2 + (q + 1), none⟩ = some (.int .i64 s2) := hsc (q + 1) _ (by rw [List.getElem?_map, hs2]; rfl)
        subst hga
        subst hsb
        have b255 : ∀ x, bits .and .i64 x 255 = x % 256 := fun x => and_low x 8 (by decide) 255 rfl
        have hn0i : (n : Int) ≠ 0 := by omega
        obtain ⟨i, hi, hin⟩ : ∃ i : Nat, (s1 % 256).tmod (n : Int) = (i : Int) ∧ i < n := ⟨((s1 % 256).tmod (n : Int)).toNat, by have h1 := Int.emod_nonneg (s1 % 256) hn0i; rw [Int.tmod_eq_emod_of_nonneg (by omega)]; omega, by have h1 := Int.emod_nonneg (s1 % 256) hn0i; have h2 := Int.emod_lt_of_pos (s1 % 256) (show (0 : Int) < (n : Int) by omega); rw [Int.tmod_eq_emod_of_nonneg (by omega)]; omega⟩
        obtain ⟨j, hj, hjn⟩ : ∃ j : Nat, (s2 % 256).tmod (n : Int) = (j : Int) ∧ j < n := ⟨((s2 % 256).tmod (n : Int)).toNat, by have h1 := Int.emod_nonneg (s2 % 256) hn0i; rw [Int.tmod_eq_emod_of_nonneg (by omega)]; omega, by have h1 := Int.emod_nonneg (s2 % 256) hn0i; have h2 := Int.emod_lt_of_pos (s2 % 256) (show (0 : Int) < (n : Int) by omega); rw [Int.tmod_eq_emod_of_nonneg (by omega)]; omega⟩
        have hq0 : (0 : Int) ≤ (q : Int) := by omega
        have hq2 : (q : Int) < (len2 : Int) := by omega
        have hq3 : (q : Int) + 1 < (len2 : Int) := by omega
        have hq4 : (0 : Int) ≤ (q : Int) + 1 := by omega
        have hq5 : ((q : Int) + 1).toNat = q + 1 := by omega
        clear hs1 hs2 hsc
        go_upto_region 7 with (fail)
        go_quiet (fail)
        have hml : M.length = n := by rw [HMP.out.length_eq, HN.out]
        obtain ⟨x, hx⟩ : ∃ x, M[i]? = some x := ⟨_, List.getElem?_eq_getElem (by omega)⟩
        obtain ⟨y, hy⟩ : ∃ y, M[j]? = some y := ⟨_, List.getElem?_eq_getElem (by omega)⟩
        obtain ⟨xa, xc, hxs⟩ := rdS_shape (HE.out.el x (HMP.out.mem_iff.1 (List.mem_of_getElem? hx))).1
        obtain ⟨ya, yc, hys⟩ := rdS_shape (HE.out.el y (HMP.out.mem_iff.1 (List.mem_of_getElem? hy))).1
        obtain ⟨xm, hxm⟩ : ∃ xm, xm = (x.2.map cellsV).length := ⟨_, rfl⟩
        obtain ⟨ym, hym⟩ : ∃ ym, ym = (y.2.map cellsV).length := ⟨_, rfl⟩
        rw [← hxm] at hxs
        rw [← hym] at hys
        have ci : wr.cell? ⟨ga, i, none⟩ = some (.slice xa xm xc) := (HO.out.cellAt i (by omega)).trans (by rw [List.getElem?_map, hx, ← hxs]; rfl)
        have cj : wr.cell? ⟨ga, j, none⟩ = some (.slice ya ym yc) := (HO.out.cellAt j (by omega)).trans (by rw [List.getElem?_map, hy, ← hys]; rfl)
        have fi := HO.out.frozenAt i
        have fj := HO.out.frozenAt j
        have cij : ∀ k, ((wr.drewN k).setCell ⟨ga, i, none⟩ (.slice ya ym yc)).cell? ⟨ga, j, none⟩ = some (.slice ya ym yc) := fun k => by
          by_cases hij : i = j
          · subst hij
            exact World.cell?_setCell_same _ _ _ ci
          · exact (World.cell?_setCell_other _ _ _ _ (by simp [hij, Ne.symm hij])).trans cj
        have hKG := (HO.out.lt ga rfl).1
        have HSW := Lib.hid (show ∀ k, ((((wr.drewN k).setCell ⟨ga, i, none⟩ (.slice ya ym yc)).setCell ⟨ga, j, none⟩ (.slice xa xm xc))).ownsRow K 33 1 (.slice (some ⟨ga, 0, none⟩) n mc) n (((M.set i y).set j x).map Prod.fst) ∧ Below W3.heap.size W3 (((wr.drewN k).setCell ⟨ga, i, none⟩ (.slice ya ym yc)).setCell ⟨ga, j, none⟩ (.slice xa xm xc)) from fun k => by
          have hk : (wr.drewN k).ownsRow K 33 1 (.slice (some ⟨ga, 0, none⟩) n mc) n (M.map Prod.fst) := HO.out
          have h2 := ((hk.stored i y.1).1.stored j x.1).1
          rw [List.map_set, List.map_set, ← hxs, ← hys]
          exact ⟨h2, ((below_draws HB.out k).setCell (p := ⟨ga, i, none⟩) (by rw [← HKE.out]; exact hKG) _).setCell (p := ⟨ga, j, none⟩) (by rw [← HKE.out]; exact hKG) _⟩)
        have HPS := Lib.hid ((swap2_perm M i j x y hx hy).trans HMP.out)
        have hi0 : (0 : Int) ≤ (i : Int) := by omega
        have hj0 : (0 : Int) ≤ (j : Int) := by omega
        have hiN : (i : Int) < (n : Int) := by omega
        have hjN : (j : Int) < (n : Int) := by omega
        clear k1 k2 hi hj b255 hx hy hxs hys hxm hym hKG hml
        go_wp2_with fail
        go_region
        go_wp2_with fail
        go_roundw
        case rel =>
          exact ⟨q + 1, _, by omega, by go_num, HPS.out, (HSW.out _).1, (HSW.out _).2⟩
        case measure => simp [intOf]; omega
      · have hdd := decide_eq_false hcc
        rw [hdd]
        clear hdd hcc hq
        have HMX := Lib.hid (show ∀ w', Below wr.heap.size wr w' → RowsX (colsN a0) la w' (.slice ma n mc) M from fun w' h => ⟨fun x hx => HE.out.mem x (HMP.out.mem_iff.1 hx), by rw [HMP.out.length_eq]; exact HE.out.le, Rd.of_owns (own_above HO.out (above_below h) (Nat.le_refl _)), fun x hx => (HE.out.el x (HMP.out.mem_iff.1 hx)).kept (below_then HB.out h)⟩)
        have HEX := Lib.hid (show ∀ w', Below wr.heap.size wr w' → RowsX (colsN a0) la w' (.slice ra n rc) E from fun w' h => HE.out.kept (below_then HB.out h))
        have cs4 := HCS.out _ (below_then HB23.out HB.out)
        obtain ⟨c, hc, hc0, hcm⟩ : ∃ c : Int, (a3 % 256).tmod (m : Int) = c ∧ 0 ≤ c ∧ c < m := ⟨_, rfl, by rw [Int.tmod_eq_emod_of_nonneg (by omega)]; exact Int.emod_nonneg _ (by omega), by rw [Int.tmod_eq_emod_of_nonneg (by omega)]; exact Int.emod_lt_of_pos _ (by omega)⟩
        have b255 : ∀ x, bits .and .i64 x 255 = x % 256 := fun x => and_low x 8 (by decide) 255 rfl
        have hm0i : (m : Int) ≠ 0 := by omega
        go_upto_region 10 with (fail)
        have HCM := Lib.hid (show c < ((colsN a0).length : Int) by rw [← HM.out]; exact hcm)
        clear hc b255 hm0i cs4 hcm
        obtain ⟨W5, hW5⟩ : ∃ W5 : World, W5 = (wr.alloc (.cells #[.int .i64 1, .int .i64 0, .int .i64 2, .int .i64 0, .int .i64 3, .int .i64 c, .int .i64 4, .int .i64 c] 32)).alloc (.cells #[.int .i64 (-1), .int .i64 c] 3) := ⟨_, rfl⟩
        obtain ⟨AB, hAB⟩ : ∃ AB, AB = wr.heap.size := ⟨_, rfl⟩
        obtain ⟨IB, hIB⟩ : ∃ IB, IB = wr.heap.size + 1 := ⟨_, rfl⟩
        have HAV := Lib.hid (show ∀ w', Below W5.heap.size W5 w' → RdS w' 2 (.slice (some ⟨AB, 0, none⟩) 4 4) ((ags4 c).map fun a => [.int .i64 a.1, .int .i64 a.2]) from fun w' h => by
          have h1 := rdS_litsA wr #[.int .i64 1, .int .i64 0, .int .i64 2, .int .i64 0, .int .i64 3, .int .i64 c, .int .i64 4, .int .i64 c] 32 2 4 ((ags4 c).map fun a => [.int .i64 a.1, .int .i64 a.2]) rfl (fun t ht => by obtain ⟨a, _, rfl⟩ := List.mem_map.1 ht; rfl) rfl
          rw [← hAB] at h1
          exact RdS.kept (RdS.kept h1 (below_alloc _ (.cells #[.int .i64 (-1), .int .i64 c] 3))) (by rw [← hW5]; exact h))
        have HIX := Lib.hid (show W5.heap[IB]? = some (.cells #[.int .i64 (-1), .int .i64 c] 3 (0, 0)) by rw [hW5, hIB]; exact heap2 wr _ _)
        have HB5 := Lib.hid (show Below wr.heap.size wr W5 by rw [hW5]; exact below2 wr _ _)
        have HKR := Lib.hid (show KindsR ((colsN a0).map (·.k)) (E.map El.row) from fun r hr => by obtain ⟨x, hx, rfl⟩ := List.mem_map.1 hr; exact rows9_kinds HOK.out la _ (HE.out.mem x hx))
        have HKM := Lib.hid (show KindsR ((colsN a0).map (·.k)) (M.map El.row) from fun r hr => by obtain ⟨x, hx, rfl⟩ := List.mem_map.1 hr; exact rows9_kinds HOK.out la _ (HE.out.mem x (HMP.out.mem_iff.1 hx)))
        obtain ⟨k2, hk2⟩ := cols_kinds HOK.out la c hc0 HCM.out
        have HK2 := Lib.hid (hk2 E HE.out.mem)
        have HK3 := Lib.hid (hk2 M fun x hx => HE.out.mem x (HMP.out.mem_iff.1 hx))
        have hm5 : M.length = n := by rw [HMP.out.length_eq, HN.out]
        have HML := Lib.hid hm5
        clear hk2 hm5
        go_upto_region 12 with (fail)
        rw [← hW5, ← hIB, ← hAB]
        have HIC := Lib.hid (show ∀ w', Below W5.heap.size W5 w' → w'.cell? ⟨IB, 0, none⟩ = some (.int .i64 (-1)) ∧ w'.cell? ⟨IB, 1, none⟩ = some (.int .i64 c) from fun w' h => by
          have h1 := (h.block IB (Array.getElem?_eq_some_iff.1 HIX.out).1).trans HIX.out
          exact ⟨by rw [cell_of_row w' IB 0 _ _ _ h1]; rfl, by rw [cell_of_row w' IB 1 _ _ _ h1]; rfl⟩)
        have HBB := Lib.hid (show ∀ w', Below W5.heap.size W5 w' → Below wr.heap.size wr w' from fun w' h => below_then HB5.out h)
        have HBA := Lib.hid (show ∀ w', Below W5.heap.size W5 w' → Below w.heap.size w w' from fun w' h => below_then HB3.out (below_then HB.out (below_then HB5.out h)))
        clear hW5 hIB hAB
        go_loopw [90] (fun i wr => ∃ k : Nat, k ≤ 2 ∧ i = .int .i64 (k : Int) ∧ Below W5.heap.size W5 wr) (fun i _ => 2 - (intOf i).toNat)
        case atStart => exact ⟨0, by omega, rfl, Below.refl _ _⟩
        case round =>
          obtain ⟨k, hk, rfl, hb⟩ := hrel
          have HBk := Lib.hid hb
          by_cases hlt : k < 2
          · obtain ⟨g, hgc, hgr⟩ : ∃ g : Int, (g = -1 ∨ (0 ≤ g ∧ g < ((colsN a0).length : Int))) ∧ (k = 0 ∧ g = -1 ∨ k = 1 ∧ g = c) := by
              rcases (show k = 0 ∨ k = 1 by omega) with h | h
              · exact ⟨-1, .inl rfl, .inl ⟨h, rfl⟩⟩
              · exact ⟨c, .inr ⟨hc0, HCM.out⟩, .inr ⟨h, rfl⟩⟩
            have HGC := Lib.hid hgc
            have ck : wr.cell? ⟨IB, k, none⟩ = some (.int .i64 g) := by
              have h := HIC.out _ hb
              rcases hgr with ⟨h1, h2⟩ | ⟨h1, h2⟩
              · rw [h1, h2]; exact h.1
              · rw [h1, h2]; exact h.2
            have hlti : (k : Int) < 2 := by omega
            have hk0 : (0 : Int) ≤ (k : Int) := by omega
            have hk1 : IntKind.i64.wrap ((k : Int) + 1) = (k : Int) + 1 := IntWalk.i64_in _ (by omega)
            clear hgc hgr hb
            go_wp2_with fail
            refine (grpX_any HOK.out la E g c HGC.out _ _ _ (HEX.out _ (HBB.out _ HBk.out)) (HAV.out _ HBk.out)).mono ?_
            rintro e W6 ⟨v1, Ps, T, rfl, hG1, hb6⟩
            have HG1 := Lib.hid hG1
            have HB6 := Lib.hid (below_then HBk.out hb6)
            clear hG1 hb6 ck
            go_wp2_with fail
            refine (grpX_any HOK.out la M g c HGC.out _ _ _ (HMX.out _ (HBB.out _ HB6.out)) (HAV.out _ HB6.out)).mono ?_
            rintro e W7 ⟨v2, Qs, U, rfl, hG2, hb7⟩
            have HB7 := Lib.hid (below_then HB6.out hb7)
            have hsub := HG1.out.part.sub HE.out.le
            have hTl := HG1.out.len
            have hsm := grpX_same HOK.out (show g < ((colsN a0).length : Int) by have := HOK.out.ne; rcases HGC.out with h | h <;> omega) hc0 HCM.out HE.out.mem HMP.out HG1.out hG2
            have HSM := Lib.hid (same_own (HG1.out.own.kept hb7) hG2.own HG1.out.short hG2.short (by omega) hsm)
            obtain ⟨ta, tc, htv⟩ := own_shape HG1.out.own.1
            obtain ⟨tn, htn⟩ : ∃ tn, tn = T.length := ⟨_, rfl⟩
            rw [← htn] at htv
            have htg : 0 ≤ g → tn ≤ n := fun h => by rw [htn, hTl, HN.out]; exact hsub.2.2 h
            subst htv
            clear hsub hTl hsm hG2 hb7 htn
            by_cases hg0 : 0 ≤ g
            · have htn := htg hg0
              have hg1 : g ≥ 0 := hg0
              have hg2 : decide (g ≥ 0) = true := by rw [decide_eq_true_eq]; exact hg0
              have hg3 : decide (0 ≤ g) = true := hg2
              have ht1 : ¬ (n : Int) < (tn : Int) := by omega
              have ht2 : decide ((n : Int) < (tn : Int)) = false := by rw [decide_eq_false_iff_not]; exact ht1
              clear htg
              go_wp2_with fail
              refine HSM.out.mono ?_
              rintro e W8 ⟨rfl, hb8⟩
              go_wp2_with fail
              go_roundw
              case rel => exact ⟨k + 1, by omega, by go_num, below_then HB7.out hb8⟩
              case measure => simp [intOf]; omega
            · have hg1 : ¬ g ≥ 0 := hg0
              have hg2 : decide (g ≥ 0) = false := by rw [decide_eq_false_iff_not]; exact hg0
              have hg3 : decide (0 ≤ g) = false := hg2
              clear htg
              go_wp2_with fail
              refine HSM.out.mono ?_
              rintro e W8 ⟨rfl, hb8⟩
              go_wp2_with fail
              go_roundw
              case rel => exact ⟨k + 1, by omega, by go_num, below_then HB7.out hb8⟩
              case measure => simp [intOf]; omega
          · have hlti : ¬ (k : Int) < 2 := by omega
            clear hb
            have hXE := HEX.out _ (HBB.out _ HBk.out)
            have hRE := hXE.rowsIn HOK.out
            have HSA := Lib.hid (asort_any _ E HKR.out (by have := hXE.le; omega) _ wr hXE.rd fun x hx => ⟨(hRE x hx).1, (hRE x hx).2.1, fun t ht => ((hRE x hx).2.2 t ht).2⟩)
            clear hXE hRE
            go_wp2_with fail
            refine HSA.out.mono ?_
            rintro e Wa ⟨va, rfl, Za, za1, za2, za3, hba⟩
            have HZa := Lib.hid za3
            have HZ1 := Lib.hid za1
            have HZ2 := Lib.hid za2
            have HBa := Lib.hid (below_then HBk.out hba)
            clear za1 za2 za3 hba
            have hXM := HMX.out _ (HBB.out _ HBa.out)
            have hRM := hXM.rowsIn HOK.out
            have HSB := Lib.hid (asort_any _ M HKM.out (by have := hXM.le; omega) _ Wa hXM.rd fun x hx => ⟨(hRM x hx).1, (hRM x hx).2.1, fun t ht => ((hRM x hx).2.2 t ht).2⟩)
            clear hXM hRM
            go_wp2_with fail
            refine HSB.out.mono ?_
            rintro e Wb ⟨vb, rfl, Zb, zb1, zb2, zb3, hbb⟩
            have HBb := Lib.hid (below_then HBa.out hbb)
            have hshort : ∀ r ∈ rows9 (colsN a0) la, r.length ≤ 1000000 := fun r hr => by rw [row9_lenA hr]; have := HOK.out.le; omega
            have HC1 := Lib.hid (same_own (HZa.out.kept hbb) zb3 (own_short HZ1.out fun r hr => by obtain ⟨x, hx, rfl⟩ := List.mem_map.1 hr; exact hshort _ (HE.out.mem x hx)) (own_short zb1 fun r hr => by obtain ⟨x, hx, rfl⟩ := List.mem_map.1 hr; exact hshort _ (HE.out.mem x (HMP.out.mem_iff.1 hx))) (by have h := HZ1.out.length_eq; rw [List.length_map, List.length_map, ← HN.out] at h; omega) (sorted_same HKR.out (HMP.out.map El.row) HZ1.out zb1 HZ2.out zb2))
            clear zb1 zb2 zb3 hbb hshort HSA HSB
            go_wp2_with fail
            refine HC1.out.mono ?_
            rintro e Wc ⟨rfl, hbc⟩
            have HBc := Lib.hid (below_then HBb.out hbc)
            clear hbc
            have hXE := (HEX.out _ (HBB.out _ HBc.out)).kept (below_alloc Wc (.cells #[.int .i64 c, .int .i64 0] 3))
            have HD := Lib.hid (acols_any _ E [c, 0] (by have := hXE.le; omega) (by simp) _ (.slice (some ⟨Wc.heap.size, 0, none⟩) 2 2) _ (hXE.rowsIn HOK.out) hXE.rd (rd_lit Wc #[.int .i64 c, .int .i64 0] 3 2 ([c, 0].map (Value.int .i64)) rfl rfl (by decide)) HK2.out)
            clear hXE
            go_wp2_with fail
            refine HD.out.mono ?_
            rintro e Wd ⟨vd, rfl, Zd, zd1, zd2, zd3, hbd⟩
            have HZd := Lib.hid zd3
            have HD1 := Lib.hid zd1
            have HD2 := Lib.hid zd2
            have HBd := Lib.hid (below_then HBc.out (below_then (below_alloc Wc (.cells #[.int .i64 c, .int .i64 0] 3)) hbd))
            clear zd1 zd2 zd3 hbd
            have hXM := (HMX.out _ (HBB.out _ HBd.out)).kept (below_alloc Wd (.cells #[.int .i64 c, .int .i64 0] 3))
            have HF := Lib.hid (acols_any _ M [c, 0] (by have := hXM.le; omega) (by simp) _ (.slice (some ⟨Wd.heap.size, 0, none⟩) 2 2) _ (hXM.rowsIn HOK.out) hXM.rd (rd_lit Wd #[.int .i64 c, .int .i64 0] 3 2 ([c, 0].map (Value.int .i64)) rfl rfl (by decide)) HK3.out)
            clear hXM
            go_wp2_with fail
            refine HF.out.mono ?_
            rintro e Wf ⟨vf, rfl, Zf, zf1, zf2, zf3, hbf⟩
            have hbdf : Below Wd.heap.size Wd Wf := below_then (below_alloc Wd (.cells #[.int .i64 c, .int .i64 0] 3)) hbf
            have HBf := Lib.hid (below_then HBd.out hbdf)
            have HC2 := Lib.hid (same_own (HZd.out.kept hbdf) zf3 (own_short HD1.out fun r hr => by obtain ⟨x, hx, rfl⟩ := List.mem_map.1 hr; simp) (own_short zf1 fun r hr => by obtain ⟨x, hx, rfl⟩ := List.mem_map.1 hr; simp) (by have h := HD1.out.length_eq; rw [List.length_map, List.length_map, ← HN.out] at h; omega) (sorted_same HK2.out (HMP.out.map _) HD1.out zf1 HD2.out zf2))
            clear zf1 zf2 zf3 hbf hbdf HD HF
            go_wp2_with fail
            refine HC2.out.mono ?_
            rintro e Wg ⟨rfl, hbg⟩
            have HBg := Lib.hid (below_then HBf.out hbg)
            clear hbg
            go_wp2_with fail
            refine (HAW.out _).mono ?_
            rintro e Wh ⟨rfl, hbh⟩
            go_wp2_with fail
            go_ret
            exact ⟨rfl, below_then (HBA.out _ HBg.out) hbh⟩


end Go.Proofs.Ytnfjdoeemnhkbaa
