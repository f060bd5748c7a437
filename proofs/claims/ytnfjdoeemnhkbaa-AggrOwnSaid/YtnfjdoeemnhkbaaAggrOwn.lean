/-
  The walk of AggrOwn.
-/
import Derived.Test.YtnfjdoeemnhkbaaAgom
import Derived.Test.YtnfjdoeemnhkbaaHeld
import Derived.Test.YtnfjdoeemnhkbaaColn
import Derived.Test.YtnfjdoeemnhkbaaLsix
import Derived.Test.YtnfjdoeemnhkbaaLone
import Derived.Test.YtnfjdoeemnhkbaaAwake16
import Derived.Deep.RegionHeld3
import Derived.Deep.QuietTactic
import Derived.BigQuiet
namespace Go.Proofs.Ytnfjdoeemnhkbaa
set_option linter.unusedVariables false
set_option linter.unusedSimpArgs false
open Go.RowKit Sy

set_option maxRecDepth 100000 in
set_option maxHeartbeats 16000000 in
theorem walk_AggrOwn (a0 : Int) (a1 : Option Addr) (len1 cap1 : Nat) (z1 : List Int) (w : World) (w0 : (Lit.int .i64 a0).wf = true) (w1 : IsRow .i64 w a1 len1 cap1 z1) :
    Calls Try.prog 4 #[.int .i64 a0, .slice a1 len1 cap1] w fun e w' => e = .returned (.bool true) ∧ Below w.heap.size w w' := by
  obtain ⟨la, hla, h1, _⟩ := isRow_rd w1
  have HLA := Lib.hid hla
  have HR1 := Lib.hid h1
  have HS := Lib.hid (schema_rd a0 w)
  have HOK := Lib.hid (colsN_ok a0)
  have HAW := Lib.hid awake16_any
  clear hla h1 w0 w1
  go_enter Try.func4, Try.ntmps4
  go_wp2_with fail
  refine HS.out.mono ?_
  rintro e W1 ⟨so, sc, rfl, hs1, hb1⟩
  obtain ⟨m, hm⟩ : ∃ m, m = (colsN a0).length := ⟨_, rfl⟩
  have hc1 : RdC W1 _ (colsN a0) := hs1.rd
  rw [← hm] at hs1 hc1 ⊢
  have hm0 : 0 < m := by rw [hm]; exact HOK.out.ne
  have HM := Lib.hid hm
  clear hm
  go_upto_region 2 with (fail)
  obtain ⟨W2, hW2⟩ : ∃ W2 : World, W2 = W1.alloc (.cells #[.slice so m sc] 25) := ⟨_, rfl⟩
  obtain ⟨SB, hSB⟩ : ∃ SB, SB = W1.heap.size := ⟨_, rfl⟩
  rw [← hW2, ← hSB]
  have HSB := Lib.hid (show W2.heap[SB]? = some (.cells #[.slice so m sc] 25 (0, 0)) by rw [hW2, hSB]; exact heap_alloc_new W1 _)
  have hb12 : Below W1.heap.size W1 W2 := by rw [hW2]; exact below_alloc W1 _
  have HB2 := Lib.hid (below_then hb1 hb12)
  have HC2 := Lib.hid (RdC.kept hc1 hb12)
  have cs2 : W2.cell? ⟨SB, 0, none⟩ = some (.slice so m sc) := by rw [cell_of_row W2 SB 0 _ _ _ HSB.out]; rfl
  have HCS := Lib.hid (show ∀ w', Below W2.heap.size W2 w' → w'.cell? ⟨SB, 0, none⟩ = some (.slice so m sc) from fun w' h => (h.cell (World.block_lt_of_cell? _ _ cs2)).trans cs2)
  clear hs1 hc1 hb1 hb12 hW2 hSB
  have HRW := Lib.hid fun w' (h : Below W2.heap.size W2 w') => rows9x_any (colsN a0) HOK.out la (.slice so m sc) a1 len1 cap1 HLA.out.symm w' (RdC.kept HC2.out h) (HR1.out.kept (below_then HB2.out h))
  go_cut [6, 7] (fun r s wx => ∃ (ra : Option Addr) (rc : Nat) (fa : Option Addr) (fc : Nat) (E F : List El), r = .slice ra (rows9 (colsN a0) la).length rc ∧ s = .slice fa (rows9 (colsN a0) la).length fc ∧ TwoX W2.heap.size wx r s E F ∧ E.map El.row = rows9 (colsN a0) la ∧ F.map El.row = rows9 (colsN a0) la ∧ Below W2.heap.size W2 wx)
  case first =>
    refine wp_region_noPanic ?_
    refine wp_region_held_drew (S := fun w' => w'.cell? ⟨SB, 0, none⟩ = some (.slice so m sc) ∧ Below W2.heap.size W2 w') (by kernel_rfl) ?hS0 (fun hHeld => ?go0)
    case' hS0 => ((try dsimp only); exact ⟨HCS.out _ (below_drw _ _), below_drw _ _⟩)
    refine tkH 0 (v := ?v0) rfl (.inl ⟨by rfl, ?y0⟩) ?_
    case' y0 => (intro w hSw; first | (go_simp; done) | (go_simp; with_reducible rfl))
    (try simp only [Act.put, List.getElem_toArray, List.getElem_cons_succ, List.getElem_cons_zero, List.setIfInBounds_toArray, List.set_cons_zero, List.set_cons_succ])
    refine tkH 1 (v := ?v1) rfl (.inl ⟨by rfl, ?y1⟩) ?_
    case' y1 => (intro w hSw; first | (go_simp; done) | (go_simp; with_reducible rfl))
    (try simp only [Act.put, List.getElem_toArray, List.getElem_cons_succ, List.getElem_cons_zero, List.setIfInBounds_toArray, List.set_cons_zero, List.set_cons_succ])
    refine tkH 3 (v := ?v3) rfl (.inl ⟨by rfl, ?y3⟩) ?_
    case' y3 => (intro w hSw; first | (go_simp; done) | (go_simp; with_reducible rfl))
    (try simp only [Act.put, List.getElem_toArray, List.getElem_cons_succ, List.getElem_cons_zero, List.setIfInBounds_toArray, List.set_cons_zero, List.set_cons_succ])
    refine tkH 4 (v := ?v4) rfl (.inl ⟨by rfl, ?y4⟩) ?_
    case' y4 => (intro w hSw; first | (go_simp; done) | (go_simp; with_reducible rfl))
    (try simp only [Act.put, List.getElem_toArray, List.getElem_cons_succ, List.getElem_cons_zero, List.setIfInBounds_toArray, List.set_cons_zero, List.set_cons_succ])
    refine wpAnyH_ready (rs := [2]) (by kernel_rfl) (by simp) ?_
    refine AllReadyH.cons (o := _) rfl (fun K2a hK2a => ?_) AllReadyH.nil
    go_simp
    (go_at_call 10; refine (HRW.out _ (hHeld.2)).mono ?_; rintro e w1 ⟨v1, E, rfl, hE, ho1, hb1⟩; have hc1 := below_then (hHeld.2) hb1)
    refine hK2a.out _ _ ?hS2a (fun hHeld2a => ?_)
    case' hS2a => ((try dsimp only); exact ⟨HCS.out _ hc1, hc1⟩)
    clear hK2a K2a
    (try simp only [Act.put, List.getElem_toArray, List.getElem_cons_succ, List.getElem_cons_zero, List.setIfInBounds_toArray, List.set_cons_zero, List.set_cons_succ])
    refine wpAnyH_ready (rs := [5]) (by kernel_rfl) (by simp) ?_
    refine AllReadyH.cons (o := _) rfl (fun K5c hK5c => ?_) AllReadyH.nil
    go_simp
    (go_at_call 10; refine (HRW.out _ (hc1)).mono ?_; rintro e w2 ⟨v2, F, rfl, hF, ho2, hb2⟩; have hc2 := below_then (hc1) hb2)
    refine hK5c.out _ _ ?hS5c (fun hHeld5c => ?_)
    case' hS5c => ((try dsimp only); exact ⟨HCS.out _ hc2, hc2⟩)
    clear hK5c K5c
    (try simp only [Act.put, List.getElem_toArray, List.getElem_cons_succ, List.getElem_cons_zero, List.setIfInBounds_toArray, List.set_cons_zero, List.set_cons_succ])
    refine tkH 6 (v := ?v6c) rfl (.inl ⟨by rfl, ?y6c⟩) ?_
    case' y6c => (intro w hSw; first | (go_simp; done) | (go_simp; with_reducible rfl))
    (try simp only [Act.put, List.getElem_toArray, List.getElem_cons_succ, List.getElem_cons_zero, List.setIfInBounds_toArray, List.set_cons_zero, List.set_cons_succ])
    refine tkH 7 (v := ?v7c) rfl (.inl ⟨by rfl, ?y7c⟩) ?_
    case' y7c => (intro w hSw; first | (go_simp; done) | (go_simp; with_reducible rfl))
    (try simp only [Act.put, List.getElem_toArray, List.getElem_cons_succ, List.getElem_cons_zero, List.setIfInBounds_toArray, List.set_cons_zero, List.set_cons_succ])
    refine wpAnyH_done (by kernel_rfl) ?_ _
    refine NoPanic.normal ?_
    go_wp2_with fail
    have htw : TwoX W2.heap.size w2 v1 v2 E F := TwoX.of ho1 ho2 hb2 (Nat.le_refl _) hb1.size (Nat.le_refl _)
    obtain ⟨xa, xc, hx⟩ := own_shape ho1.1
    obtain ⟨ya, yc, hy⟩ := own_shape ho2.1
    have l1 : E.length = (rows9 (colsN a0) la).length := by rw [← hE, List.length_map]
    have l2 : F.length = (rows9 (colsN a0) la).length := by rw [← hF, List.length_map]
    rw [l1] at hx
    rw [l2] at hy
    go_meet
    exact ⟨xa, xc, ya, yc, E, F, hx, hy, htw, hE, hF, hc2⟩
  case rest =>
    obtain ⟨ra, rc, fa, fc, E, F, rfl, rfl, htw, hE, hF, hb3⟩ := hcut
    obtain ⟨n, hn⟩ : ∃ n, n = (rows9 (colsN a0) la).length := ⟨_, rfl⟩
    rw [← hn] at htw ⊢
    have hn40 : n ≤ 40 := by rw [hn]; exact rows9_leA _ _
    have HT0 := Lib.hid htw
    have HE := Lib.hid hE
    have HF := Lib.hid hF
    have HN := Lib.hid hn
    have HB3 := Lib.hid hb3
    clear htw hE hF hn hb3 cs2 HRW
    go_wp2_with fail
    go_loopw [8, 9] (fun i kv wr => ∃ (q : Nat) (M P : List El), q ≤ n ∧ i = .int .i64 (q : Int) ∧ kv = .int .i64 ((n : Int) - 1 - (q : Int)) ∧ TwoX W2.heap.size wr (.slice ra n rc) (.slice fa n fc) M P ∧ M.map El.row = P.map El.row ∧ (∀ x ∈ M, x.row ∈ rows9 (colsN a0) la) ∧ M.length = n ∧ Below W2.heap.size W2 wr) (fun i _ _ => n - (intOf i).toNat)
    case atStart => exact ⟨0, E, F, Nat.zero_le _, rfl, by go_num, HT0.out, by rw [HE.out, HF.out], fun x hx => by rw [← HE.out]; exact List.mem_map_of_mem hx, by rw [HN.out, ← HE.out, List.length_map], HB3.out⟩
    case round =>
      obtain ⟨q, M, P, hq, rfl, rfl, htw, hMP, hmm, hml, hb⟩ := hrel
      have HT := Lib.hid htw
      have HMP := Lib.hid hMP
      have HMM := Lib.hid hmm
      have HB := Lib.hid hb
      have hpl : P.length = n := by have := congrArg List.length hMP; rw [List.length_map, List.length_map] at this; omega
      clear htw hMP hmm hb
      by_cases hlt : 2 * q + 1 < n
      · obtain ⟨k, hk⟩ : ∃ k, k = n - 1 - q := ⟨_, rfl⟩
        have hki : (n : Int) - 1 - (q : Int) = (k : Int) := by omega
        rw [hki]
        have HK := Lib.hid hk
        have hkN : k < n := by omega
        have hqN : q < n := by omega
        have hlti : (q : Int) < (k : Int) := by omega
        have hqk : q ≠ k := by omega
        have hq0 : (0 : Int) ≤ (q : Int) := by omega
        have hk0 : (0 : Int) ≤ (k : Int) := by omega
        have hqn : (q : Int) < (n : Int) := by omega
        have hkn : (k : Int) < (n : Int) := by omega
        have hq1 : IntKind.i64.wrap ((q : Int) + 1) = (q : Int) + 1 := IntWalk.i64_in _ (by omega)
        have hk1 : IntKind.i64.wrap ((k : Int) - 1) = (k : Int) - 1 := IntWalk.i64_in _ (by omega)
        clear hk hki hlt
        obtain ⟨ga, hga⟩ := own_isAtA (show wr.ownsRow W2.heap.size 33 1 (.slice ra n rc) n (M.map Prod.fst) from by have h := HT.out.o1; rw [hml] at h; exact h) (by omega)
        obtain ⟨gb, hgb⟩ := own_isAtA (show wr.ownsRow W2.heap.size 33 1 (.slice fa n fc) n (P.map Prod.fst) from by have h := HT.out.o2; rw [hpl] at h; exact h) (by omega)
        subst hga
        subst hgb
        obtain ⟨x, hx⟩ : ∃ x, M[q]? = some x := ⟨_, List.getElem?_eq_getElem (by omega)⟩
        obtain ⟨y, hy⟩ : ∃ x, M[k]? = some x := ⟨_, List.getElem?_eq_getElem (by omega)⟩
        obtain ⟨xa, xc, hxs⟩ := rdS_shape (HT.out.el x (.inl (List.mem_of_getElem? hx)) wr fun _ _ _ _ => rfl).1
        obtain ⟨ya, yc, hys⟩ := rdS_shape (HT.out.el y (.inl (List.mem_of_getElem? hy)) wr fun _ _ _ _ => rfl).1
        obtain ⟨xm, hxm⟩ : ∃ xm, xm = (x.2.map cellsV).length := ⟨_, rfl⟩
        obtain ⟨ym, hym⟩ : ∃ ym, ym = (y.2.map cellsV).length := ⟨_, rfl⟩
        rw [← hxm] at hxs
        rw [← hym] at hys
        have how : wr.ownsRow W2.heap.size 33 1 (.slice (some ⟨ga, 0, none⟩) n rc) n (M.map Prod.fst) := by have h := HT.out.o1; rw [hml] at h; exact h
        have c1 : wr.cell? ⟨ga, q, none⟩ = some (.slice xa xm xc) := (how.cellAt q (by omega)).trans (by rw [List.getElem?_map, hx, ← hxs]; rfl)
        have c2 : wr.cell? ⟨ga, k, none⟩ = some (.slice ya ym yc) := (how.cellAt k (by omega)).trans (by rw [List.getElem?_map, hy, ← hys]; rfl)
        have f1 := how.frozenAt q
        have f2 := how.frozenAt k
        have c12 : ∀ j, ((wr.drewN j).setCell ⟨ga, q, none⟩ (.slice ya ym yc)).cell? ⟨ga, k, none⟩ = some (.slice ya ym yc) := fun j => (World.cell?_setCell_other _ _ _ _ (by simp [hqk, Ne.symm hqk])).trans c2
        have HSW := Lib.hid (show ∀ j, TwoX W2.heap.size (((wr.drewN j).setCell ⟨ga, q, none⟩ (.slice ya ym yc)).setCell ⟨ga, k, none⟩ (.slice xa xm xc)) (.slice (some ⟨ga, 0, none⟩) n rc) (.slice (some ⟨gb, 0, none⟩) n fc) ((M.set q y).set k x) P ∧ Below W2.heap.size W2 (((wr.drewN j).setCell ⟨ga, q, none⟩ (.slice ya ym yc)).setCell ⟨ga, k, none⟩ (.slice xa xm xc)) from fun j => by
          have hk := HT.out.kept (below_draws (Below.refl wr.heap.size wr) j)
          have hb := below_draws HB.out j
          rw [← hxs, ← hys]
          exact ⟨hk.swap hx hy, hk.below hb⟩)
        clear hxs hys hxm hym how
        go_upto_region 6 with (fail)
        go_cut [47] (fun _ wx => TwoX W2.heap.size wx (.slice (some ⟨ga, 0, none⟩) n rc) (.slice (some ⟨gb, 0, none⟩) n fc) ((M.set q y).set k x) P ∧ Below W2.heap.size W2 wx)
        case first =>
          go_region
          go_wp2_with fail
          go_meet
          exact HSW.out _
        case rest =>
          obtain ⟨htw, hb⟩ := hcut
          have HX := Lib.hid hx
          have HY := Lib.hid hy
          clear HT HB HSW c1 c2 f1 f2 c12 hx hy
          have HT := Lib.hid htw
          have HB := Lib.hid hb
          clear htw hb
          obtain ⟨u, hu⟩ : ∃ x, P[q]? = some x := ⟨_, List.getElem?_eq_getElem (by omega)⟩
          obtain ⟨v, hv⟩ : ∃ x, P[k]? = some x := ⟨_, List.getElem?_eq_getElem (by omega)⟩
          obtain ⟨ua, uc, hus⟩ := rdS_shape (HT.out.el u (.inr (List.mem_of_getElem? hu)) wc fun _ _ _ _ => rfl).1
          obtain ⟨va, vc, hvs⟩ := rdS_shape (HT.out.el v (.inr (List.mem_of_getElem? hv)) wc fun _ _ _ _ => rfl).1
          obtain ⟨um, hum⟩ : ∃ xm, xm = (u.2.map cellsV).length := ⟨_, rfl⟩
          obtain ⟨vm, hvm⟩ : ∃ ym, ym = (v.2.map cellsV).length := ⟨_, rfl⟩
          rw [← hum] at hus
          rw [← hvm] at hvs
          have how : wc.ownsRow W2.heap.size 33 1 (.slice (some ⟨gb, 0, none⟩) n fc) n (P.map Prod.fst) := by have h := HT.out.o2; rw [hpl] at h; exact h
          have c1 : wc.cell? ⟨gb, q, none⟩ = some (.slice ua um uc) := (how.cellAt q (by omega)).trans (by rw [List.getElem?_map, hu, ← hus]; rfl)
          have c2 : wc.cell? ⟨gb, k, none⟩ = some (.slice va vm vc) := (how.cellAt k (by omega)).trans (by rw [List.getElem?_map, hv, ← hvs]; rfl)
          have f1 := how.frozenAt q
          have f2 := how.frozenAt k
          have c12 : ∀ j, ((wc.drewN j).setCell ⟨gb, q, none⟩ (.slice va vm vc)).cell? ⟨gb, k, none⟩ = some (.slice va vm vc) := fun j => (World.cell?_setCell_other _ _ _ _ (by simp [hqk, Ne.symm hqk])).trans c2
          have HSW := Lib.hid (show ∀ j, TwoX W2.heap.size (((wc.drewN j).setCell ⟨gb, q, none⟩ (.slice va vm vc)).setCell ⟨gb, k, none⟩ (.slice ua um uc)) (.slice (some ⟨ga, 0, none⟩) n rc) (.slice (some ⟨gb, 0, none⟩) n fc) ((M.set q y).set k x) ((P.set q v).set k u) ∧ Below W2.heap.size W2 (((wc.drewN j).setCell ⟨gb, q, none⟩ (.slice va vm vc)).setCell ⟨gb, k, none⟩ (.slice ua um uc)) from fun j => by
            have hk := HT.out.kept (below_draws (Below.refl wc.heap.size wc) j)
            have hb := below_draws HB.out j
            rw [← hus, ← hvs]
            exact ⟨(hk.symm.swap hu hv).symm, hk.symm.below hb⟩)
          clear hus hvs hum hvm how
          go_upto_region 7 with (fail)
          go_region
          go_wp2_with fail
          go_roundw
          case rel =>
            have HKQ := HK.out
            refine ⟨q + 1, _, _, by omega, by go_num, ?_, (HSW.out _).1, ?_, fun z hz => HMM.out z (mem_set2 HX.out HY.out hz), by rw [List.length_set, List.length_set]; exact hml, (HSW.out _).2⟩
            · congr 1; omega
            · have e1 : x.row = u.row := by have h := congrArg (fun l => l[q]?) HMP.out; simp only [List.getElem?_map, HX.out, hu, Option.map_some, Option.some.injEq] at h; exact h
              have e2 : y.row = v.row := by have h := congrArg (fun l => l[k]?) HMP.out; simp only [List.getElem?_map, HY.out, hv, Option.map_some, Option.some.injEq] at h; exact h
              rw [List.map_set, List.map_set, List.map_set, List.map_set, HMP.out, e1, e2]
          case measure => simp [intOf]; omega
      · have hlti : ¬ (q : Int) < (n : Int) - 1 - (q : Int) := by omega
        clear hlt
        have hm6 : m ≤ 6 := by rw [HM.out]; exact HOK.out.le
        have HXM := Lib.hid (show ∀ w', Below wr.heap.size wr w' → RowsX (colsN a0) la w' (.slice ra n rc) M from fun w' h => (HT.out.kept h).rowsX HMM.out (by omega))
        have HXS := Lib.hid (show ∀ w', Below wr.heap.size wr w' → Calls Try.prog 18 #[.slice ra n rc, .slice fa n fc] w' fun e w'' => e = .returned (.bool true) ∧ Below w'.heap.size w' w'' from fun w' h => by
          have ht := HT.out.kept h
          have hshort : ∀ r ∈ rows9 (colsN a0) la, r.length ≤ 1000000 := fun r hr => by rw [row9_lenA hr]; have := HOK.out.le; omega
          refine sameTrue_any M P _ _ w' (by omega) (Rd.of_owns ht.o1) (Rd.of_owns ht.o2) (fun x hx => ⟨ht.el x (.inl hx) w' fun _ _ _ _ => rfl, ?_⟩) (fun x hx => ⟨ht.el x (.inr hx) w' fun _ _ _ _ => rfl, ?_⟩) HMP.out
          · have h2 := hshort _ (HMM.out x hx)
            unfold El.row at h2
            rw [List.length_map] at h2
            exact h2
          · have h1 : x.row ∈ M.map El.row := by rw [HMP.out]; exact List.mem_map_of_mem hx
            obtain ⟨y, hy, he⟩ := List.mem_map.1 h1
            have h2 := hshort _ (HMM.out y hy)
            rw [he] at h2
            unfold El.row at h2
            rw [List.length_map] at h2
            exact h2)
        have HBW := Lib.hid (show ∀ w', Below wr.heap.size wr w' → Below w.heap.size w w' from fun w' h => below_then HB2.out (below_then HB.out h))
        have HCR := Lib.hid (show ∀ w', Below wr.heap.size wr w' → w'.cell? ⟨SB, 0, none⟩ = some (.slice so m sc) from fun w' h => HCS.out w' (below_then HB.out h))
        have HCELL := Lib.hid (show ∀ w', Below wr.heap.size wr w' → w'.ownsRow W2.heap.size 33 1 (.slice ra n rc) n (M.map Prod.fst) from fun w' h => by have := (HT.out.kept h).o1; rw [hml] at this; exact this)
        have HML := Lib.hid hml
        have cs4 := HCR.out _ (Below.refl _ _)
        clear hml hpl
        have hm0i : (1 : Int) ≤ (m : Int) := by omega
        have hcw : IntKind.i64.wrap ((m : Int) - 1) = (m : Int) - 1 := IntWalk.i64_in _ (by omega)
        obtain ⟨c, hc⟩ : ∃ c : Int, c = (m : Int) - 1 := ⟨_, rfl⟩
        have hc0 : 0 ≤ c := by omega
        have HCM := Lib.hid (show c < ((colsN a0).length : Int) by rw [← HM.out]; omega)
        have HCC := Lib.hid hc
        obtain ⟨k2, hk2⟩ := cols_kinds0 HOK.out la c hc0 HCM.out
        have HK2 := Lib.hid (hk2 M HMM.out)
        have HKM := Lib.hid (show KindsR ((colsN a0).map (·.k)) (M.map El.row) from fun r hr => by obtain ⟨x, hx, rfl⟩ := List.mem_map.1 hr; exact rows9_kinds HOK.out la _ (HMM.out x hx))
        have HSMR := Lib.hid (show ∀ r ∈ M.map El.row, r.length ≤ 1000000 ∧ ∀ v ∈ r, v.b.length ≤ 1000000 from fun r hr => by
          obtain ⟨x, hx, rfl⟩ := List.mem_map.1 hr
          exact ⟨by rw [row9_lenA (HMM.out x hx)]; have := HOK.out.le; omega, fun v hv => by have := (row9_smallA (HMM.out x hx) v hv).2; omega⟩)
        clear hk2
        go_wp2_with fail
        rw [← hc]
        clear hc hcw cs4
        obtain ⟨W5, hW5⟩ : ∃ W5 : World, W5 = wr.alloc (.cells #[.int .i64 4, .int .i64 c] 32) := ⟨_, rfl⟩
        obtain ⟨AB, hAB⟩ : ∃ AB, AB = wr.heap.size := ⟨_, rfl⟩
        have hav := rdS_lit wr #[.int .i64 4, .int .i64 c] 32 2 rfl
        have hb5 : Below wr.heap.size wr W5 := by rw [hW5]; exact below_alloc wr _
        have HB5 := Lib.hid hb5
        rw [← hW5, ← hAB] at hav ⊢
        clear hW5 hAB hb5
        refine (grpM_any HOK.out la M c _ _ W5 (HXM.out _ HB5.out) hav).mono ?_
        rintro e W6 ⟨gv, T, rfl, hT, hTs, hb6⟩
        have HT6 := Lib.hid hT
        have HTS := Lib.hid hTs
        have HB6 := Lib.hid (below_then HB5.out hb6)
        clear hav hT hTs hb6
        have hX6 := HXM.out _ HB6.out
        have hR6 := hX6.rowsIn HOK.out
        have HSA := Lib.hid (asort_any _ M HKM.out (by have := hX6.le; omega) _ W6 hX6.rd fun x hx => ⟨(hR6 x hx).1, (hR6 x hx).2.1, fun t ht => ((hR6 x hx).2.2 t ht).2⟩)
        clear hX6 hR6
        go_wp2_with fail
        refine HSA.out.mono ?_
        rintro e Wa ⟨va, rfl, Za, za1, za2, za3, hba⟩
        have hza := smallD_of za1 (by rw [List.length_map, HML.out]; omega) HSMR.out
        have HTA := Lib.hid (turn_any W6.heap.size Za va Za.length Wa (TurnI.of za3) rfl hza.1 hza.2)
        have HBa := Lib.hid hba
        clear za1 za2 za3 hba hza HSA
        go_wp2_with fail
        refine HTA.out.mono ?_
        rintro e Wb ⟨rfl, _, hbb⟩
        have HBb := Lib.hid (show Below W6.heap.size W6 Wb from HBa.out.trans hbb)
        have HBwb := Lib.hid (below_then HB6.out HBb.out)
        clear hbb HTA HBa
        have cs5 := HCR.out _ HBwb.out
        have hcw : IntKind.i64.wrap ((m : Int) - 1) = (m : Int) - 1 := IntWalk.i64_in _ (by omega)
        have hc := HCC.out
        go_wp2_with fail
        rw [← hc]
        clear hc hcw cs5
        have hbc : Below Wb.heap.size Wb (Wb.alloc (.cells #[.int .i64 0, .int .i64 c] 3)) := below_alloc Wb _
        have hXC := HXM.out _ (below_then HBwb.out hbc)
        refine (acols_any _ M [0, c] (by have := hXC.le; omega) (by simp) _ (.slice (some ⟨Wb.heap.size, 0, none⟩) 2 2) _ (hXC.rowsIn HOK.out) hXC.rd (rd_lit Wb #[.int .i64 0, .int .i64 c] 3 2 ([0, c].map (Value.int .i64)) rfl rfl (by decide)) HK2.out).mono ?_
        rintro e Wd ⟨vd, rfl, Zd, zd1, zd2, zd3, hbd⟩
        have hzd := smallD_of zd1 (by rw [List.length_map, HML.out]; omega) fun r hr => by
          obtain ⟨x, hx, rfl⟩ := List.mem_map.1 hr
          refine ⟨by simp, fun v hv => ?_⟩
          obtain ⟨j, _, rfl⟩ := List.mem_map.1 hv
          exact atT_small fun u hu => (HSMR.out _ (List.mem_map_of_mem hx)).2 u hu
        have HTD := Lib.hid (turn_any (Wb.alloc (.cells #[.int .i64 0, .int .i64 c] 3)).heap.size Zd vd Zd.length Wd (TurnI.of zd3) rfl hzd.1 hzd.2)
        have HBd := Lib.hid hbd
        have HBc := Lib.hid hbc
        clear zd1 zd2 zd3 hbd hzd hXC hbc
        go_wp2_with fail
        refine HTD.out.mono ?_
        rintro e We ⟨rfl, _, hbe⟩
        have HBe := Lib.hid (show Below W6.heap.size W6 We from below_then HBb.out (below_then HBc.out (HBd.out.trans hbe)))
        clear hbe HTD HBd HBc HBb HBwb
        have HTG := Lib.hid (turn_any W5.heap.size T gv T.length We (TurnI.of (HT6.out.kept HBe.out)) rfl HTS.out.1 HTS.out.2)
        go_wp2_with fail
        refine HTG.out.mono ?_
        rintro e Wf ⟨rfl, _, hbf⟩
        have HBf := Lib.hid (show Below wr.heap.size wr Wf from (below_then HB6.out HBe.out).trans (hbf.mono HB5.out.size))
        clear hbf HTG HBe
        go_wp2_with fail
        obtain ⟨wo, rfl⟩ : ∃ wo : World, wo = wr := ⟨_, rfl⟩
        go_loopw [88] (fun i wx => ∃ q : Nat, q ≤ n ∧ i = .int .i64 (q : Int) ∧ Below wo.heap.size wo wx) (fun i _ => n - (intOf i).toNat)
        case atStart => exact ⟨0, Nat.zero_le _, rfl, HBf.out⟩
        case round =>
          obtain ⟨q2, hq2, rfl, hb⟩ := hrel
          have HBq := Lib.hid hb
          clear hb
          by_cases hlt2 : q2 < n
          · obtain ⟨x, hx⟩ : ∃ x, M[q2]? = some x := ⟨_, List.getElem?_eq_getElem (by rw [HML.out]; exact hlt2)⟩
            have hxm := List.mem_of_getElem? hx
            have hown := HCELL.out _ HBq.out
            obtain ⟨ga, hga⟩ := own_isAtA hown (by omega)
            subst hga
            have hXQ := HXM.out _ HBq.out
            obtain ⟨xa, xc, hxs⟩ := rdS_shape (hXQ.el x hxm).1
            obtain ⟨xm, hxn⟩ : ∃ xm, xm = (x.2.map cellsV).length := ⟨_, rfl⟩
            rw [← hxn] at hxs
            have c1 : wr.cell? ⟨ga, q2, none⟩ = some (.slice xa xm xc) := (hown.cellAt q2 (by omega)).trans (by rw [List.getElem?_map, hx, ← hxs]; rfl)
            have HXI := Lib.hid (show ∀ w', Below wo.heap.size wo w' → RdP w' x.1 x.2 ∧ x.2.length ≤ 1000000 ∧ ∀ t ∈ x.2, I64 t.1.n ∧ t.1.b.length ≤ 1000000 from fun w' h => ⟨(HXM.out w' h).el x hxm, by
              have h2 := (HSMR.out _ (List.mem_map_of_mem hxm)).1
              unfold El.row at h2
              rw [List.length_map] at h2
              exact h2, fun t ht => by
              have := row9_smallA (HMM.out x hxm) t.1 (by unfold El.row; exact List.mem_map_of_mem ht)
              exact ⟨this.1, by omega⟩⟩)
            have HXS1 := Lib.hid hxs
            have hq20 : (0 : Int) ≤ (q2 : Int) := by omega
            have hq2i : (q2 : Int) < (n : Int) := by omega
            have hq21 : IntKind.i64.wrap ((q2 : Int) + 1) = (q2 : Int) + 1 := IntWalk.i64_in _ (by omega)
            clear hx hxm hown hXQ hxs hxn
            go_wp2_with fail
            obtain ⟨W8, hW8⟩ : ∃ W8 : World, W8 = wr.alloc (.cells #[.int .i64 0, .bool true, .bool false, .int .i64 1, .int .i64 1, .slice none 0 0] 46) := ⟨_, rfl⟩
            obtain ⟨AB2, hAB2⟩ : ∃ AB2, AB2 = wr.heap.size := ⟨_, rfl⟩
            have hrs := rdS_lit wr #[.int .i64 0, .bool true, .bool false, .int .i64 1, .int .i64 1, .slice none 0 0] 46 6 rfl
            have HB8 := Lib.hid (show Below wo.heap.size wo W8 by rw [hW8]; exact below_then HBq.out (below_alloc wr _))
            rw [← hW8, ← hAB2] at hrs ⊢
            clear hW8 hAB2 c1
            obtain ⟨hx1, hx2, hx3⟩ := HXI.out _ HB8.out
            have HSET := Lib.hid (set_any x [⟨0, true, ⟨false, 1, 1, []⟩, .slice none 0 0⟩] (by simp) W8 hx1 hx2 hx3 (.slice (some ⟨AB2, 0, none⟩) 1 1) hrs (fun y hy => by rw [List.mem_singleton.1 hy]; exact ⟨⟨Rd.nil _, fun u hu => by cases hu⟩, by unfold I64; simp, by simp⟩))
            rw [HXS1.out] at HSET
            have HXL := Lib.hid hx2
            clear hrs hx1 hx2 hx3
            refine HSET.out.mono ?_
            rintro e W9 ⟨hret, hb9⟩
            obtain ⟨v', l', ok, rfl, hra, hsm⟩ := setR_own hret fun r hr => by rw [setsT_len _ _ _ hr]; unfold El.row; rw [List.length_map]; exact HXL.out
            obtain ⟨ya, yc, hys⟩ := own_shape hra.2.2.1
            obtain ⟨ym, hym⟩ : ∃ ym, ym = l'.length := ⟨_, rfl⟩
            rw [← hym] at hys
            subst hys
            have HB9 := Lib.hid (below_then HB8.out hb9)
            have hti := turnI_one hra hb9.size
            have HTN := Lib.hid (turn_any _ _ _ 1 _ hti rfl (by omega) hsm.2)
            have HSZ9 := Lib.hid (Nat.le_trans HB8.out.size (Nat.le_refl _))
            clear hret hb9 hra hsm hym hti HSET
            go_wp2_with fail
            refine HTN.out.mono ?_
            rintro e Wt ⟨rfl, _, hbt⟩
            have HBT := Lib.hid ((below_then HB9.out (below_alloc W9 (.cells #[.slice ya ym yc] 33))).trans (hbt.mono HSZ9.out))
            clear hbt HTN
            go_wp2_with fail
            go_roundw
            case rel => exact ⟨q2 + 1, by omega, by go_num, HBT.out⟩
            case measure => simp [intOf]; omega
          · have hq2i : ¬ (q2 : Int) < (n : Int) := by omega
            go_wp2_with fail
            refine (HXS.out _ HBq.out).mono ?_
            rintro e Wg ⟨rfl, hbg⟩
            have HBg := Lib.hid (below_then HBq.out hbg)
            clear hbg
            go_wp2_with fail
            refine (HAW.out _).mono ?_
            rintro e Wh ⟨rfl, hbh⟩
            go_wp2_with fail
            go_ret
            exact ⟨rfl, below_then (HBW.out _ HBg.out) hbh⟩

end Go.Proofs.Ytnfjdoeemnhkbaa
