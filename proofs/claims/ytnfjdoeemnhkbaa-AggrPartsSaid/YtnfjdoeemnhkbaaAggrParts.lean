/-
  The walk of AggrParts.
-/
import Derived.Test.YtnfjdoeemnhkbaaAgn
import Derived.Test.YtnfjdoeemnhkbaaColn
import Derived.Test.YtnfjdoeemnhkbaaLsix
import Derived.Test.YtnfjdoeemnhkbaaLone
import Derived.Test.YtnfjdoeemnhkbaaAwake16
import Derived.Deep.RegionHeld3
import Derived.Deep.QuietTactic
import Derived.BigQuiet
namespace Go.Proofs.Ytnfjdoeemnhkbaa
set_option linter.unusedVariables false
set_option linter.unusedSimpArgs false
open Go.RowKit

theorem rd_at {w : World} {ao : Option Addr} {n cap : Nat} {xs : List Value} (h : Rd w (.slice ao n cap) xs) (h0 : 0 < xs.length) : ∃ b off, ao = some ⟨b, off, none⟩ ∧ ∀ i x, xs[i]? = some x → w.cell? ⟨b, off + i, none⟩ = some x := by
  obtain ⟨ao', cap', hv, _, hc⟩ := h
  cases hv
  obtain ⟨b, off, ha, hcell⟩ := hc h0
  refine ⟨b, off, ha, fun i x hx => ?_⟩
  rw [hcell i (List.getElem?_eq_some_iff.1 hx).1, List.getD_eq_getElem?_getD, hx]
  rfl

set_option maxRecDepth 100000 in
set_option maxHeartbeats 8000000 in
theorem walk_AggrParts (a0 : Int) (a1 : Option Addr) (len1 cap1 : Nat) (z1 : List Int) (a2 : Int) (w : World) (w0 : (Lit.int .i64 a0).wf = true) (w1 : IsRow .i64 w a1 len1 cap1 z1) (w2 : (Lit.int .i64 a2).wf = true) :
    Calls Try.prog 3 #[.int .i64 a0, .slice a1 len1 cap1, .int .i64 a2] w fun e w' => e = .returned (.bool true) ∧ Below w.heap.size w w' := by
  obtain ⟨la, hla, h1, _⟩ := isRow_rd w1
  have HLA := Lib.hid hla
  have HR1 := Lib.hid h1
  have HS := Lib.hid (schema_rd a0 w)
  have HOK := Lib.hid (colsN_ok a0)
  have HAW := Lib.hid awake16_any
  clear hla h1 w0 w1 w2
  go_enter Try.func3, Try.ntmps3
  go_wp2_with fail
  refine HS.out.mono ?_
  rintro e W1 ⟨so, sc, rfl, hs1, hb1⟩
  obtain ⟨m, hm⟩ : ∃ m, m = (colsN a0).length := ⟨_, rfl⟩
  have hc1 : RdC W1 _ (colsN a0) := hs1.rd
  rw [← hm] at hs1 hc1 ⊢
  have hm0 : 0 < m := by rw [hm]; exact HOK.out.ne
  have HM := Lib.hid hm
  clear hm
  go_upto_region 2 with (fail)
  obtain ⟨W2, hW2⟩ : ∃ W2 : World, W2 = W1.alloc (.cells #[.slice so m sc] 25) := ⟨_, rfl⟩
  obtain ⟨SB, hSB⟩ : ∃ SB, SB = W1.heap.size := ⟨_, rfl⟩
  rw [← hW2, ← hSB]
  have HSB := Lib.hid (show W2.heap[SB]? = some (.cells #[.slice so m sc] 25 (0, 0)) by rw [hW2, hSB]; exact heap_alloc_new W1 _)
  have hb12 : Below W1.heap.size W1 W2 := by rw [hW2]; exact below_alloc W1 _
  have HB2 := Lib.hid (below_then hb1 hb12)
  have HC2 := Lib.hid (RdC.kept hc1 hb12)
  have cs2 : W2.cell? ⟨SB, 0, none⟩ = some (.slice so m sc) := by rw [cell_of_row W2 SB 0 _ _ _ HSB.out]; rfl
  have HCS := Lib.hid (show ∀ w', Below W2.heap.size W2 w' → w'.cell? ⟨SB, 0, none⟩ = some (.slice so m sc) from fun w' h => (h.cell (World.block_lt_of_cell? _ _ cs2)).trans cs2)
  clear hs1 hc1 hb1 hb12 hW2 hSB
  go_wp2_with fail
  refine (rows9_any (colsN a0) HOK.out la (.slice so m sc) a1 len1 cap1 HLA.out.symm W2 HC2.out (HR1.out.kept HB2.out)).mono ?_
  rintro e W3 ⟨v, L, rfl, hLm, hrs, hb3⟩
  obtain ⟨E, hEL, hrd, hel⟩ := hrs.els
  have hE : Rows16 (colsN a0) la W3 v E := ⟨by rw [← hLm, ← hEL, List.map_map]; rfl, hrd, hel⟩
  obtain ⟨ra, rc, hvs⟩ : ∃ ao cap, v = .slice ao (E.map Prod.fst).length cap := by obtain ⟨ao, cap, h, _⟩ := hrd; exact ⟨ao, cap, h⟩
  rw [List.length_map] at hvs
  obtain ⟨n, hn⟩ : ∃ n, n = E.length := ⟨_, rfl⟩
  rw [← hn] at hvs
  subst hvs
  have hn40 : n ≤ 40 := by rw [hn]; exact hE.le
  have HN := Lib.hid hn
  have HE := Lib.hid hE
  have HB3 := Lib.hid (below_then HB2.out hb3)
  have cs3 := HCS.out _ hb3
  clear hLm hrs hEL hrd hel hE hn hb3 cs2
  obtain ⟨c, hc, hc0, hcm⟩ : ∃ c : Int, (a2 % 256).tmod (m : Int) = c ∧ 0 ≤ c ∧ c < m := ⟨_, rfl, by rw [Int.tmod_eq_emod_of_nonneg (by omega)]; exact Int.emod_nonneg _ (by omega), by rw [Int.tmod_eq_emod_of_nonneg (by omega)]; exact Int.emod_lt_of_pos _ (by omega)⟩
  have b255 : ∀ x, bits .and .i64 x 255 = x % 256 := fun x => and_low x 8 (by decide) 255 rfl
  have hm0i : (m : Int) ≠ 0 := by omega
  go_upto_region 4 with (fail)
  have HCM := Lib.hid (show c < ((colsN a0).length : Int) by rw [← HM.out]; exact hcm)
  clear hc b255 hm0i cs3
  have HA4 := Lib.hid (show RdS (W3.alloc (.cells #[.int .i64 1, .int .i64 0, .int .i64 2, .int .i64 0] 32)) 2 (.slice (some ⟨W3.heap.size, 0, none⟩) 2 2) [[.int .i64 1, .int .i64 0], [.int .i64 2, .int .i64 0]] from rdS_litsA W3 _ _ 2 2 _ rfl (fun t ht => by simp only [List.mem_cons, List.not_mem_nil, or_false] at ht; rcases ht with rfl | rfl <;> rfl) rfl)
  go_wp2_with fail
  refine (grp16_any HOK.out la E c hc0 HCM.out _ _ _ (HE.out.kept (below_alloc W3 _)) HA4.out).mono ?_
  rintro e W5 ⟨gv, C, S, T, rfl, hG, hb5⟩
  have HG := Lib.hid hG
  have hb35 : Below W3.heap.size W3 W5 := below_then (below_alloc W3 _) hb5
  have HE5 := Lib.hid (HE.out.kept hb35)
  have HB5 := Lib.hid (below_then HB3.out hb35)
  clear hG hb5 hb35 HA4
  go_upto_region 5 with (fail)
  have HA5 := Lib.hid (show RdS (W5.alloc (.cells #[.int .i64 1, .int .i64 0, .int .i64 2, .int .i64 0] 32)) 2 (.slice (some ⟨W5.heap.size, 0, none⟩) 2 2) [[.int .i64 1, .int .i64 0], [.int .i64 2, .int .i64 0]] from rdS_litsA W5 _ _ 2 2 _ rfl (fun t ht => by simp only [List.mem_cons, List.not_mem_nil, or_false] at ht; rcases ht with rfl | rfl <;> rfl) rfl)
  go_wp2_with fail
  refine (grpN_any HOK.out la E _ _ _ (HE5.out.kept (below_alloc W5 _)) HA5.out).mono ?_
  rintro e W6 ⟨av, x1, s0, s1, rfl, hA, hX, hb6⟩
  have hb56 : Below W5.heap.size W5 W6 := below_then (below_alloc W5 _) hb6
  have hG6 := HG.out.kept hb56
  have HG6 := Lib.hid hG6
  have HB6 := Lib.hid (below_then HB5.out hb56)
  obtain ⟨tn, htn⟩ : ∃ tn, tn = T.length := ⟨_, rfl⟩
  have HTN := Lib.hid htn
  obtain ⟨ga, gc, hgv⟩ : ∃ ao cap, gv = .slice ao (T.map Prod.fst).length cap := by obtain ⟨ao, cap, h, _⟩ := hG6.rd; exact ⟨ao, cap, h⟩
  rw [List.length_map, ← htn] at hgv
  subst hgv
  have ht40 : tn ≤ 40 := by rw [htn]; exact hG6.le
  obtain ⟨aa, ac, hav⟩ : ∃ ao cap, av = .slice ao 1 cap := by obtain ⟨ao, cap, h, _⟩ := hA; exact ⟨ao, cap, h⟩
  subst hav
  obtain ⟨ab, aof, rfl, hac⟩ := rd_at hA (Nat.zero_lt_succ _)
  have c60 : W6.cell? ⟨ab, aof, none⟩ = some x1 := hac 0 x1 rfl
  obtain ⟨xa, xc, rfl⟩ := rdP_shape hX
  obtain ⟨xb, xo, rfl, -, -, c61, -, -⟩ := RdP.at hX (k := 0) rfl
  obtain ⟨xb', xo', hxe, -, -, c62, -, -⟩ := RdP.at hX (k := 1) rfl
  cases hxe
  simp only [Nat.zero_mul, Nat.one_mul, Nat.add_zero] at c61 c62
  rw [← HN.out] at c61
  obtain ⟨su, hsu⟩ : ∃ su, su = sumT (E.map El.row) 0 := ⟨_, rfl⟩
  rw [← hsu] at c62
  have HSU := Lib.hid hsu
  have HCL := Lib.hid (show ∀ w', Below W6.heap.size W6 w' → w'.cell? ⟨ab, aof, none⟩ = some (.slice (some ⟨xb, xo, none⟩) 2 xc) ∧ w'.cell? ⟨xb, xo + 2, none⟩ = some (.int .i64 (n : Int)) ∧ w'.cell? ⟨xb, xo + 4 + 2, none⟩ = some (.int .i64 su) from fun w' h => ⟨(h.cell (World.block_lt_of_cell? _ _ c60)).trans c60, (h.cell (World.block_lt_of_cell? _ _ c61)).trans c61, (h.cell (World.block_lt_of_cell? _ _ c62)).trans c62⟩)
  clear hA hX hb6 hb56 hG6 htn hac hsu HA5
  simp only [List.length_cons, List.length_nil, Nat.zero_add, Nat.reduceAdd] at c60 ⊢
  go_upto_region 8 with (fail)
  clear c60 c61 c62
  go_wp2_with fail
  go_loopw [14, 15, 66] (fun a b i wr => ∃ (q : Nat) (cs ss : Int), q ≤ tn ∧ i = .int .i64 (q : Int) ∧ a = .int .i64 cs ∧ b = .int .i64 ss ∧ cs = (C.take q).sum ∧ ss = (S.take q).sum ∧ 0 ≤ cs ∧ cs ≤ 40 * q ∧ 0 ≤ ss ∧ ss ≤ 8000 * q ∧ Below W6.heap.size W6 wr) (fun _ _ i _ => tn - (intOf i).toNat)
  case atStart => exact ⟨0, 0, 0, Nat.zero_le _, rfl, rfl, rfl, by rw [List.take_zero]; rfl, by rw [List.take_zero]; rfl, by omega, by omega, by omega, by omega, Below.refl _ _⟩
  case round =>
    obtain ⟨q, cs, ss, hq, rfl, rfl, rfl, hcs, hss, hcs0, hcs1, hss0, hss1, hb⟩ := hrel
    have HB := Lib.hid hb
    have HCSU := Lib.hid hcs
    have HSSU := Lib.hid hss
    clear hcs hss
    by_cases hlt : q < tn
    · obtain ⟨x, hx⟩ : ∃ x, T[q]? = some x := ⟨_, List.getElem?_eq_getElem (by rw [← HTN.out]; exact hlt)⟩
      have hGr := HG6.out.kept hb
      obtain ⟨gb, go, rfl, hgc⟩ := rd_at hGr.rd (by rw [List.length_map, ← HTN.out]; omega)
      obtain ⟨k, ca, sa, t0, t1, t2, hx2, hC, hS, ca1, ca2, sa1, sa2⟩ := hGr.pos q x hx
      have hxP := hGr.el x (List.mem_of_getElem? hx)
      have cx : wr.cell? ⟨gb, go + q, none⟩ = some x.1 := hgc q x.1 (by rw [List.getElem?_map, hx]; rfl)
      obtain ⟨xv, xl⟩ := x
      simp only at hx2 hxP cx
      subst hx2
      obtain ⟨ya, yc, rfl⟩ := rdP_shape hxP
      obtain ⟨yb, yo, rfl, d0, d1, d2, d3, hok0⟩ := RdP.at hxP (k := 0) rfl
      obtain ⟨yb', yo', hye, -, -, d6, -, -⟩ := RdP.at hxP (k := 1) rfl
      cases hye
      obtain ⟨yb', yo', hye, -, -, d10, -, -⟩ := RdP.at hxP (k := 2) rfl
      cases hye
      simp only [Nat.zero_mul, Nat.one_mul, Nat.add_zero, Nat.reduceMul] at d0 d1 d2 d3 d6 d10
      simp only [List.length_cons, List.length_nil, Nat.zero_add, Nat.reduceAdd] at cx
      have hlti : (q : Int) < (tn : Int) := by omega
      have hq0 : (0 : Int) ≤ (q : Int) := by omega
      have hq1 : IntKind.i64.wrap ((q : Int) + 1) = (q : Int) + 1 := IntWalk.i64_in _ (by omega)
      have hw1 : IntKind.i64.wrap (cs + ca) = cs + ca := IntWalk.i64_in _ (by omega)
      have hw2 : IntKind.i64.wrap (ss + sa) = ss + sa := IntWalk.i64_in _ (by omega)
      have hdc : decide (ca < 1) = false := by rw [decide_eq_false_iff_not]; omega
      have HX := Lib.hid hx
      have HGC := Lib.hid hgc
      clear hx hxP hgc
      go_upto_region 12 with (fail)
      clear hw1 hw2
      go_cut [98] (fun r wx => r = .bool false ∧ Below wr.heap.size wr wx)
      case first =>
        rcases Nat.eq_zero_or_pos q with hqz | hqp
        · have hdg : decide ((0 : Int) < (q : Int)) = false := by rw [decide_eq_false_iff_not]; omega
          have hdg2 : decide ((q : Int) > 0) = false := hdg
          have hdg3 : ¬ (0 : Int) < (q : Int) := by omega
          have hdg4 : decide (0 < q) = false := by rw [decide_eq_false_iff_not]; omega
          have hdg5 : ¬ 0 < q := by omega
          clear hqz
          go_quiet (fail)
          go_wp2_with fail
          go_meet
          exact ⟨rfl, by first | exact below_draws (Below.refl _ _) _ | exact below_draws2 (Below.refl _ _) _⟩
        · obtain ⟨r, hr⟩ : ∃ r, q = r + 1 := ⟨q - 1, by omega⟩
          obtain ⟨y, hy⟩ : ∃ y, T[r]? = some y := ⟨_, List.getElem?_eq_getElem (by rw [← HTN.out]; omega)⟩
          obtain ⟨k2, ca2, sa2, u0, u1, u2, hy2, -⟩ := hGr.pos r y hy
          have hyP := hGr.el y (List.mem_of_getElem? hy)
          have hris := hGr.rise r y _ (k2, u0) (k, t0) hy (by rw [← hr]; exact HX.out) (by rw [hy2]; rfl) rfl
          have cy : wr.cell? ⟨gb, go + r, none⟩ = some y.1 := HGC.out r y.1 (by rw [List.getElem?_map, hy]; rfl)
          obtain ⟨yv, yl⟩ := y
          simp only at hy2 hyP cy
          subst hy2
          obtain ⟨za, zc, rfl⟩ := rdP_shape hyP
          obtain ⟨zb, zo, rfl, e0, e1, e2, e3, hok1⟩ := RdP.at hyP (k := 0) rfl
          simp only [Nat.zero_mul, Nat.add_zero] at e0 e1 e2 e3
          simp only [List.length_cons, List.length_nil, Nat.zero_add, Nat.reduceAdd] at cy
          obtain ⟨rr, hrr⟩ : ∃ rr, rr = refC k2 k := ⟨_, rfl⟩
          simp only at hris
          rw [← hrr] at hris
          have HRC := Lib.hid (show ∀ w', Below wr.heap.size wr w' → Calls Try.prog 12 #[.agg #[.bool k2.u, .int .i64 k2.k, .int .i64 k2.n, u0], .agg #[.bool k.u, .int .i64 k.k, .int .i64 k.n, t0]] w' fun e w'' => e = .returned (.int .i64 rr) ∧ Below w'.heap.size w' w'' from fun w' h => by rw [hrr]; exact refCompare_any (k2, u0) (k, t0) w' (hok1.kept h) (hok0.kept h))
          have hdr : ¬ (0 : Int) ≤ rr := by omega
          have hdr2 : decide (rr ≥ 0) = false := by rw [decide_eq_false_iff_not]; omega
          have hdr3 : decide ((0 : Int) ≤ rr) = false := hdr2
          have hdg : decide ((0 : Int) < (q : Int)) = true := by rw [decide_eq_true_eq]; omega
          have hdg2 : decide ((q : Int) > 0) = true := hdg
          have hdg3 : (0 : Int) < (q : Int) := by omega
          have hdg4 : decide (0 < q) = true := by rw [decide_eq_true_eq]; omega
          have hdg5 : 0 < q := by omega
          have hr0 : (0 : Int) ≤ (r : Int) := by omega
          have hrt : (r : Int) < (tn : Int) := by omega
          have hq2 : IntKind.i64.wrap ((q : Int) - 1) = (r : Int) := by rw [IntWalk.i64_in _ (by omega)]; omega
          have HCX := Lib.hid (show ∀ w', Below wr.heap.size wr w' → (w'.cell? ⟨gb, go + r, none⟩ = some (.slice (some ⟨zb, zo, none⟩) 3 zc) ∧ w'.cell? ⟨zb, zo, none⟩ = some (.bool k2.u) ∧ w'.cell? ⟨zb, zo + 1, none⟩ = some (.int .i64 k2.k) ∧ w'.cell? ⟨zb, zo + 2, none⟩ = some (.int .i64 k2.n) ∧ w'.cell? ⟨zb, zo + 3, none⟩ = some u0 ∧ w'.cell? ⟨yb, yo, none⟩ = some (.bool k.u) ∧ w'.cell? ⟨yb, yo + 1, none⟩ = some (.int .i64 k.k) ∧ w'.cell? ⟨yb, yo + 2, none⟩ = some (.int .i64 k.n) ∧ w'.cell? ⟨yb, yo + 3, none⟩ = some t0 ∧ w'.cell? ⟨yb, yo + 4 + 2, none⟩ = some (.int .i64 ca)) ∧ Below wr.heap.size wr w' from fun w' h => ⟨⟨(h.cell (World.block_lt_of_cell? _ _ cy)).trans cy, (h.cell (World.block_lt_of_cell? _ _ e0)).trans e0, (h.cell (World.block_lt_of_cell? _ _ e1)).trans e1, (h.cell (World.block_lt_of_cell? _ _ e2)).trans e2, (h.cell (World.block_lt_of_cell? _ _ e3)).trans e3, (h.cell (World.block_lt_of_cell? _ _ d0)).trans d0, (h.cell (World.block_lt_of_cell? _ _ d1)).trans d1, (h.cell (World.block_lt_of_cell? _ _ d2)).trans d2, (h.cell (World.block_lt_of_cell? _ _ d3)).trans d3, (h.cell (World.block_lt_of_cell? _ _ d6)).trans d6⟩, h⟩)
          have hS := HCX.out _ (Below.refl wr.heap.size wr)
          clear hy hyP hris hrr hok0 hok1 cy e0 e1 e2 e3 d0 d1 d2 d3 d6 d10 hr hqp
          set_option maxRecDepth 1000000 in
          go_region_held3 (fun w' => (w'.cell? ⟨gb, go + r, none⟩ = some (.slice (some ⟨zb, zo, none⟩) 3 zc) ∧ w'.cell? ⟨zb, zo, none⟩ = some (.bool k2.u) ∧ w'.cell? ⟨zb, zo + 1, none⟩ = some (.int .i64 k2.k) ∧ w'.cell? ⟨zb, zo + 2, none⟩ = some (.int .i64 k2.n) ∧ w'.cell? ⟨zb, zo + 3, none⟩ = some u0 ∧ w'.cell? ⟨yb, yo, none⟩ = some (.bool k.u) ∧ w'.cell? ⟨yb, yo + 1, none⟩ = some (.int .i64 k.k) ∧ w'.cell? ⟨yb, yo + 2, none⟩ = some (.int .i64 k.n) ∧ w'.cell? ⟨yb, yo + 3, none⟩ = some t0 ∧ w'.cell? ⟨yb, yo + 4 + 2, none⟩ = some (.int .i64 ca)) ∧ Below wr.heap.size wr w') (first | assumption | exact HCX.out _ (by assumption) | exact HCX.out _ (below_drw _ _) | exact HCX.out _ (Below.trans (by assumption) (below_drw _ _)))
            (first
              | (go_at_call 12; refine (HRC.out _ ?_).mono ?_; (first | (with_reducible assumption) | exact below_drw _ _ | exact Below.trans (by assumption) (below_drw _ _)); rintro e w4 ⟨rfl, hb4⟩; have hb5 : Below wr.heap.size wr w4 := (by first | exact below_then (below_drw _ _) hb4 | exact below_then (by assumption) hb4 | exact below_then (Below.trans (by assumption) (below_drw _ _)) hb4); have hS4 := HCX.out _ hb5))
          go_wp2_with fail
          go_meet
          exact ⟨rfl, by first | assumption | exact hb5⟩
      case rest =>
        obtain ⟨rfl, hbx⟩ := hcut
        have HBX := Lib.hid (hb.trans (hbx.mono hb.size))
        have f6 := (hbx.cell (World.block_lt_of_cell? _ _ d6)).trans d6
        have f10 := (hbx.cell (World.block_lt_of_cell? _ _ d10)).trans d10
        have hw1 : IntKind.i64.wrap (cs + ca) = cs + ca := IntWalk.i64_in _ (by omega)
        have hw2 : IntKind.i64.wrap (ss + sa) = ss + sa := IntWalk.i64_in _ (by omega)
        clear d0 d1 d2 d3 d6 d10 hb hGr hok0 cx
        go_wp2_with fail
        go_quiet (fail)
        go_wp2_with fail
        go_roundw
        case rel =>
          refine ⟨q + 1, cs + ca, ss + sa, by omega, by go_num, rfl, rfl, by rw [take_sum hC, ← HCSU.out], by rw [take_sum hS, ← HSSU.out], by omega, by omega, by omega, by omega, by first | exact below_draws HBX.out _ | exact below_draws2 HBX.out _⟩
        case measure => simp [intOf]; omega
    · have hqn : q = tn := by omega
      subst hqn
      have hcn : cs = (n : Int) := by rw [HCSU.out, HTN.out, ← HG6.out.lc, List.take_length, HG6.out.cnt, HN.out]
      have hsn : ss = su := by rw [HSSU.out, HTN.out, ← HG6.out.ls, List.take_length, HG6.out.sum, HSU.out]
      subst hcn
      subst hsn
      have hlti : ¬ (q : Int) < (q : Int) := by omega
      obtain ⟨c60, c61, c62⟩ := HCL.out _ HB.out
      have HBW := Lib.hid (below_then HB6.out HB.out)
      go_wp2_with fail
      refine (HAW.out _).mono ?_
      rintro e W9 ⟨rfl, hb9⟩
      go_wp2_with fail
      go_ret
      exact ⟨rfl, below_then HBW.out hb9⟩

end Go.Proofs.Ytnfjdoeemnhkbaa
