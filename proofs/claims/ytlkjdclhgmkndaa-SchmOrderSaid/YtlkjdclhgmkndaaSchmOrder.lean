/-
  The walk of SchmOrder.
-/
import Derived.Test.YtlkjdclhgmkndaaRowm
import Derived.Test.YtlkjdclhgmkndaaAwake6
import Derived.Deep.CutBlock
import Derived.Deep.DeepCutAuto
namespace Go.Proofs.Ytlkjdclhgmkndaa
set_option linter.unusedVariables false
set_option linter.unusedSimpArgs false
open Go.RowKit

set_option maxRecDepth 100000 in
set_option maxHeartbeats 16000000 in
theorem walk_SchmOrder (a0 : Int) (a1 : Int) (a2 : Int) (a3 : Int) (w0 : (Lit.int .i64 a0).wf = true) (w1 : (Lit.int .i64 a1).wf = true) (w2 : (Lit.int .i64 a2).wf = true) (w3 : (Lit.int .i64 a3).wf = true) (w : World) :
    Calls Try.prog 4 #[.int .i64 a0, .int .i64 a1, .int .i64 a2, .int .i64 a3] w fun e w' => e = .returned (.bool true) ∧ Below w.heap.size w w' := by
  clear w0 w1 w2 w3
  go_enter Try.func4, Try.ntmps4
  go_wp2_with fail
  refine (schema_any a0 _).mono ?_
  rintro e w1 ⟨ao, cap, kl, rfl, hkl, hkinds, hown, hb⟩
  have HC1 := Lib.hid (rdC_own hown (by rw [colsOf_len]))
  have HOK := Lib.hid (colsOf_ok hkinds hkl)
  have HCL := Lib.hid (colsOf_len kl)
  obtain ⟨cols, hcols⟩ : ∃ cols, cols = colsOf kl := ⟨_, rfl⟩
  rw [← hcols] at HC1 HOK HCL
  obtain ⟨m, hm⟩ : ∃ m, m = kl.length + 1 := ⟨_, rfl⟩
  rw [← hm] at HC1 HCL ⊢
  have HB1 := Lib.hid hb
  have hm6 : m ≤ 6 := by omega
  have hm0 : 0 < m := by omega
  clear hkl hkinds hown hb hcols hm
  have HC0 := Lib.hid (RdC.kept HC1.out (below_alloc w1 (.cells #[.slice ao m cap] 24)))
  have HBW := Lib.hid (below_lay HB1.out (.cells #[.slice ao m cap] 24))
  have HZ := Lib.hid (heap_alloc_new w1 (.cells #[.slice ao m cap] 24))
  go_wp2_with fail
  obtain ⟨X, hX⟩ : ∃ X, X = w1.heap.size := ⟨_, rfl⟩
  obtain ⟨W0, hW0⟩ : ∃ W0 : World, W0 = w1.alloc (.cells #[.slice ao m cap] 24) := ⟨_, rfl⟩
  rw [← hW0] at HC0 HBW HZ ⊢
  rw [← hX] at HZ ⊢
  clear hW0 hX
  have hcx : W0.cell? ⟨X, 0, none⟩ = some (.slice ao m cap) := by rw [cell_of_row W0 X 0 _ _ _ HZ.out]; rfl
  have hS := Below.refl W0.heap.size W0
  have HRW := fun (n : Int) (w' : World) (h : Below W0.heap.size W0 w') => Lib.hid (row_any (.slice ao m cap) cols n w' (RdC.kept HC0.out h) HOK.out.le)
  go_region_held3 (fun w' => w'.cell? ⟨X, 0, none⟩ = some (.slice ao m cap) ∧ Below W0.heap.size W0 w') (first | assumption | exact Below.trans (by assumption) (below_drw _ _) | (refine ⟨?_, ?_⟩ <;> first | assumption | exact Below.trans (by assumption) (below_drw _ _)) | (dsimp only; refine ⟨?_, ?_⟩ <;> first | assumption | exact Below.trans (by assumption) (below_drw _ _)))
    (first
      | (go_at_call_of 16 (Value.int .i64 a1); refine (HRW a1 _ (by first | assumption | exact Below.trans (by assumption) (below_drw _ _))).out.mono ?_; rintro e w2 ⟨u1, l1, rfl, hl1, ho1, hb1⟩; have hS2 : Below W0.heap.size W0 w2 := below_then (by first | assumption | exact Below.trans (by assumption) (below_drw _ _)) hb1; have hc2 : w2.cell? ⟨X, 0, none⟩ = some (.slice ao m cap) := (hS2.cell (p := ⟨X, 0, none⟩) (World.block_lt_of_cell? _ _ hcx)).trans hcx)
      | (go_at_call_of 16 (Value.int .i64 a2); refine (HRW a2 _ (by first | assumption | exact Below.trans (by assumption) (below_drw _ _))).out.mono ?_; rintro e w3 ⟨u2, l2, rfl, hl2, ho2, hb2⟩; have hS3 : Below W0.heap.size W0 w3 := below_then (by first | assumption | exact Below.trans (by assumption) (below_drw _ _)) hb2; have hc3 : w3.cell? ⟨X, 0, none⟩ = some (.slice ao m cap) := (hS3.cell (p := ⟨X, 0, none⟩) (World.block_lt_of_cell? _ _ hcx)).trans hcx)
      | (go_at_call_of 16 (Value.int .i64 a3); refine (HRW a3 _ (by first | assumption | exact Below.trans (by assumption) (below_drw _ _))).out.mono ?_; rintro e w4 ⟨u3, l3, rfl, hl3, ho3, hb3⟩; have hS4 : Below W0.heap.size W0 w4 := below_then (by first | assumption | exact Below.trans (by assumption) (below_drw _ _)) hb3; have hc4 : w4.cell? ⟨X, 0, none⟩ = some (.slice ao m cap) := (hS4.cell (p := ⟨X, 0, none⟩) (World.block_lt_of_cell? _ _ hcx)).trans hcx))
  have HX := Lib.hid ((ho1.rdP.kept hb2).kept hb3)
  have HY := Lib.hid (ho2.rdP.kept hb3)
  have HZ3 := Lib.hid ho3.rdP
  obtain ⟨oa1, oc1, hu1⟩ := oinv_shape ho1
  obtain ⟨oa2, oc2, hu2⟩ := oinv_shape ho2
  obtain ⟨oa3, oc3, hu3⟩ := oinv_shape ho3
  have e1 : l1.length = m := by rw [← List.length_map (f := Prod.fst), hl1, rowOf_len]; exact HCL.out
  have e2 : l2.length = m := by rw [← List.length_map (f := Prod.fst), hl2, rowOf_len]; exact HCL.out
  have e3 : l3.length = m := by rw [← List.length_map (f := Prod.fst), hl3, rowOf_len]; exact HCL.out
  rw [e1] at hu1
  rw [e2] at hu2
  rw [e3] at hu3
  subst hu1 hu2 hu3
  have HE1 := Lib.hid e1
  have HE2 := Lib.hid e2
  have HL1 := Lib.hid hl1
  have HL2 := Lib.hid hl2
  have HB4 := Lib.hid (below_then HBW.out hS4)
  have HR1 := fun w' (h : Below w4.heap.size w4 w') => Lib.hid (show RdRow w' (.slice oa1 m oc1) (rowOf cols a1) from ⟨l1, hl1, HX.out.kept h⟩)
  have HR2 := fun w' (h : Below w4.heap.size w4 w') => Lib.hid (show RdRow w' (.slice oa2 m oc2) (rowOf cols a2) from ⟨l2, hl2, HY.out.kept h⟩)
  have HR3 := fun w' (h : Below w4.heap.size w4 w') => Lib.hid (show RdRow w' (.slice oa3 m oc3) (rowOf cols a3) from ⟨l3, hl3, HZ3.out.kept h⟩)
  have hlr : ∀ n, (rowOf cols n).length ≤ 1000000 := fun n => by rw [rowOf_len, HCL.out]; omega
  have HXY := fun w' h => Lib.hid (rows_any _ _ _ _ w' (HR1 w' h).out (HR2 w' h).out (hlr a1) (hlr a2))
  have HYZ := fun w' h => Lib.hid (rows_any _ _ _ _ w' (HR2 w' h).out (HR3 w' h).out (hlr a2) (hlr a3))
  have HXZ := fun w' h => Lib.hid (rows_any _ _ _ _ w' (HR1 w' h).out (HR3 w' h).out (hlr a1) (hlr a3))
  have HYX := fun w' h => Lib.hid (rows_any _ _ _ _ w' (HR2 w' h).out (HR1 w' h).out (hlr a2) (hlr a1))
  have HSR := fun w' h => Lib.hid (sameRow_any _ _ _ _ w' (HR1 w' h).out (HR2 w' h).out (hlr a1) (hlr a2))
  have o1 := ord_anti HOK.out a1 a2
  have o2 := ord_eq HOK.out a1 a2
  have o3 := ord_tr HOK.out a1 a2 a3
  have o4 := ord_tri HOK.out a1 a2
  obtain ⟨ni, hni⟩ : ∃ ni, ni = cmpR (rowOf cols a2) (rowOf cols a1) := ⟨_, rfl⟩
  obtain ⟨i, hi⟩ : ∃ i, i = cmpR (rowOf cols a1) (rowOf cols a2) := ⟨_, rfl⟩
  obtain ⟨j, hj⟩ : ∃ j, j = cmpR (rowOf cols a2) (rowOf cols a3) := ⟨_, rfl⟩
  obtain ⟨k, hk⟩ : ∃ k, k = cmpR (rowOf cols a1) (rowOf cols a3) := ⟨_, rfl⟩
  obtain ⟨sb, hsb⟩ : ∃ sb, sb = sameR (rowOf cols a1) (rowOf cols a2) := ⟨_, rfl⟩
  rw [← hni] at HYX o1
  rw [← hi] at HXY o1 o2 o3 o4
  rw [← hj] at HYZ o3
  rw [← hk] at HXZ o3
  rw [← hsb] at HSR o2
  have HNV := Lib.hid (rowOf_norm cols HOK.out)
  have HKK := Lib.hid (rowOf_kinds cols HOK.out)
  have hcase : (i = 1 ∧ ni = -1 ∧ sb = false) ∨ (i = 0 ∧ ni = 0 ∧ sb = true ∧ decide (j ≤ 0) = false) ∨ (i = 0 ∧ ni = 0 ∧ sb = true ∧ decide (j ≤ 0) = true ∧ decide (0 < k) = false) ∨
      (i = -1 ∧ ni = 1 ∧ sb = false ∧ decide (j ≤ 0) = false) ∨ (i = -1 ∧ ni = 1 ∧ sb = false ∧ decide (j ≤ 0) = true ∧ decide (0 < k) = false ∧ decide (0 ≤ k) = false) := by
    rcases o4 with h | h | h
    · subst h
      have hs : sb = false := by rw [← o2]; rfl
      by_cases hj0 : j ≤ 0
      · have h3 := o3 (by omega) hj0
        have : k < 0 := by
          rcases Int.lt_or_eq_of_le h3.1 with h4 | h4
          · exact h4
          · have := (h3.2 h4).1; omega
        exact .inr (.inr (.inr (.inr ⟨rfl, by omega, hs, decide_eq_true hj0, decide_eq_false (by omega), decide_eq_false (by omega)⟩)))
      · exact .inr (.inr (.inr (.inl ⟨rfl, by omega, hs, decide_eq_false hj0⟩)))
    · subst h
      have hs : sb = true := by rw [← o2]; rfl
      by_cases hj0 : j ≤ 0
      · have h3 := o3 (by omega) hj0
        exact .inr (.inr (.inl ⟨rfl, by omega, hs, decide_eq_true hj0, decide_eq_false (by omega)⟩))
      · exact .inr (.inl ⟨rfl, by omega, hs, decide_eq_false hj0⟩)
    · subst h
      exact .inl ⟨rfl, by omega, by rw [← o2]; rfl⟩
  clear o1 o2 o3 o4 hni hi hj hk hsb hl1 hl2 hl3 ho1 ho2 ho3 hb1 hb2 hb3 hS hS2 hS3 hS4 hc2 hc3 hc4 hcx HRW HZ3 e1 e2 e3 HR3 HOK HC0 HC1
  have HCASE := Lib.hid hcase
  clear hcase
  go_wp2_with fail
  refine (HXY _ (Below.refl _ _)).out.mono ?_
  rintro e w5 ⟨rfl, hb5⟩
  go_wp2_with fail
  refine (HYZ _ hb5).out.mono ?_
  rintro e w6 ⟨rfl, hb6⟩
  replace hb6 := below_then hb5 hb6
  go_wp2_with fail
  refine (HXZ _ hb6).out.mono ?_
  rintro e w7 ⟨rfl, hb7⟩
  replace hb7 := below_then hb6 hb7
  clear hb5 hb6 HXY HYZ HXZ
  go_upto_region 4 with (fail)
  go_cut [75] (fun s wx => s = .bool false ∧ Below w4.heap.size w4 wx)
  case first =>
    rcases HCASE.out with ⟨rfl, rfl, rfl⟩ | ⟨rfl, rfl, rfl, q1⟩ | ⟨rfl, rfl, rfl, q1, q2⟩ | ⟨rfl, rfl, rfl, q1⟩ | ⟨rfl, rfl, rfl, q1, q2, q3⟩
    all_goals
      clear HCASE
      go_wp2_with fail
      refine (HYX _ hb7).out.mono ?_
      rintro e w8 ⟨rfl, hb8⟩
      replace hb8 := below_then hb7 hb8
      go_wp2_with fail
      refine (HSR _ hb8).out.mono ?_
      rintro e w9 ⟨rfl, hb9⟩
      replace hb9 := below_then hb8 hb9
      go_wp2_with fail
      go_meet
      exact ⟨rfl, hb9⟩
  case rest =>
    obtain ⟨rfl, hb9⟩ := hcut
    have HB9 := Lib.hid hb9
    clear hb7 hb9 HYX HSR HCASE
    go_wp2_with fail
    go_loopw [78] (fun i wr => ∃ q : Nat, q ≤ m ∧ i = .int .i64 (q : Int) ∧ Below w4.heap.size w4 wr) (fun i _ => m - (intOf i).toNat)
    case atStart => exact ⟨0, Nat.zero_le _, rfl, HB9.out⟩
    case round =>
      obtain ⟨q, hq, rfl, hbel⟩ := hrel
      have HB := Lib.hid hbel
      clear hbel
      by_cases hlt : q < m
      · obtain ⟨t, ht⟩ : ∃ t, l1[q]? = some t := ⟨_, List.getElem?_eq_getElem (by rw [HE1.out]; exact hlt)⟩
        obtain ⟨u, hu⟩ : ∃ u, l2[q]? = some u := ⟨_, List.getElem?_eq_getElem (by rw [HE2.out]; exact hlt)⟩
        obtain ⟨b1, o1, rfl, p0, p1, p2, p3, ok1⟩ := (HX.out.kept HB.out).at ht
        obtain ⟨b2, o2, rfl, r0, r1, r2, r3, ok2⟩ := (HY.out.kept HB.out).at hu
        have m1 := map_at ht
        have m2 := map_at hu
        rw [HL1.out] at m1
        rw [HL2.out] at m2
        have hkk : t.1.k = u.1.k := by
          have h1 := congrArg (fun l : List Int => l[q]?) ((HKK.out a1).trans (HKK.out a2).symm)
          simp only [List.getElem?_map, m1, m2, Option.map_some, Option.some.injEq] at h1
          exact h1
        obtain ⟨v1, v2, v3⟩ := val_ord (HNV.out a1 _ (List.mem_of_getElem? m1)) (HNV.out a2 _ (List.mem_of_getElem? m2)) hkk
        have HC1 := fun w' (h : Below wr.heap.size wr w') => Lib.hid (compare_any t u w' (ok1.kept h) (ok2.kept h))
        have HC2 := fun w' (h : Below wr.heap.size wr w') => Lib.hid (compare_any u t w' (ok2.kept h) (ok1.kept h))
        have HC3 := fun w' (h : Below wr.heap.size wr w') => Lib.hid (sameVal_any t u w' (ok1.kept h) (ok2.kept h))
        have HP := fun w' (h : Below wr.heap.size wr w') => Lib.hid (show w'.cell? ⟨b1, o1 + q * 4, none⟩ = some (.bool t.1.u) ∧ w'.cell? ⟨b1, o1 + q * 4 + 1, none⟩ = some (.int .i64 t.1.k) ∧ w'.cell? ⟨b1, o1 + q * 4 + 2, none⟩ = some (.int .i64 t.1.n) ∧ w'.cell? ⟨b1, o1 + q * 4 + 3, none⟩ = some t.2 ∧
          w'.cell? ⟨b2, o2 + q * 4, none⟩ = some (.bool u.1.u) ∧ w'.cell? ⟨b2, o2 + q * 4 + 1, none⟩ = some (.int .i64 u.1.k) ∧ w'.cell? ⟨b2, o2 + q * 4 + 2, none⟩ = some (.int .i64 u.1.n) ∧ w'.cell? ⟨b2, o2 + q * 4 + 3, none⟩ = some u.2 from
          ⟨(h.cell (World.block_lt_of_cell? _ _ p0)).trans p0, (h.cell (World.block_lt_of_cell? _ _ p1)).trans p1, (h.cell (World.block_lt_of_cell? _ _ p2)).trans p2, (h.cell (World.block_lt_of_cell? _ _ p3)).trans p3,
            (h.cell (World.block_lt_of_cell? _ _ r0)).trans r0, (h.cell (World.block_lt_of_cell? _ _ r1)).trans r1, (h.cell (World.block_lt_of_cell? _ _ r2)).trans r2, (h.cell (World.block_lt_of_cell? _ _ r3)).trans r3⟩)
        obtain ⟨nv, hnv⟩ : ∃ nv, nv = cmpT u.1 t.1 := ⟨_, rfl⟩
        obtain ⟨v, hv⟩ : ∃ v, v = cmpT t.1 u.1 := ⟨_, rfl⟩
        obtain ⟨st, hst⟩ : ∃ st, st = sameT t.1 u.1 := ⟨_, rfl⟩
        rw [← hnv] at v1 HC2
        rw [← hv] at v1 v2 v3 HC1
        rw [← hst] at v2 HC3
        unfold aggV at HC1 HC2 HC3
        have HV := Lib.hid (show (v = -1 ∧ nv = 1 ∧ st = false) ∨ (v = 0 ∧ nv = 0 ∧ st = true) ∨ (v = 1 ∧ nv = -1 ∧ st = false) by
          rcases v3 with h | h | h
          · subst h; exact .inl ⟨rfl, by omega, by rw [← v2]; rfl⟩
          · subst h; exact .inr (.inl ⟨rfl, by omega, by rw [← v2]; rfl⟩)
          · subst h; exact .inr (.inr ⟨rfl, by omega, by rw [← v2]; rfl⟩))
        clear ht hu m1 m2 hkk v1 v2 v3 hnv hv hst ok1 ok2
        go_upto_region 9 with (fail)
        go_cut [17] (fun s wx => s = .int .i64 v ∧ Below wr.heap.size wr wx)
        case first =>
          go_region_with (go_at_call 21; refine ((HC1 _ (below_draws (Below.refl _ _) _)).out).mono ?_; rintro e wa ⟨rfl, hba⟩)
          all_goals
            go_wp2_with fail
            go_meet
            exact ⟨rfl, below_then (below_draws (Below.refl _ _) _) hba⟩
        case rest =>
          obtain ⟨rfl, hba⟩ := hcut
          obtain ⟨p0, p1, p2, p3, r0, r1, r2, r3⟩ := (HP _ hba).out
          go_upto_region 10 with (fail)
          go_cut [115] (fun s wx => s = .bool false ∧ Below wr.heap.size wr wx)
          case first =>
            rename (∀ (a : Act) (w : World), _ → _) => hmeet
            revert hmeet
            rename (∀ (a : Act) (w : World), _ → _) => hjoin
            revert hjoin
            repeat (rename (∀ (a : Act) (w : World), _ → _) => hh; clear hh)
            intro hjoin hmeet
            clear HX HY HNV HKK HR1 HR2 hlr HL1 HL2 HE1 HE2 HB4 HZ HBW HCL HB9 HC1
            rcases HV.out with ⟨rfl, rfl, rfl⟩ | ⟨rfl, rfl, rfl⟩ | ⟨rfl, rfl, rfl⟩
            all_goals
              obtain ⟨⟨tu, tk, tn, tb⟩, ts⟩ := t
              obtain ⟨⟨uu, uk, un, ub⟩, us⟩ := u
              simp only at HP HC2 HC3 p0 p1 p2 p3 r0 r1 r2 r3
              have hS : wc.cell? ⟨b1, o1 + q * 4, none⟩ = some (.bool tu) ∧ wc.cell? ⟨b1, o1 + q * 4 + 1, none⟩ = some (.int .i64 tk) ∧ wc.cell? ⟨b1, o1 + q * 4 + 2, none⟩ = some (.int .i64 tn) ∧ wc.cell? ⟨b1, o1 + q * 4 + 3, none⟩ = some ts ∧ wc.cell? ⟨b2, o2 + q * 4, none⟩ = some (.bool uu) ∧ wc.cell? ⟨b2, o2 + q * 4 + 1, none⟩ = some (.int .i64 uk) ∧ wc.cell? ⟨b2, o2 + q * 4 + 2, none⟩ = some (.int .i64 un) ∧ wc.cell? ⟨b2, o2 + q * 4 + 3, none⟩ = some us := ⟨p0, p1, p2, p3, r0, r1, r2, r3⟩
              clear p0 p1 p2 p3 r0 r1 r2 r3
              have hw1 : IntKind.i64.wrap (-1) = -1 := by decide
              have hw2 : IntKind.i64.wrap 1 = 1 := by decide
              have hw3 : IntKind.i64.wrap 0 = 0 := by decide
              have kn := fun (a b : Bool) (w : World) => run_neq_bool (P := Try.prog) w 4 a b Try.underlying4
              set_option maxRecDepth 1000000 in
              go_region_held3 (fun w' => w'.cell? ⟨b1, o1 + q * 4, none⟩ = some (.bool tu) ∧ w'.cell? ⟨b1, o1 + q * 4 + 1, none⟩ = some (.int .i64 tk) ∧ w'.cell? ⟨b1, o1 + q * 4 + 2, none⟩ = some (.int .i64 tn) ∧ w'.cell? ⟨b1, o1 + q * 4 + 3, none⟩ = some ts ∧ w'.cell? ⟨b2, o2 + q * 4, none⟩ = some (.bool uu) ∧ w'.cell? ⟨b2, o2 + q * 4 + 1, none⟩ = some (.int .i64 uk) ∧ w'.cell? ⟨b2, o2 + q * 4 + 2, none⟩ = some (.int .i64 un) ∧ w'.cell? ⟨b2, o2 + q * 4 + 3, none⟩ = some us) (first | assumption)
                (first
                  | (go_at_call 21; refine ((HC2 _ (by first | assumption | exact Below.trans (by assumption) (below_drw _ _))).out).mono ?_; rintro e wd ⟨rfl, hbd⟩; have hbd2 : Below wr.heap.size wr wd := below_then (by first | assumption | exact Below.trans (by assumption) (below_drw _ _)) hbd; have hS2 := (HP _ hbd2).out)
                  | (go_at_call 22; refine ((HC3 _ (by first | assumption | exact Below.trans (by assumption) (below_drw _ _))).out).mono ?_; rintro e we ⟨rfl, hbe⟩; have hbe2 : Below wr.heap.size wr we := below_then (by first | assumption | exact Below.trans (by assumption) (below_drw _ _)) hbe; have hS3 := (HP _ hbe2).out))
              go_wp2_with fail
              go_meet
              exact ⟨rfl, hbe2⟩
          case rest =>
            obtain ⟨rfl, hbe⟩ := hcut
            have HBE := Lib.hid (below_then HB.out hbe)
            clear hba hbe
            go_wp2_with fail
            go_roundw
            case rel => exact ⟨q + 1, by omega, by go_num, HBE.out⟩
            case measure => simp [intOf]; omega
      · go_wp2_with fail
        refine (awake6_any _).mono ?_
        rintro e wz ⟨rfl, hbz⟩
        have HBZ := Lib.hid (below_then HB.out hbz)
        clear hbz
        go_wp2_with fail
        go_ret
        exact ⟨rfl, below_then HB4.out HBZ.out⟩

end Go.Proofs.Ytlkjdclhgmkndaa
