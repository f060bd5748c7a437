import Derived.Test.YtnfjdoeemnhkbaaStc
set_option linter.unusedVariables false
set_option linter.unusedSimpArgs false
set_option maxRecDepth 100000
set_option maxHeartbeats 8000000
open Go.Lib (hid)
namespace Go.Proofs.Ytnfjdoeemnhkbaa
open Go.RowKit Sy
open _root_.List renaming length_append -> Qa, append_assoc -> Qb, cons_append -> Qc, nil_append -> Qd, length_cons -> Qf, length_nil -> Qg, length -> Qh, length_eq_zero_iff -> Qj
open Go.IntWalk renaming i64_in -> Qe, u64_in -> Qk
open Go.World renaming block_lt_of_cell? -> Qi
def SmOK (B g n cap : Nat) (fn : FuncId) (cs : Array Value) (lt : El -> El -> Bool) (U : List El) (w0 : World) (A X Y R : List El) : Prop :=
 ∀ (a m b : Nat), a = A.length -> m = a + X.length -> b = m + Y.length -> n = b + R.length -> Srt lt X -> Srt lt Y -> (∀ x ∈ X ++ Y, x ∈ U) -> ∀ w : World, Agree (fun b => b = g) w0 w -> RowE B g n cap w (A ++ (X ++ (Y ++ R))) ->
  Calls Try.prog 114 #[.slice (some ⟨g, 0, none⟩) n cap, .int .i64 a, .int .i64 m, .int .i64 b, .func (.func fn) #[] cs] w fun e w' => e = .returned (.tuple #[]) ∧ ∃ Z : List El, Z.Perm (X ++ Y) ∧ Srt lt Z ∧ RowE B g n cap w' (A ++ (Z ++ R)) ∧ Agree (fun b => b = g) w w'
theorem zNu {B g n cap : Nat} {fn : FuncId} {cs : Array Value} {lt : El -> El -> Bool} {U : List El} {w0 : World} (o : Ord lt) (HC : CmpOK fn cs lt U g w0) (hn6 : n <= 1000000) (A Y R : List El) (x : El) : SmOK B g n cap fn cs lt U w0 A [x] Y R := by
 intro a m b ha hm hb hn hsx hsy hU w h0 h
 have HA := hid ha
 have HM := hid hm
 have HBB := hid hb
 have HN := hid hn
 have HSX := hid hsx
 have HSY := hid hsy
 have HU := hid hU
 have H0 := hid h0
 have HO := hid h
 have HCC := hid HC
 have hmn : m <= n := by omega
 have hbn : b <= n := by omega
 have hm1 : m = a + 1 := by rw [hm]; rfl
 have e0 : IntKind.i64.wrap ((m : Int) - (a : Int)) = 1 := by rw [Qe _ (by omega)]; omega
 have hY : b = m + Y.length := hb
 have HM1 := hid hm1
 clear ha hm hb hn hsx hsy hU h0 h HC hm1 hY
 go_enter Try.func114, Try.ntmps114
 go_wp2_with fail
 go_loopw [10, 11] (fun i j wr => ∃ (Y1 Ym Y2 : List El) (p q : Nat), i = .int .i64 (p : Int) ∧ j = .int .i64 (q : Int) ∧ Y = Y1 ++ (Ym ++ Y2) ∧ p = m + Y1.length ∧ q = p + Ym.length ∧ (∀ z ∈ Y1, lt z x = true) ∧ (∀ z ∈ Y2, lt z x = false) ∧ RowE B g n cap wr (A ++ ([x] ++ (Y ++ R))) ∧ Agree (fun b => b = g) w wr) (fun i j _ => (intOf j).toNat - (intOf i).toNat)
 case atStart => exact ⟨[], Y, [], m, b, rfl, rfl, by simp, rfl, HBB.out, (fun z hz => by cases hz), (fun z hz => by cases hz), HO.out, Agree.refl _ _⟩
 case round =>
  obtain ⟨Y1, Ym, Y2, p, q, rfl, rfl, hY, hp, hq, h1, h2, how, hag⟩ := hrel
  have HYY := hid hY
  have HP := hid hp
  have HQ := hid hq
  have H1 := hid h1
  have H2 := hid h2
  have HOW := hid how
  have HAG := hid hag
  have hyl := congrArg Qh hY
  rw [Qa, Qa] at hyl
  have hbl := HBB.out
  have hqb : q <= b := by omega
  have hma := HM1.out
  by_cases hlt : p < q
  ·obtain ⟨H, hH⟩ : ∃ H, H = (p + q) / 2 := ⟨_, rfl⟩
   have hpH : p <= H := by omega
   have hHq : H < q := by omega
   obtain ⟨P1, z, P2, hYm, hP1⟩ := zI7 (l := Ym) (k := H - p) (by omega)
   have e1 : IntKind.i64.wrap ((p : Int) + (q : Int)) = (p : Int) + (q : Int) := Qe _ (by omega)
   have e2 : IntKind.u64.wrap ((p : Int) + (q : Int)) = (p : Int) + (q : Int) := Qk _ (by omega)
   have e3 : ((p : Int) + (q : Int)) / 2 = (H : Int) := by rw [hH]; omega
   have e4 : IntKind.i64.wrap (H : Int) = (H : Int) := Qe _ (by omega)
   have e5 : IntKind.i64.wrap ((H : Int) + 1) = ((H + 1 : Nat) : Int) := by rw [Qe _ (by omega)]; omega
   have hlti : (p : Int) < (q : Int) := by omega
   have hH0 : (0 : Int) <= (H : Int) := by omega
   have hHn : (H : Int) < (n : Int) := by omega
   have ha0 : (0 : Int) <= (a : Int) := by omega
   have han : (a : Int) < (n : Int) := by omega
   have hlen : (A ++ ([x] ++ (Y ++ R))).length = n := by
    have h3 := HN.out
    have h5 := HA.out
    simp only [Qa, Qf, Qg] at *
    omega
   have hYz : Y = (Y1 ++ P1) ++ z :: (P2 ++ Y2) := by rw [hY, hYm]; simp only [Qb, Qc]
   obtain ⟨xa, xm, xc, hvx, ca⟩ := zBn (x := x) (k := a) how hlen (zB9 A x _ HA.out)
   obtain ⟨za, zm, zc, hvz, cH⟩ := zBn (x := z) (k := H) how hlen (by
    have e : A ++ ([x] ++ (Y ++ R)) = (A ++ [x] ++ Y1 ++ P1) ++ z :: (P2 ++ (Y2 ++ R)) := by rw [hYz]; simp only [Qb, Qc]
    rw [e]
    refine zB9 _ z _ ?_
    simp only [Qa, Qf, Qg]
    have := HA.out
    omega)
   have hx : x ∈ U := HU.out x (by simp)
   have hz : z ∈ U := HU.out z (by rw [hYz]; simp)
   have HX := hid (fun w' (h : Agree (fun b => b = g) wr w') => HCC.out.2 w' ((H0.out.trans hag).trans h) z hz x hx)
   rw [hvx, hvz] at HX
   have HLO := hid (show lt z x = true -> ∀ u ∈ Y1 ++ P1 ++ [z], lt u x = true from fun h => zPo o (hYz ▸ HSY.out) h)
   have HHI := hid (show lt z x = false -> ∀ u ∈ z :: (P2 ++ Y2), lt u x = false from fun h => zPp o (hYz ▸ HSY.out) h)
   have HYm := hid hYm
   have HP1 := hid hP1
   clear hY hp hq h1 h2 how hag hyl hbl hlen hYz hx hz hYm hP1 hH hma hvx hvz
   have HFN := hid HCC.out.1
   go_upto_region 5 with (fail)
   go_region_held3 (fun w' => w'.cell? ⟨g, a, none⟩ = some (.slice xa xm xc) ∧ w'.cell? ⟨g, H, none⟩ = some (.slice za zm zc) ∧ Agree (fun b => b = g) wr w') (first | assumption | exact ⟨ca, cH, zBb _ _⟩ | exact ⟨ca2, cb2, AG2.out⟩) (first | (rw [HFN.out]; go_simp; refine (HX.out _ (zBb _ _)).mono ?_; rintro e w2 ⟨c, rfl, hc, hb2⟩; have ca2 := (hb2.cell (Qi _ _ ca)).trans ca; have cb2 := (hb2.cell (Qi _ _ cH)).trans cH; have AG2 := hid (show Agree (fun b => b = g) wr w2 from (zBb _ wr).thenBelow hb2); have HB2X := hid hb2; have HCX := hid hc; clear hb2 hc))
   have HO2 := hid (zDx (w := wr.drew) HOW.out HB2X.out)
   have HAG2 := hid (HAG.out.trans AG2.out)
   have hc := HCX.out
   clear ca cH ca2 cb2
   cases hzx : lt z x with
   | true =>
    rw [hzx, decide_eq_true_eq] at hc
    have hc2 : ¬ (0 : Int) <= c := by omega
    have hc3 : (!decide (c < 0)) = false := by rw [decide_eq_true hc]; rfl
    have HZ := hid (HLO.out hzx)
    clear hzx
    go_wp2_with fail
    go_roundw
    case rel =>
     have h3 := HYm.out
     have h4 := HP1.out
     have h5 := HP.out
     have h6 := HQ.out
     rw [h3, Qa, Qf] at h6
     exact ⟨Y1 ++ P1 ++ [z], P2, Y2, H + 1, q, by go_num, rfl, by rw [HYY.out, h3]; simp only [Qb, Qc, Qd], by simp only [Qa, Qf, Qg]; omega, by omega, HZ.out, H2.out, HO2.out, HAG2.out⟩
    case measure => simp [intOf]; omega
   | false =>
    rw [hzx, decide_eq_false_iff_not] at hc
    have hc2 : (0 : Int) <= c := by omega
    have hc3 : (!decide (c < 0)) = true := by rw [decide_eq_false hc]; rfl
    have HZ := hid (HHI.out hzx)
    clear hzx
    go_wp2_with fail
    go_roundw
    case rel =>
     have h3 := HYm.out
     have h4 := HP1.out
     exact ⟨Y1, P1, z :: (P2 ++ Y2), p, H, rfl, rfl, by rw [HYY.out, h3]; simp only [Qb, Qc], HP.out, by omega, H1.out, HZ.out, HO2.out, HAG2.out⟩
    case measure => simp [intOf]; omega
  ·have hYm0 : Ym = [] := Qj.1 (by omega)
   subst hYm0
   have hqp : q = p := by rw [hq]; rfl
   subst hqp
   have hlti : ¬ (q : Int) < (q : Int) := by omega
   obtain ⟨E, hE⟩ : ∃ E, E = a + Y1.length := ⟨_, rfl⟩
   have e6 : IntKind.i64.wrap ((q : Int) - 1) = (E : Int) := by rw [hE, Qe _ (by omega)]; omega
   have HE := hid hE
   have hEn : E < n := by omega
   obtain ⟨wz, hwz⟩ : ∃ wz : World, wz = wr := ⟨_, rfl⟩
   rw [<- hwz] at HOW HAG ⊢
   rw [Qd] at HYY
   clear hwz hY hp hq h1 h2 how hag hyl hbl hE hma
   go_wp2_with fail
   go_loopw [13] (fun k wr => ∃ (Z1 Z2 : List El) (c : Nat), k = .int .i64 (c : Int) ∧ Y1 = Z1 ++ Z2 ∧ c = a + Z1.length ∧ RowE B g n cap wr (A ++ (Z1 ++ (x :: (Z2 ++ (Y2 ++ R))))) ∧ Agree (fun b => b = g) w wr) (fun k _ => E - (intOf k).toNat)
   case atStart =>
    refine ⟨[], Y1, a, rfl, rfl, rfl, ?_, HAG.out⟩
    have h := HOW.out
    rw [HYY.out] at h
    simpa only [Qb, Qc, Qd] using h
   case round =>
    obtain ⟨Z1, Z2, c, rfl, hz, hc, how, hag⟩ := hrel
    have hzl := congrArg Qh hz
    rw [Qa] at hzl
    have hel := HE.out
    have HOWi := hid how
    have HAGi := hid hag
    have HZ := hid hz
    have HCI := hid hc
    by_cases hlt : c < E
    ·obtain ⟨y, Z3, rfl⟩ : ∃ y Z3, Z2 = y :: Z3 := by
      cases Z2 with
      | nil => simp at hzl; omega
      | cons x r => exact ⟨x, r, rfl⟩
     have hlti : (c : Int) < (E : Int) := by omega
     obtain ⟨D, hD⟩ : ∃ D, D = c + 1 := ⟨_, rfl⟩
     have e7 : IntKind.i64.wrap ((c : Int) + 1) = (D : Int) := by rw [hD, Qe _ (by omega)]; omega
     have hc0 : (0 : Int) <= (c : Int) := by omega
     have hcn : (c : Int) < (n : Int) := by omega
     have hD0 : (0 : Int) <= (D : Int) := by omega
     have hDn : (D : Int) < (n : Int) := by omega
     have hlen : (A ++ (Z1 ++ (x :: (y :: Z3 ++ (Y2 ++ R))))).length = n := by
      have h3 := HN.out
      have h4 := HBB.out
      have h5 := HA.out
      have h6 := congrArg Qh HYY.out
      have h7 := HM1.out
      simp only [Qa, Qf] at *
      omega
     obtain ⟨xa, xm, xc, hvx, cc⟩ := zBn (x := x) (k := c) how hlen (by
      rw [<- Qb]
      exact zB9 (A ++ Z1) x _ (by rw [Qa, <- HA.out]; exact hc))
     obtain ⟨ya, ym, yc, hvy, cD⟩ := zBn (x := y) (k := D) how hlen (by
      have e : A ++ (Z1 ++ (x :: (y :: Z3 ++ (Y2 ++ R)))) = (A ++ Z1 ++ [x]) ++ y :: (Z3 ++ (Y2 ++ R)) := by simp only [Qb, Qc, Qd]
      rw [e]
      exact zB9 _ y _ (by simp only [Qa, Qf, Qg]; have := HA.out; omega))
     have fc := how.frozenAt c
     have fD := how.frozenAt D
     have HDD := hid hD
     have HVX := hid hvx
     have HVY := hid hvy
     have hcD : c ≠ D := by omega
     have cPQ : (wr.setCell ⟨g, c, none⟩ (.slice ya ym yc)).cell? ⟨g, D, none⟩ = some (.slice ya ym yc) := (World.cell?_setCell_other _ _ _ _ (by simp [hcD, hcD.symm])).trans cD
     clear hz hc how hag hzl hel hlen hD hcD hvx hvy
     go_wp2_with fail
     go_region
     go_wp2_with fail
     go_roundw
     case rel =>
      refine ⟨Z1 ++ [y], Z3, D, by first | rfl | (have := HDD.out; go_num), by rw [HZ.out]; simp, by rw [Qa, HDD.out, HCI.out]; rfl, zE6 HOWi.out HVX.out HVY.out ?_, zD3 HAGi.out⟩
      have := zG0 (A ++ Z1) [] (Z3 ++ (Y2 ++ R)) x y (i := c) (j := D) (by rw [Qa, <- HA.out]; exact HCI.out) (by rw [Qa, Qg, <- HA.out, HDD.out, HCI.out])
      simp only [Qb, Qc, Qd] at this ⊢
      exact this
     case measure => have := HDD.out; simp [intOf]; omega
    ·have hz2 : Z2 = [] := Qj.1 (by omega)
     subst hz2
     have hlti : ¬ (c : Int) < (E : Int) := by omega
     have HF := hid (show RowE B g n cap wr (A ++ ((Y1 ++ x :: Y2) ++ R)) from by
      rw [hz, List.append_nil]
      simpa only [Qb, Qc, Qd] using how)
     clear hz hc how hag hzl hel
     go_wp2_with fail
     first | go_end0 | ((try simp only [Exit.inBlock, Exit.then]); refine bodyPost_ret (results_none rfl _ _ _) rfl ?_)
     refine ⟨rfl, Y1 ++ x :: Y2, ?_, ?_, HF.out, HAGi.out⟩
     ·rw [HYY.out]
      exact List.perm_middle
     ·exact zNp o (by rw [<- HYY.out]; exact HSY.out) H1.out H2.out
theorem zNv {B g n cap : Nat} {fn : FuncId} {cs : Array Value} {lt : El -> El -> Bool} {U : List El} {w0 : World} (o : Ord lt) (HC : CmpOK fn cs lt U g w0) (hn6 : n <= 1000000) (A X R : List El) (y : El) (hX : 1 < X.length) : SmOK B g n cap fn cs lt U w0 A X [y] R := by
 intro a m b ha hm hb hn hsx hsy hU w h0 h
 have HA := hid ha
 have HM := hid hm
 have HBB := hid hb
 have HN := hid hn
 have HSX := hid hsx
 have HSY := hid hsy
 have HU := hid hU
 have H0 := hid h0
 have HO := hid h
 have HCC := hid HC
 have hmn : m < n := by rw [hn, hb]; simp; omega
 have hb1 : b = m + 1 := by rw [hb]; rfl
 have e0 : IntKind.i64.wrap ((m : Int) - (a : Int)) = (X.length : Int) := by rw [Qe _ (by omega)]; omega
 have e0b : IntKind.i64.wrap ((b : Int) - (m : Int)) = 1 := by rw [Qe _ (by omega)]; omega
 have hne : ((X.length : Int) == 1) = false := by rw [beq_eq_false_iff_ne]; omega
 have hma : m = a + X.length := hm
 have HMA := hid hma
 clear ha hm hb hn hsx hsy hU h0 h HC hma hb1
 go_enter Try.func114, Try.ntmps114
 go_wp2_with fail
 go_loopw [14, 15] (fun i j wr => ∃ (X1 Xm X2 : List El) (p q : Nat), i = .int .i64 (p : Int) ∧ j = .int .i64 (q : Int) ∧ X = X1 ++ (Xm ++ X2) ∧ p = a + X1.length ∧ q = p + Xm.length ∧ (∀ z ∈ X1, lt y z = false) ∧ (∀ z ∈ X2, lt y z = true) ∧ RowE B g n cap wr (A ++ (X ++ ([y] ++ R))) ∧ Agree (fun b => b = g) w wr) (fun i j _ => (intOf j).toNat - (intOf i).toNat)
 case atStart => exact ⟨[], X, [], a, m, rfl, rfl, by simp, rfl, HMA.out, (fun z hz => by cases hz), (fun z hz => by cases hz), HO.out, Agree.refl _ _⟩
 case round =>
  obtain ⟨X1, Xm, X2, p, q, rfl, rfl, hY, hp, hq, h1, h2, how, hag⟩ := hrel
  have HYY := hid hY
  have HP := hid hp
  have HQ := hid hq
  have H1 := hid h1
  have H2 := hid h2
  have HOW := hid how
  have HAG := hid hag
  have hyl := congrArg Qh hY
  rw [Qa, Qa] at hyl
  have hma := HMA.out
  have hqm : q <= m := by omega
  by_cases hlt : p < q
  ·obtain ⟨H, hH⟩ : ∃ H, H = (p + q) / 2 := ⟨_, rfl⟩
   have hpH : p <= H := by omega
   have hHq : H < q := by omega
   obtain ⟨P1, z, P2, hYm, hP1⟩ := zI7 (l := Xm) (k := H - p) (by omega)
   have e1 : IntKind.i64.wrap ((p : Int) + (q : Int)) = (p : Int) + (q : Int) := Qe _ (by omega)
   have e2 : IntKind.u64.wrap ((p : Int) + (q : Int)) = (p : Int) + (q : Int) := Qk _ (by omega)
   have e3 : ((p : Int) + (q : Int)) / 2 = (H : Int) := by rw [hH]; omega
   have e4 : IntKind.i64.wrap (H : Int) = (H : Int) := Qe _ (by omega)
   have e5 : IntKind.i64.wrap ((H : Int) + 1) = ((H + 1 : Nat) : Int) := by rw [Qe _ (by omega)]; omega
   have hlti : (p : Int) < (q : Int) := by omega
   have hH0 : (0 : Int) <= (H : Int) := by omega
   have hHn : (H : Int) < (n : Int) := by omega
   have hm0 : (0 : Int) <= (m : Int) := by omega
   have hmni : (m : Int) < (n : Int) := by omega
   have hlen : (A ++ (X ++ ([y] ++ R))).length = n := by
    have h3 := HN.out
    have h4 := HBB.out
    have h5 := HA.out
    simp only [Qa, Qf, Qg] at *
    omega
   have hYz : X = (X1 ++ P1) ++ z :: (P2 ++ X2) := by rw [hY, hYm]; simp only [Qb, Qc]
   obtain ⟨ya, ym, yc, hvy, cm⟩ := zBn (x := y) (k := m) how hlen (by
    rw [<- Qb]
    exact zB9 (A ++ X) y _ (by rw [Qa, <- HA.out]; exact hma))
   obtain ⟨za, zm, zc, hvz, cH⟩ := zBn (x := z) (k := H) how hlen (by
    have e : A ++ (X ++ ([y] ++ R)) = (A ++ X1 ++ P1) ++ z :: (P2 ++ (X2 ++ ([y] ++ R))) := by rw [hYz]; simp only [Qb, Qc]
    rw [e]
    refine zB9 _ z _ ?_
    simp only [Qa]
    have := HA.out
    omega)
   have hx : y ∈ U := HU.out y (by simp)
   have hz : z ∈ U := HU.out z (by rw [hYz]; simp)
   have HX := hid (fun w' (h : Agree (fun b => b = g) wr w') => HCC.out.2 w' ((H0.out.trans hag).trans h) y hx z hz)
   rw [hvy, hvz] at HX
   have HLO := hid (show lt y z = false -> ∀ u ∈ X1 ++ P1 ++ [z], lt y u = false from fun h => zHy o (hYz ▸ HSX.out) h)
   have HHI := hid (show lt y z = true -> ∀ u ∈ z :: (P2 ++ X2), lt y u = true from fun h => zOw o (hYz ▸ HSX.out) h)
   have HYm := hid hYm
   have HP1 := hid hP1
   clear hY hp hq h1 h2 how hag hyl hma hlen hYz hx hz hYm hP1 hH hvy hvz
   have HFN := hid HCC.out.1
   go_upto_region 17 with (fail)
   go_region_held3 (fun w' => w'.cell? ⟨g, m, none⟩ = some (.slice ya ym yc) ∧ w'.cell? ⟨g, H, none⟩ = some (.slice za zm zc) ∧ Agree (fun b => b = g) wr w') (first | assumption | exact ⟨cm, cH, zBb _ _⟩ | exact ⟨ca2, cb2, AG2.out⟩) (first | (rw [HFN.out]; go_simp; refine (HX.out _ (zBb _ _)).mono ?_; rintro e w2 ⟨c, rfl, hc, hb2⟩; have ca2 := (hb2.cell (Qi _ _ cm)).trans cm; have cb2 := (hb2.cell (Qi _ _ cH)).trans cH; have AG2 := hid (show Agree (fun b => b = g) wr w2 from (zBb _ wr).thenBelow hb2); have HB2X := hid hb2; have HCX := hid hc; clear hb2 hc))
   have HO2 := hid (zDx (w := wr.drew) HOW.out HB2X.out)
   have HAG2 := hid (HAG.out.trans AG2.out)
   have hc := HCX.out
   clear cm cH ca2 cb2
   rw [HCX.out]
   cases hzx : lt y z with
   | false =>
    rw [hzx, decide_eq_false_iff_not] at hc
    have hc2 : (0 : Int) <= c := by omega
    have hc3 : (!decide (c < 0)) = true := by rw [decide_eq_false hc]; rfl
    have HZ := hid (HLO.out hzx)
    clear hzx
    go_wp2_with fail
    go_roundw
    case rel =>
     have h3 := HYm.out
     have h4 := HP1.out
     have h5 := HP.out
     have h6 := HQ.out
     rw [h3, Qa, Qf] at h6
     exact ⟨X1 ++ P1 ++ [z], P2, X2, H + 1, q, by go_num, rfl, by rw [HYY.out, h3]; simp only [Qb, Qc, Qd], by simp only [Qa, Qf, Qg]; omega, by omega, HZ.out, H2.out, HO2.out, HAG2.out⟩
    case measure => simp [intOf]; omega
   | true =>
    rw [hzx, decide_eq_true_eq] at hc
    have hc2 : ¬ (0 : Int) <= c := by omega
    have hc3 : (!decide (c < 0)) = false := by rw [decide_eq_true hc]; rfl
    have HZ := hid (HHI.out hzx)
    clear hzx
    go_wp2_with fail
    go_roundw
    case rel =>
     have h3 := HYm.out
     have h4 := HP1.out
     exact ⟨X1, P1, z :: (P2 ++ X2), p, H, rfl, rfl, by rw [HYY.out, h3]; simp only [Qb, Qc], HP.out, by omega, H1.out, HZ.out, HO2.out, HAG2.out⟩
    case measure => simp [intOf]; omega
  ·have hYm0 : Xm = [] := Qj.1 (by omega)
   subst hYm0
   have hqp : q = p := by rw [hq]; rfl
   subst hqp
   have hlti : ¬ (q : Int) < (q : Int) := by omega
   obtain ⟨wz, hwz⟩ : ∃ wz : World, wz = wr := ⟨_, rfl⟩
   rw [<- hwz] at HOW HAG ⊢
   rw [Qd] at HYY
   clear hwz hY hq h1 h2 how hag hyl hma
   go_wp2_with fail
   go_loopw [17] (fun k wr => ∃ (Z1 Z2 : List El) (c : Nat), k = .int .i64 (c : Int) ∧ X2 = Z1 ++ Z2 ∧ c = a + X1.length + Z1.length ∧ RowE B g n cap wr (A ++ (X1 ++ (Z1 ++ (y :: (Z2 ++ R))))) ∧ Agree (fun b => b = g) w wr) (fun k _ => (intOf k).toNat)
   case atStart =>
    refine ⟨X2, [], m, rfl, by simp, ?_, ?_, HAG.out⟩
    ·have h3 := HMA.out
     rw [HYY.out, Qa] at h3
     omega
    ·have h := HOW.out
     rw [HYY.out] at h
     simpa only [Qb, Qc, Qd] using h
   case round =>
    obtain ⟨Z1, Z2, c, rfl, hz, hc, how, hag⟩ := hrel
    have hzl := congrArg Qh hz
    rw [Qa] at hzl
    have HOWi := hid how
    have HAGi := hid hag
    have HZ := hid hz
    have HCI := hid hc
    have hpx := HP.out
    have hcm : c <= m := by
     have h3 := HMA.out
     rw [HYY.out, Qa] at h3
     omega
    by_cases hlt : q < c
    ·obtain ⟨Z3, z, rfl⟩ := zE8 (l := Z1) (by omega)
     have hlti : (q : Int) < (c : Int) := by omega
     have hlti2 : (c : Int) > (q : Int) := by omega
     obtain ⟨D, hD⟩ : ∃ D, D = c - 1 := ⟨_, rfl⟩
     have e7 : IntKind.i64.wrap ((c : Int) - 1) = (D : Int) := by rw [hD, Qe _ (by omega)]; omega
     have hc0 : (0 : Int) <= (c : Int) := by omega
     have hcn : (c : Int) < (n : Int) := by omega
     have hD0 : (0 : Int) <= (D : Int) := by omega
     have hDn : (D : Int) < (n : Int) := by omega
     have hD3 : D = a + X1.length + Z3.length := by rw [hD, hc, Qa]; simp
     have hlen : (A ++ (X1 ++ (Z3 ++ [z] ++ (y :: (Z2 ++ R))))).length = n := by
      have h3 := HN.out
      have h4 := HBB.out
      have h5 := HA.out
      have h6 := congrArg Qh HYY.out
      have h7 := HMA.out
      simp only [Qa, Qf, Qg] at *
      omega
     have eq1 : A ++ (X1 ++ (Z3 ++ [z] ++ (y :: (Z2 ++ R)))) = (A ++ X1 ++ Z3) ++ z :: ([] ++ y :: (Z2 ++ R)) := by simp only [Qb, Qc, Qd]
     obtain ⟨za, zm, zc, hvz, cD⟩ := zBn (x := z) (k := D) how hlen (by
      rw [eq1]
      exact zB9 _ z _ (by simp only [Qa]; have := HA.out; omega))
     obtain ⟨ya, ym, yc, hvy, cc⟩ := zBn (x := y) (k := c) how hlen (by
      have e : A ++ (X1 ++ (Z3 ++ [z] ++ (y :: (Z2 ++ R)))) = (A ++ X1 ++ Z3 ++ [z]) ++ y :: (Z2 ++ R) := by simp only [Qb]
      rw [e]
      exact zB9 _ y _ (by simp only [Qa, Qf, Qg] at hc ⊢; have := HA.out; omega))
     have fc := how.frozenAt c
     have fD := how.frozenAt D
     have HDD := hid hD
     have HD3 := hid hD3
     have HEQ := hid eq1
     have HVZ := hid hvz
     have HVY := hid hvy
     have hcD : c ≠ D := by omega
     have cPQ : (wr.setCell ⟨g, c, none⟩ (.slice za zm zc)).cell? ⟨g, D, none⟩ = some (.slice za zm zc) := (World.cell?_setCell_other _ _ _ _ (by simp [hcD, hcD.symm])).trans cD
     clear hz hc how hag hzl hlen hD hD3 eq1 hpx hcD hvz hvy
     go_wp2_with fail
     go_region
     go_wp2_with fail
     go_roundw
     case rel =>
      refine ⟨Z3, z :: Z2, D, by first | rfl | (have := HDD.out; go_num), by rw [HZ.out]; simp, HD3.out, zE6 (i := c) (j := D) HOWi.out HVY.out HVZ.out ?_, zD3 HAGi.out⟩
      rw [HEQ.out]
      have := zH7 (A ++ X1 ++ Z3) [] (Z2 ++ R) z y (i := D) (j := c) (by simp only [Qa]; have := HA.out; have := HD3.out; omega) (by simp only [Qa, Qg]; have := HA.out; have := HD3.out; have := HDD.out; omega)
      rw [this]
      simp only [Qb, Qc, Qd]
     case measure => have := HDD.out; simp [intOf]; omega
    ·have hz2 : Z1 = [] := Qj.1 (by omega)
     subst hz2
     have hlti : ¬ (q : Int) < (c : Int) := by omega
     have hlti2 : ¬ (c : Int) > (q : Int) := by omega
     have HF := hid (show RowE B g n cap wr (A ++ ((X1 ++ y :: X2) ++ R)) from by
      rw [hz, Qd]
      simpa only [Qb, Qc, Qd] using how)
     clear hz hc how hag hzl hpx
     go_wp2_with fail
     first | go_end0 | ((try simp only [Exit.inBlock, Exit.then]); refine bodyPost_ret (results_none rfl _ _ _) rfl ?_)
     refine ⟨rfl, X1 ++ y :: X2, ?_, ?_, HF.out, HAGi.out⟩
     ·rw [HYY.out]
      refine List.perm_middle.trans ?_
      exact (List.perm_append_comm (l₁ := [y])).trans (.refl _)
     ·exact zDw o (by rw [<- HYY.out]; exact HSX.out) H1.out H2.out
end Go.Proofs.Ytnfjdoeemnhkbaa
