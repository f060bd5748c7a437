import Derived.Test.YtnfjdoeemnhkbaaStd
import Derived.Deep.CutBlock
import Derived.Deep.DeepCutAuto
set_option linter.unusedVariables false
set_option linter.unusedSimpArgs false
set_option maxRecDepth 100000
set_option maxHeartbeats 8000000
open Go.Lib (hid)
namespace Go.Proofs.Ytnfjdoeemnhkbaa
open Go.RowKit Sy
open Go.IntWalk renaming i64_in -> Qa, u64_in -> Qh
open _root_.List renaming length_append -> Qb, append_assoc -> Qc, length_eq_zero_iff -> Qd, mem_append -> Qe, getElem?_append_right -> Qf, getElem_mem -> Qi, getElem?_append_left -> Qj, getElem?_eq_getElem -> Qk, length -> Qm, append_nil -> Qn, length_eq_one_iff -> Qo
open _root_.Nat renaming le_refl -> Qg
open Go.World renaming block_lt_of_cell? -> Ql
theorem zNw {B g n cap : Nat} {fn : FuncId} {cs : Array Value} {lt : El -> El -> Bool} {U : List El} {w0 : World} (o : Ord lt) (HC : CmpOK fn cs lt U g w0) (hn6 : n <= 1000000) (A X Y R : List El) (hX : 1 < X.length) (hY : 1 < Y.length)
  (IH : ∀ A' X' Y' R' : List El, 0 < X'.length -> 0 < Y'.length -> X'.length + Y'.length < X.length + Y.length -> SmOK B g n cap fn cs lt U w0 A' X' Y' R') : SmOK B g n cap fn cs lt U w0 A X Y R := by
 intro a m b ha hm hb hn hsx hsy hU w h0 h
 have HA := hid ha
 have HM := hid hm
 have HBB := hid hb
 have HN := hid hn
 have HSX := hid hsx
 have HSY := hid hsy
 have HU := hid hU
 have H0 := hid h0
 have HO := hid h
 have HCC := hid HC
 have HROT := hid (fun (A X Y R : List El) (a m b : Nat) (ha : a = A.length) (hm : m = a + X.length) (hb : b = m + Y.length) (hn : n = b + R.length) (hX : 0 < X.length) (hY : 0 < Y.length) (w : World) (h : RowE B g n cap w (A ++ (X ++ (Y ++ R)))) => zNt (cap := cap) A X Y R a m b ha hm hb hn hn6 hX hY (.func (.func fn) #[] cs) w h)
 have HIH := hid IH
 have hmn : m < n := by omega
 have hbn : b <= n := by omega
 obtain ⟨xl, hxl⟩ : ∃ xl, xl = X.length := ⟨_, rfl⟩
 obtain ⟨yl, hyl⟩ : ∃ yl, yl = Y.length := ⟨_, rfl⟩
 have e0 : IntKind.i64.wrap ((m : Int) - (a : Int)) = (xl : Int) := by rw [Qa _ (by omega)]; omega
 have e0b : IntKind.i64.wrap ((b : Int) - (m : Int)) = (yl : Int) := by rw [Qa _ (by omega)]; omega
 have hne : ((xl : Int) == 1) = false := by rw [beq_eq_false_iff_ne]; omega
 have hne2 : ((yl : Int) == 1) = false := by rw [beq_eq_false_iff_ne]; omega
 obtain ⟨mid, hmid⟩ : ∃ mid, mid = (a + b) / 2 := ⟨_, rfl⟩
 have hbm : b = m + yl := by omega
 have hma : m = a + xl := by omega
 have e1 : IntKind.i64.wrap ((a : Int) + (b : Int)) = (a : Int) + (b : Int) := Qa _ (by omega)
 have e2 : IntKind.u64.wrap ((a : Int) + (b : Int)) = (a : Int) + (b : Int) := Qh _ (by omega)
 have e3 : ((a : Int) + (b : Int)) / 2 = (mid : Int) := by rw [hmid]; omega
 have e4 : IntKind.i64.wrap (mid : Int) = (mid : Int) := Qa _ (by omega)
 obtain ⟨N, hN⟩ : ∃ N, N = mid + m := ⟨_, rfl⟩
 have e5 : IntKind.i64.wrap ((mid : Int) + (m : Int)) = (N : Int) := by rw [hN, Qa _ (by omega)]; omega
 obtain ⟨P, hP⟩ : ∃ P, P = N - 1 := ⟨_, rfl⟩
 have e6 : IntKind.i64.wrap ((N : Int) - 1) = (P : Int) := by rw [hP, Qa _ (by omega)]; omega
 have hmidb : a < mid ∧ mid < b := by omega
 obtain ⟨L, hL⟩ : ∃ L, L = A ++ (X ++ (Y ++ R)) := ⟨_, rfl⟩
 have HLEN := hid (show L.length = n by rw [hL]; simp only [Qb]; omega)
 have HLX := hid (show ∀ i, a <= i -> i < m -> ∃ u, L[i]? = some u ∧ u ∈ U from fun i h1 h2 => by
  have hi : i - a < X.length := by omega
  refine ⟨X[i - a], ?_, hU _ (Qe.2 (.inl (Qi hi)))⟩
  rw [hL, Qf (by omega), Qj (by omega), <- ha, Qk hi])
 have HLY := hid (show ∀ i, m <= i -> i < b -> ∃ u, L[i]? = some u ∧ u ∈ U from fun i h1 h2 => by
  have hi : i - m < Y.length := by omega
  refine ⟨Y[i - m], ?_, hU _ (Qe.2 (.inr (Qi hi)))⟩
  rw [hL, Qf (by omega), Qf (by omega), Qj (by omega), <- Qk hi]
  congr 1
  omega)
 have HFACT := hid (fun (lo hi s : Nat) (hlh : m <= mid ∧ lo = a ∧ hi = m ∨ mid < m ∧ lo + b = N ∧ hi = mid) (h1 : lo <= s) (h2 : s <= hi) (hl : s = lo ∨ ∃ u v, L[s - 1]? = some u ∧ L[N - s]? = some v ∧ lt v u = false) (hr : s = hi ∨ ∃ u v, L[s]? = some u ∧ L[N - 1 - s]? = some v ∧ lt v u = true) => zNq hL ha hm hb hmid hN hlh h1 h2 hl hr (by omega) (by omega))
 have HLL := hid hL
 have HMID := hid hmid
 have HNN := hid hN
 have HPP := hid hP
 have HXL := hid hxl
 have HYL := hid hyl
 have HBM := hid hbm
 have HMA := hid hma
 rw [<- hL] at HO
 obtain ⟨hmid1, hmid2⟩ := hmidb
 clear ha hm hb hn hsx hsy hU h0 h HC IH hmid hN hP hL hxl hyl hbm hma hX hY
 go_enter Try.func114, Try.ntmps114
 go_upto_if 140 with (fail)
 go_cut [20, 21] (fun s r wx => ∃ lo hi : Nat, s = .int .i64 (lo : Int) ∧ r = .int .i64 (hi : Int) ∧ (m <= mid ∧ lo = a ∧ hi = m ∨ mid < m ∧ lo + b = N ∧ hi = mid) ∧ wx = w)
 case first =>
  as_aux_lemma =>
   by_cases hc : mid < m
   ·have hci : (mid : Int) < (m : Int) := by omega
    have hci2 : (m : Int) > (mid : Int) := by omega
    have e7 : IntKind.i64.wrap ((N : Int) - (b : Int)) = ((N - b : Nat) : Int) := by
     have h1 := HNN.out
     have h2 := HMID.out
     rw [Qa _ (by omega)]
     omega
    go_wp2_with fail
    go_meet
    exact ⟨N - b, mid, rfl, rfl, .inr ⟨hc, by have h1 := HNN.out; have h2 := HMID.out; omega, rfl⟩, rfl⟩
   ·have hci : ¬ (mid : Int) < (m : Int) := by omega
    have hci2 : ¬ (m : Int) > (mid : Int) := by omega
    go_wp2_with fail
    go_meet
    exact ⟨a, m, rfl, rfl, .inl ⟨by omega, rfl, rfl⟩, rfl⟩
 case rest =>
  obtain ⟨lo, hi, rfl, rfl, hlh, hwx⟩ := hcut
  obtain ⟨wq, hwq⟩ : ∃ wq : World, wq = wc := ⟨_, rfl⟩
  rw [<- hwq] at hwx ⊢
  have HWX := hid hwx
  have hb1 : a <= lo ∧ lo <= hi ∧ hi <= m ∧ hi <= mid ∧ b <= N ∨ a <= lo ∧ lo <= hi ∧ hi <= m ∧ hi <= mid := by
   have h1 := HNN.out
   have h2 := HMID.out
   have h3 := HBM.out
   have h4 := HMA.out
   omega
  have hb2 : a <= lo ∧ lo <= hi ∧ hi <= m ∧ hi <= mid := by omega
  obtain ⟨hlo1, hlo2, hhi1, hhi2⟩ := hb2
  have hlow : N <= lo + b ∧ hi + m <= N := by
   have h1 := HNN.out
   have h2 := HMID.out
   have h3 := HBM.out
   have h4 := HMA.out
   omega
  obtain ⟨hlow1, hlow2⟩ := hlow
  have HLH := hid hlh
  have HNm := hid (show N <= 2 * n by have h1 := HNN.out; omega)
  clear hwq hwx hlh hb1
  go_wp2_with fail
  go_loopw [20, 21] (fun i j wr => ∃ s t : Nat, i = .int .i64 (s : Int) ∧ j = .int .i64 (t : Int) ∧ lo <= s ∧ s <= t ∧ t <= hi ∧ (s = lo ∨ ∃ u v, L[s - 1]? = some u ∧ L[N - s]? = some v ∧ lt v u = false) ∧ (t = hi ∨ ∃ u v, L[t]? = some u ∧ L[N - 1 - t]? = some v ∧ lt v u = true) ∧ RowE B g n cap wr L ∧ Agree (fun b => b = g) w wr) (fun i j _ => (intOf j).toNat - (intOf i).toNat)
  case atStart => exact ⟨lo, hi, rfl, rfl, Qg _, hlo2, Qg _, .inl rfl, .inl rfl, by rw [HWX.out]; exact HO.out, by rw [HWX.out]; exact Agree.refl _ _⟩
  case round =>
   obtain ⟨s, t, rfl, rfl, hs1, hst, ht1, hl, hr, how, hag⟩ := hrel
   have HSL := hid hl
   have HTR := hid hr
   have HOW := hid how
   have HAG := hid hag
   clear hl hr
   by_cases hlt : s < t
   ·obtain ⟨c, hc⟩ : ∃ c, c = (s + t) / 2 := ⟨_, rfl⟩
    have hsc : s <= c := by omega
    have hct : c < t := by omega
    obtain ⟨D, hD⟩ : ∃ D, D = P - c := ⟨_, rfl⟩
    have hPN := HPP.out
    have hNm := HNm.out
    have hD2 : D = N - 1 - c := by omega
    have f1 : IntKind.i64.wrap ((s : Int) + (t : Int)) = (s : Int) + (t : Int) := Qa _ (by omega)
    have f2 : IntKind.u64.wrap ((s : Int) + (t : Int)) = (s : Int) + (t : Int) := Qh _ (by omega)
    have f3 : ((s : Int) + (t : Int)) / 2 = (c : Int) := by rw [hc]; omega
    have f4 : IntKind.i64.wrap (c : Int) = (c : Int) := Qa _ (by omega)
    have f5 : IntKind.i64.wrap ((P : Int) - (c : Int)) = (D : Int) := by rw [hD, Qa _ (by omega)]; omega
    have f6 : IntKind.i64.wrap ((c : Int) + 1) = ((c + 1 : Nat) : Int) := by rw [Qa _ (by omega)]; omega
    have hlti : (s : Int) < (t : Int) := by omega
    have hc0 : (0 : Int) <= (c : Int) := by omega
    have hcn : (c : Int) < (n : Int) := by omega
    have hD0 : (0 : Int) <= (D : Int) := by omega
    have hDn : (D : Int) < (n : Int) := by omega
    obtain ⟨u, hu, huU⟩ := HLX.out c (by omega) (by omega)
    obtain ⟨v, hv, hvU⟩ := HLY.out D (by omega) (by omega)
    obtain ⟨ua, um, uc, hvu, cc⟩ := zBn (x := u) (k := c) how HLEN.out hu
    obtain ⟨va, vm, vc, hvv, cD⟩ := zBn (x := v) (k := D) how HLEN.out hv
    have HX := hid (fun w' (h : Agree (fun b => b = g) wr w') => HCC.out.2 w' ((H0.out.trans hag).trans h) v hvU u huU)
    rw [hvv, hvu] at HX
    have HUC := hid hu
    have HVD := hid hv
    have HD2 := hid hD2
    as_aux_lemma =>
     clear how hag hu hv huU hvU hD hD2 hc hPN hNm hvv hvu
     have HFN := hid HCC.out.1
     go_upto_region 35 with (fail)
     go_region_held3 (fun w' => w'.cell? ⟨g, c, none⟩ = some (.slice ua um uc) ∧ w'.cell? ⟨g, D, none⟩ = some (.slice va vm vc) ∧ Agree (fun b => b = g) wr w') (first | assumption | exact ⟨cc, cD, zBb _ _⟩ | exact ⟨ca2, cb2, AG2.out⟩) (first | (rw [HFN.out]; go_simp; refine (HX.out _ (zBb _ _)).mono ?_; rintro e w2 ⟨z, rfl, hc, hb2⟩; have ca2 := (hb2.cell (Ql _ _ cc)).trans cc; have cb2 := (hb2.cell (Ql _ _ cD)).trans cD; have AG2 := hid (show Agree (fun b => b = g) wr w2 from (zBb _ wr).thenBelow hb2); have HB2X := hid hb2; have HCX := hid hc; clear hb2 hc))
     have HO2 := hid (zDx (w := wr.drew) HOW.out HB2X.out)
     have HAG2 := hid (HAG.out.trans AG2.out)
     have hz := HCX.out
     clear cc cD ca2 cb2
     rw [HCX.out]
     cases hvu : lt v u with
     | false =>
      rw [hvu, decide_eq_false_iff_not] at hz
      have hz2 : (0 : Int) <= z := by omega
      have hz3 : (!decide (z < 0)) = true := by rw [decide_eq_false hz]; rfl
      have HV := hid hvu
      clear hvu
      go_wp2_with fail
      go_roundw
      case rel => exact ⟨c + 1, t, by go_num, rfl, by omega, by omega, ht1, .inr ⟨u, v, by rw [Nat.add_sub_cancel]; exact HUC.out, by have h1 := HD2.out; rw [show N - (c + 1) = D by omega]; exact HVD.out, HV.out⟩, HTR.out, HO2.out, HAG2.out⟩
      case measure => simp [intOf]; omega
     | true =>
      rw [hvu, decide_eq_true_eq] at hz
      have hz2 : ¬ (0 : Int) <= z := by omega
      have hz3 : (!decide (z < 0)) = false := by rw [decide_eq_true hz]; rfl
      have HV := hid hvu
      clear hvu
      go_wp2_with fail
      go_roundw
      case rel => exact ⟨s, c, rfl, rfl, hs1, by omega, by omega, HSL.out, .inr ⟨u, v, HUC.out, by rw [<- HD2.out]; exact HVD.out, HV.out⟩, HO2.out, HAG2.out⟩
      case measure => simp [intOf]; omega
   ·obtain rfl : s = t := by omega
    have hlti : ¬ (s : Int) < (s : Int) := by omega
    obtain ⟨X1, X2, Y1, Y2, hx12, hy12, hx1, hy1, hj1, hj2⟩ := HFACT.out lo hi s HLH.out hs1 ht1 HSL.out HTR.out
    obtain ⟨E, hE⟩ : ∃ E, E = N - s := ⟨_, rfl⟩
    have hNm := HNm.out
    have hem : m <= E := by omega
    have heb : E <= b := by omega
    have e7 : IntKind.i64.wrap ((N : Int) - (s : Int)) = (E : Int) := by rw [hE, Qa _ (by omega)]; omega
    have hym : m + Y1.length = E := by omega
    have hxx := congrArg Qm hx12
    have hyy := congrArg Qm hy12
    rw [Qb] at hxx hyy
    have hXL := HXL.out
    have hYL := HYL.out
    have hMA := HMA.out
    have hBM := HBM.out
    have hx2 : X2.length + s = m := by omega
    have hy2 : Y2.length + E = b := by omega
    have hmide : mid = a + X1.length + Y1.length := by have h1 := HNN.out; omega
    have hna := HA.out
    have hnn := HN.out
    have hns : n = b + R.length := by omega
    have HO3 := hid (show RowE B g n cap wr ((A ++ X1) ++ (X2 ++ (Y1 ++ (Y2 ++ R)))) from by
     have h1 := how
     rw [HLL.out, hx12, hy12] at h1
     simpa only [Qc] using h1)
    have HRT := hid (fun (hx : 0 < X2.length) (hy : 0 < Y1.length) => HROT.out (A ++ X1) X2 Y1 (Y2 ++ R) s m E (by rw [Qb]; omega) (by omega) hym.symm (by rw [Qb]; omega) hx hy wr HO3.out)
    have hsx12 : Srt lt (X1 ++ X2) := by rw [<- hx12]; exact HSX.out
    have hsy12 : Srt lt (Y1 ++ Y2) := by rw [<- hy12]; exact HSY.out
    have HR1 := hid (fun (hx : 0 < X1.length) (hy : 0 < Y1.length) => HIH.out A X1 Y1 (X2 ++ (Y2 ++ R)) hx hy (by omega) a s mid HA.out hx1.symm (by omega) (by simp only [Qb]; omega) (zAy.1 hsx12).1 (zAy.1 hsy12).1 (fun z hz => HU.out z (by rw [hx12, hy12]; rcases Qe.1 hz with h | h <;> simp [h])))
    have HR2 := hid (fun (Z1 : List El) (hz : Z1.length = X1.length + Y1.length) (hx : 0 < X2.length) (hy : 0 < Y2.length) => HIH.out (A ++ Z1) X2 Y2 R hx hy (by omega) mid E b (by rw [Qb]; omega) (by omega) (by omega) hns (zAy.1 hsx12).2.1 (zAy.1 hsy12).2.1 (fun z hz => HU.out z (by rw [hx12, hy12]; rcases Qe.1 hz with h | h <;> simp [h])))
    have HS1 := hid (show X1.length = 0 ∨ Y1.length = 0 -> Srt lt (X1 ++ Y1) from fun h => by
     rcases h with h | h
     ·rw [Qd.1 h]; exact (zAy.1 hsy12).1
     ·rw [Qd.1 h, Qn]; exact (zAy.1 hsx12).1)
    have HS2 := hid (show X2.length = 0 ∨ Y2.length = 0 -> Srt lt (X2 ++ Y2) from fun h => by
     rcases h with h | h
     ·rw [Qd.1 h]; exact (zAy.1 hsy12).2.1
     ·rw [Qd.1 h, Qn]; exact (zAy.1 hsx12).2.1)
    have HJ := hid (fun (m1 m2 : List El) (p1 : m1.Perm (X1 ++ Y1)) (p2 : m2.Perm (X2 ++ Y2)) (s1 : Srt lt m1) (s2 : Srt lt m2) => zNo o hsx12 hsy12 hj1 hj2 p1 p2 s1 s2)
    have HX12 := hid hx12
    have HY12 := hid hy12
    obtain ⟨x1l, hx1l⟩ : ∃ x1l, x1l = X1.length := ⟨_, rfl⟩
    obtain ⟨y1l, hy1l⟩ : ∃ y1l, y1l = Y1.length := ⟨_, rfl⟩
    obtain ⟨x2l, hx2l⟩ : ∃ x2l, x2l = X2.length := ⟨_, rfl⟩
    obtain ⟨y2l, hy2l⟩ : ∃ y2l, y2l = Y2.length := ⟨_, rfl⟩
    have HQ := hid (show a + x1l = s ∧ m + y1l = E ∧ x2l + s = m ∧ y2l + E = b ∧ mid = a + x1l + y1l ∧ x1l = X1.length ∧ y1l = Y1.length ∧ x2l = X2.length ∧ y2l = Y2.length by omega)
    obtain ⟨wz, hwz⟩ : ∃ wz : World, wz = wr := ⟨_, rfl⟩
    rw [<- hwz] at HO3 HRT HAG HOW
    clear how hag hx12 hy12 hx1 hy1 hj1 hj2 hE hNm hym hxx hyy hXL hYL hMA hBM hx2 hy2 hmide hna hnn hns hsx12 hsy12 hx1l hy1l hx2l hy2l hs1 ht1 hlo1 hlo2 hhi1 hhi2 hlow1 hlow2 HFACT HLX HLY HSL HTR HLH HWX
    rw [<- hwz]
    clear hwz
    as_aux_lemma =>
     go_upto_region 39 with (fail)
     go_cut [185] (fun r wx => ∃ tb : Bool, r = .bool tb ∧ (tb = true -> s < m ∧ m < E) ∧ (tb = false -> ¬ (s < m ∧ m < E)) ∧ wx = wz)
     case first =>
      as_aux_lemma =>
       by_cases hsm : s < m
       ·have h1 : (s : Int) < (m : Int) := by omega
        by_cases hme : m < E
        ·have h2 : (m : Int) < (E : Int) := by omega
         go_wp2_with fail
         go_meet
         exact ⟨true, rfl, fun _ => ⟨hsm, hme⟩, (fun h => by cases h), rfl⟩
        ·have h2 : ¬ (m : Int) < (E : Int) := by omega
         go_wp2_with fail
         go_meet
         exact ⟨false, rfl, (fun h => by cases h), fun _ h => hme h.2, rfl⟩
       ·have h1 : ¬ (s : Int) < (m : Int) := by omega
        go_wp2_with fail
        go_meet
        exact ⟨false, rfl, (fun h => by cases h), fun _ h => hsm h.1, rfl⟩
     case rest =>
     as_aux_lemma =>
      obtain ⟨tb, rfl, htb1, htb2, hwt⟩ := hcut
      obtain ⟨wy, hwy⟩ : ∃ wy : World, wy = wc := ⟨_, rfl⟩
      rw [<- hwy] at hwt ⊢
      rw [<- hwt] at HO3 HRT HAG HOW
      have HTB1 := hid htb1
      have HTB2 := hid htb2
      clear hwy hwt htb1 htb2
      go_upto_if 185 with (fail)
      go_cut [] (fun wx => RowE B g n cap wx ((A ++ X1) ++ (Y1 ++ (X2 ++ (Y2 ++ R)))) ∧ Agree (fun b => b = g) w wx)
      case first =>
       as_aux_lemma =>
        obtain ⟨q1, q2, q3, q4, q5, q6, q7, q8, q9⟩ := HQ.out
        cases tb with
        | true =>
         obtain ⟨hsm, hme⟩ := HTB1.out rfl
         have HRX := hid (HRT.out (by omega) (by omega))
         clear q1 q2 q3 q4 q5 q6 q7 q8 q9
         go_wp2_with fail
         refine HRX.out.mono ?_
         rintro e w2 ⟨rfl, h3, h4⟩
         have H3 := hid h3
         have H4 := hid h4
         clear h3 h4
         go_wp2_with fail
         go_meet
         exact ⟨H3.out, HAG.out.trans H4.out⟩
        | false =>
         have hno := HTB2.out rfl
         have H3 := hid (show RowE B g n cap wy ((A ++ X1) ++ (Y1 ++ (X2 ++ (Y2 ++ R)))) by
          have h := HO3.out
          rcases Nat.eq_zero_or_pos X2.length with h0 | h0
          ·rw [Qd.1 h0] at h ⊢; exact h
          ·have hy0 : Y1 = [] := Qd.1 (by omega)
           rw [hy0] at h ⊢; exact h)
         clear q1 q2 q3 q4 q5 q6 q7 q8 q9 hno
         go_wp2_with fail
         go_meet
         exact ⟨H3.out, HAG.out⟩
      case rest =>
       as_aux_lemma =>
        obtain ⟨how, hag⟩ := hcut
        obtain ⟨wa, hwa⟩ : ∃ wa : World, wa = wc := ⟨_, rfl⟩
        rw [<- hwa] at how hag ⊢
        have HOA := hid (show RowE B g n cap wa (A ++ (X1 ++ (Y1 ++ (X2 ++ (Y2 ++ R))))) by simpa only [Qc] using how)
        have HAGA := hid hag
        clear how hag hwa
        go_upto_region 41 with (fail)
        go_cut [199] (fun r wx => ∃ tb : Bool, r = .bool tb ∧ (tb = true -> a < s ∧ s < mid) ∧ (tb = false -> ¬ (a < s ∧ s < mid)) ∧ wx = wa)
        case first =>
         as_aux_lemma =>
          by_cases hsm : a < s
          ·have h1 : (a : Int) < (s : Int) := by omega
           by_cases hme : s < mid
           ·have h2 : (s : Int) < (mid : Int) := by omega
            go_wp2_with fail
            go_meet
            exact ⟨true, rfl, fun _ => ⟨hsm, hme⟩, (fun h => by cases h), rfl⟩
           ·have h2 : ¬ (s : Int) < (mid : Int) := by omega
            go_wp2_with fail
            go_meet
            exact ⟨false, rfl, (fun h => by cases h), fun _ h => hme h.2, rfl⟩
          ·have h1 : ¬ (a : Int) < (s : Int) := by omega
           go_wp2_with fail
           go_meet
           exact ⟨false, rfl, (fun h => by cases h), fun _ h => hsm h.1, rfl⟩
        case rest =>
        as_aux_lemma =>
         obtain ⟨tc, rfl, htb1, htb2, hwt⟩ := hcut
         obtain ⟨wv, hwv⟩ : ∃ wv : World, wv = wc := ⟨_, rfl⟩
         rw [<- hwv] at hwt ⊢
         rw [<- hwt] at HOA HAGA
         have HTC1 := hid htb1
         have HTC2 := hid htb2
         clear hwv hwt htb1 htb2
         go_upto_if 199 with (fail)
         go_cut [] (fun wx => ∃ Z1 : List El, Z1.Perm (X1 ++ Y1) ∧ Srt lt Z1 ∧ RowE B g n cap wx (A ++ (Z1 ++ (X2 ++ (Y2 ++ R)))) ∧ Agree (fun b => b = g) w wx)
         case first =>
          as_aux_lemma =>
           obtain ⟨q1, q2, q3, q4, q5, q6, q7, q8, q9⟩ := HQ.out
           cases tc with
           | true =>
            obtain ⟨hsm, hme⟩ := HTC1.out rfl
            have HRX := hid (HR1.out (by omega) (by omega) wv (H0.out.trans HAGA.out) HOA.out)
            clear q1 q2 q3 q4 q5 q6 q7 q8 q9
            go_wp2_with fail
            refine HRX.out.mono ?_
            rintro e w2 ⟨rfl, Z1, h3, h4, h5, h6⟩
            have H3 := hid h3
            have H4 := hid h4
            have H5 := hid h5
            have H6 := hid h6
            clear h3 h4 h5 h6
            go_wp2_with fail
            go_meet
            exact ⟨Z1, H3.out, H4.out, H5.out, HAGA.out.trans H6.out⟩
           | false =>
            have hno := HTC2.out rfl
            have H4 := hid (HS1.out (by omega))
            clear q1 q2 q3 q4 q5 q6 q7 q8 q9 hno
            go_wp2_with fail
            go_meet
            exact ⟨X1 ++ Y1, .refl _, H4.out, by rw [Qc]; exact HOA.out, HAGA.out⟩
         case rest =>
          as_aux_lemma =>
           obtain ⟨Z1, hz1, hz2, how, hag⟩ := hcut
           obtain ⟨wb, hwb⟩ : ∃ wb : World, wb = wc := ⟨_, rfl⟩
           rw [<- hwb] at how hag ⊢
           have HOB := hid (show RowE B g n cap wb ((A ++ Z1) ++ (X2 ++ (Y2 ++ R))) by simpa only [Qc] using how)
           have HAGB := hid hag
           have HZ1 := hid hz1
           have HZ2 := hid hz2
           have HZL := hid (show Z1.length = X1.length + Y1.length by have h := hz1.length_eq; rwa [Qb] at h)
           clear how hag hwb hz1 hz2
           have HEND := hid (fun (Z2 : List El) (hp : Z2.Perm (X2 ++ Y2)) (hs : Srt lt Z2) (w' : World) (h : RowE B g n cap w' ((A ++ Z1) ++ (Z2 ++ R))) (ha : Agree (fun b => b = g) wb w') => show ∃ Z : List El, Z.Perm (X ++ Y) ∧ Srt lt Z ∧ RowE B g n cap w' (A ++ (Z ++ R)) ∧ Agree (fun b => b = g) w w' from by
            obtain ⟨k1, k2⟩ := HJ.out Z1 Z2 HZ1.out hp HZ2.out hs
            refine ⟨Z1 ++ Z2, ?_, k1, by simpa only [Qc] using h, HAGB.out.trans ha⟩
            rw [HX12.out, HY12.out]
            exact k2)
           obtain ⟨q1, q2, q3, q4, q5, q6, q7, q8, q9⟩ := HQ.out
           by_cases has : mid < E
           ·by_cases hsm : E < b
            ·have h1 : (mid : Int) < (E : Int) := by omega
             have h2 : (E : Int) < (b : Int) := by omega
             have HRX := hid (HR2.out Z1 HZL.out (by omega) (by omega) wb (H0.out.trans HAGB.out) HOB.out)
             clear q1 q2 q3 q4 q5 q6 q7 q8 q9
             go_wp2_with fail
             refine HRX.out.mono ?_
             rintro e w2 ⟨rfl, Z2, h3, h4, h5, h6⟩
             have H3 := hid (HEND.out Z2 h3 h4 w2 h5 h6)
             clear h3 h4 h5 h6
             go_wp2_with fail
             go_end0
             exact ⟨rfl, H3.out⟩
            ·have h1 : (mid : Int) < (E : Int) := by omega
             have h2 : ¬ (E : Int) < (b : Int) := by omega
             have H4 := hid (HEND.out (X2 ++ Y2) (.refl _) (HS2.out (.inr (by omega))) wb (by rw [Qc X2]; exact HOB.out) (Agree.refl _ _))
             clear q1 q2 q3 q4 q5 q6 q7 q8 q9
             go_wp2_with fail
             go_end0
             exact ⟨rfl, H4.out⟩
           ·have h1 : ¬ (mid : Int) < (E : Int) := by omega
            have H4 := hid (HEND.out (X2 ++ Y2) (.refl _) (HS2.out (.inl (by omega))) wb (by rw [Qc X2]; exact HOB.out) (Agree.refl _ _))
            clear q1 q2 q3 q4 q5 q6 q7 q8 q9
            go_wp2_with fail
            go_end0
            exact ⟨rfl, H4.out⟩
theorem zLc {B g n cap : Nat} {fn : FuncId} {cs : Array Value} {lt : El -> El -> Bool} {U : List El} {w0 : World} (o : Ord lt) (HC : CmpOK fn cs lt U g w0) (hn6 : n <= 1000000) : ∀ (A X Y R : List El), 0 < X.length -> 0 < Y.length -> SmOK B g n cap fn cs lt U w0 A X Y R := by
 have key : ∀ (d : Nat) (A X Y R : List El), X.length + Y.length <= d -> 0 < X.length -> 0 < Y.length -> SmOK B g n cap fn cs lt U w0 A X Y R := by
  intro d
  induction d with
  | zero => intro A X Y R h1 h2 h3; omega
  | succ d ih =>
   intro A X Y R h1 h2 h3
   by_cases hx : X.length = 1
   ·obtain ⟨x, rfl⟩ := Qo.1 hx
    exact zNu o HC hn6 A Y R x
   ·by_cases hy : Y.length = 1
    ·obtain ⟨y, rfl⟩ := Qo.1 hy
     exact zNv o HC hn6 A X R y (by omega)
    ·exact zNw o HC hn6 A X Y R (by omega) (by omega) fun A' X' Y' R' h4 h5 h6 => ih A' X' Y' R' (by omega) h4 h5
 exact fun A X Y R => key _ A X Y R (Qg _)
end Go.Proofs.Ytnfjdoeemnhkbaa
