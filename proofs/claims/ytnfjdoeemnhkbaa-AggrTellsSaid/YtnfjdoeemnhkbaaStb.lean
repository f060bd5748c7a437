import Derived.Test.YtnfjdoeemnhkbaaAgr
import Derived.Test.YtnfjdoeemnhkbaaAgm
import Derived.BigRegion
import Derived.BigQuiet
import Derived.Deep.RegionLaw
import Derived.Deep.RegionHeld3
set_option linter.unusedVariables false
set_option linter.unusedSimpArgs false
set_option maxRecDepth 100000
set_option maxHeartbeats 8000000
open Go.Lib (hid)
namespace Go.Proofs.Ytnfjdoeemnhkbaa
open Go.RowKit Sy
open _root_.List renaming length_append -> Qa, append_assoc -> Qc, map_set -> Qd, mem_or_eq_of_mem_set -> Qe, length_eq_zero_iff -> Qf, append_nil -> Qg, length -> Qh, length_nil -> Qi, nil_append -> Qj
open Go.IntWalk renaming i64_in -> Qb
def RowE (B g n cap : Nat) (w : World) (l : List El) : Prop := w.ownsRow B 33 1 (.slice (some ⟨g, 0, none⟩) n cap) n (l.map Prod.fst) ∧ ∀ x ∈ l, ∃ a m c, x.1 = .slice a m c
theorem zPq {l : List El} {x : El} {k : Nat} (h : l[k]? = some x) : (l.map Prod.fst)[k]? = some x.1 := by rw [List.getElem?_map, h]; rfl
theorem RowE.own {B g n cap : Nat} {w : World} {l : List El} (h : RowE B g n cap w l) : w.ownsRow B 33 1 (.slice (some ⟨g, 0, none⟩) n cap) n (l.map Prod.fst) := h.1
theorem RowE.frozenAt {B g n cap : Nat} {w : World} {l : List El} (h : RowE B g n cap w l) (k : Nat) : w.frozen? ⟨g, k, none⟩ = false := h.own.frozenAt k
theorem zBn {B g n cap k : Nat} {w : World} {l : List El} {x : El} (h : RowE B g n cap w l) (hn : l.length = n) (hk : l[k]? = some x) : ∃ a m c, x.1 = .slice a m c ∧ w.cell? ⟨g, k, none⟩ = some (.slice a m c) := by
 have hlt := (List.getElem?_eq_some_iff.1 hk).1
 obtain ⟨a, m, c, hv⟩ := h.2 x (List.mem_of_getElem? hk)
 exact ⟨a, m, c, hv, by rw [<- hv]; exact (h.own.cellAt k (by omega)).trans (zPq hk)⟩
theorem zE6 {B g n cap i j k : Nat} {w : World} {l l' : List El} {x y : El} {a1 a2 : Option Addr} {m1 m2 c1 c2 : Nat} (h : RowE B g n cap w l) (hx : x.1 = .slice a1 m1 c1) (hy : y.1 = .slice a2 m2 c2) (hl : (l.set i y).set j x = l') :
  RowE B g n cap (((w.setCell ⟨g, i, none⟩ (.slice a2 m2 c2)).setCell ⟨g, j, none⟩ (.slice a1 m1 c1)).drewN k) l' := by
 have h2 := ((h.own.stored i y.1).1.stored j x.1).1
 rw [<- hl]
 refine ⟨?_, fun z hz => ?_⟩
 ·rw [Qd, Qd, <- hx, <- hy]
  exact h2
 ·rcases Qe hz with hz | rfl
  ·rcases Qe hz with hz | rfl
   ·exact h.2 z hz
   ·exact ⟨_, _, _, hy⟩
  ·exact ⟨_, _, _, hx⟩
theorem zD3 {g i j k : Nat} {w wr : World} {x y : Value} (h : Agree (fun b => b = g) w wr) : Agree (fun b => b = g) w (((wr.setCell ⟨g, i, none⟩ y).setCell ⟨g, j, none⟩ x).drewN k) :=
 ((h.set ⟨g, i, none⟩ y (.inl rfl)).set ⟨g, j, none⟩ x (.inl rfl)).trans (zHf _ _ _)
theorem zE7 {B g n cap : Nat} (A X M Y R : List El) (a b k : Nat) (ha : a = A.length) (hk : k = X.length) (hk2 : k = Y.length) (hb : b = A.length + X.length + M.length) (hn : n = A.length + X.length + M.length + Y.length + R.length) (hn6 : n <= 1000000) (fv : Value) (w : World)
  (h : RowE B g n cap w (A ++ (X ++ (M ++ (Y ++ R))))) :
  Calls Try.prog 132 #[.slice (some ⟨g, 0, none⟩) n cap, .int .i64 a, .int .i64 b, .int .i64 k, fv] w fun e w' => e = .returned (.tuple #[]) ∧ RowE B g n cap w' (A ++ (Y ++ (M ++ (X ++ R)))) ∧ Agree (fun b => b = g) w w' := by
 have HA := hid ha
 have HK := hid hk
 have HK2 := hid hk2
 have HBB := hid hb
 have HN := hid hn
 have HO := hid h
 have hbk : b + k <= n := by omega
 have hab : a + k <= b := by omega
 clear ha hk hk2 hb hn h
 go_enter Try.func132, Try.ntmps132
 go_wp2_with fail
 go_loopw [10] (fun i wr => ∃ (q : Nat) (X1 X2 Y1 Y2 : List El), i = .int .i64 (q : Int) ∧ q <= k ∧ X = X1 ++ X2 ∧ Y = Y1 ++ Y2 ∧ X1.length = q ∧ Y1.length = q ∧ RowE B g n cap wr (A ++ (Y1 ++ (X2 ++ (M ++ (X1 ++ (Y2 ++ R)))))) ∧ Agree (fun b => b = g) w wr) (fun i _ => k - (intOf i).toNat)
 case atStart => exact ⟨0, [], X, [], Y, rfl, Nat.zero_le _, rfl, rfl, rfl, rfl, HO.out, Agree.refl _ _⟩
 case round =>
  obtain ⟨q, X1, X2, Y1, Y2, rfl, hq, hX, hY, hx1, hy1, how, hag⟩ := hrel
  have hxl : X1.length + X2.length = k := by rw [HK.out, hX, Qa]
  have hyl : Y1.length + Y2.length = k := by rw [HK2.out, hY, Qa]
  have HX := hid hX
  have HY := hid hY
  have HX1 := hid hx1
  have HY1 := hid hy1
  have HOW := hid how
  have HAG := hid hag
  by_cases hlt : q < k
  ·obtain ⟨x, X3, hX3⟩ : ∃ x X3, X2 = x :: X3 := by
    cases X2 with
    | nil => simp at hxl; omega
    | cons x r => exact ⟨x, r, rfl⟩
   obtain ⟨y, Y3, hY3⟩ : ∃ y Y3, Y2 = y :: Y3 := by
    cases Y2 with
    | nil => simp at hyl; omega
    | cons x r => exact ⟨x, r, rfl⟩
   have HX3 := hid hX3
   have HY3 := hid hY3
   obtain ⟨P, hP⟩ : ∃ P, P = a + q := ⟨_, rfl⟩
   obtain ⟨Q, hQ⟩ : ∃ Q, Q = b + q := ⟨_, rfl⟩
   have HP := hid hP
   have HQ := hid hQ
   have e1 : IntKind.i64.wrap ((a : Int) + (q : Int)) = (P : Int) := by rw [hP, Qb _ (by omega)]; omega
   have e2 : IntKind.i64.wrap ((b : Int) + (q : Int)) = (Q : Int) := by rw [hQ, Qb _ (by omega)]; omega
   have hP0 : (0 : Int) <= (P : Int) := by omega
   have hQ0 : (0 : Int) <= (Q : Int) := by omega
   have hPn : (P : Int) < (n : Int) := by omega
   have hQn : (Q : Int) < (n : Int) := by omega
   have hlti : (q : Int) < (k : Int) := by omega
   have hlen : (A ++ (Y1 ++ (X2 ++ (M ++ (X1 ++ (Y2 ++ R)))))).length = n := by simp only [Qa]; have := HN.out; have := HK.out; have := HK2.out; omega
   obtain ⟨xa, xm, xc, hvx, cP⟩ := zBn (x := x) (k := P) how hlen (by
    rw [hX3, <- Qc]
    exact zB9 (A ++ Y1) x _ (by rw [Qa, HY1.out, <- HA.out]; exact hP))
   obtain ⟨ya, ym, yc, hvy, cQ⟩ := zBn (x := y) (k := Q) how hlen (by
    have e : A ++ (Y1 ++ (X2 ++ (M ++ (X1 ++ (Y2 ++ R))))) = (A ++ Y1 ++ X2 ++ M ++ X1) ++ y :: (Y3 ++ R) := by rw [hY3]; simp only [Qc, List.cons_append]
    rw [e]
    exact zB9 _ y _ (by simp only [Qa]; have := HBB.out; have := HK.out; omega))
   have fP := how.frozenAt P
   have fQ := how.frozenAt Q
   have HVX := hid hvx
   have HVY := hid hvy
   have hPQ : P ≠ Q := by omega
   have cPQ : (wr.setCell ⟨g, P, none⟩ (.slice ya ym yc)).cell? ⟨g, Q, none⟩ = some (.slice ya ym yc) := (World.cell?_setCell_other _ _ _ _ (by simp [hPQ, hPQ.symm])).trans cQ
   clear hX hY hx1 hy1 hX3 hY3 hP hQ how hag hxl hyl hlen hPQ hvx hvy
   go_wp2_with fail
   go_region
   go_wp2_with fail
   go_roundw
   case rel =>
    refine ⟨q + 1, X1 ++ [x], X3, Y1 ++ [y], Y3, by go_num, by omega, by rw [HX.out, HX3.out]; simp, by rw [HY.out, HY3.out]; simp, by rw [Qa, HX1.out]; rfl, by rw [Qa, HY1.out]; rfl, ?_, zD3 HAG.out⟩
    refine zE6 HOW.out HVX.out HVY.out ?_
    rw [HX3.out, HY3.out]
    have hkx := HK.out
    rw [HX.out, HX3.out, Qa, List.length_cons, HX1.out] at hkx
    have hbx := HBB.out
    rw [<- HK.out] at hbx
    exact zLb A Y1 X3 M X1 Y3 R x y (by rw [HY1.out, <- HA.out]; exact HP.out) (by rw [HY1.out, HX1.out, HQ.out, hbx]; omega)
   case measure => simp [intOf]; omega
  ·have hqk : q = k := by omega
   have h1 : X2 = [] := Qf.1 (by omega)
   have h2 : Y2 = [] := Qf.1 (by omega)
   have hlti : ¬ (q : Int) < (k : Int) := by omega
   have HO2 := hid (show RowE B g n cap wr (A ++ (Y ++ (M ++ (X ++ R)))) from by
    rw [hX, hY, h1, h2, Qg, Qg]
    rw [h1, h2] at how
    exact how)
   clear hX hY hx1 hy1 how hag hxl hyl h1 h2
   go_wp2_with fail
   go_end0
   exact ⟨rfl, HO2.out, HAG.out⟩
theorem zNt {B g n cap : Nat} (A X Y R : List El) (a m b : Nat) (ha : a = A.length) (hm : m = a + X.length) (hb : b = m + Y.length) (hn : n = b + R.length) (hn6 : n <= 1000000) (hX : 0 < X.length) (hY : 0 < Y.length) (fv : Value) (w : World)
  (h : RowE B g n cap w (A ++ (X ++ (Y ++ R)))) :
  Calls Try.prog 125 #[.slice (some ⟨g, 0, none⟩) n cap, .int .i64 a, .int .i64 m, .int .i64 b, fv] w fun e w' => e = .returned (.tuple #[]) ∧ RowE B g n cap w' (A ++ (Y ++ (X ++ R))) ∧ Agree (fun b => b = g) w w' := by
 have HA := hid ha
 have HM := hid hm
 have HN := hid (show n = A.length + X.length + Y.length + R.length by omega)
 have HO := hid h
 have e1 : IntKind.i64.wrap ((m : Int) - (a : Int)) = (X.length : Int) := by rw [Qb _ (by omega)]; omega
 have e2 : IntKind.i64.wrap ((b : Int) - (m : Int)) = (Y.length : Int) := by rw [Qb _ (by omega)]; omega
 have hmn : m <= n := by omega
 clear ha hm hb hn h
 go_enter Try.func125, Try.ntmps125
 go_wp2_with fail
 go_loopw [10, 11] (fun i j wr => ∃ (U V D1 D2 : List El), i = .int .i64 (U.length : Int) ∧ j = .int .i64 (V.length : Int) ∧ 0 < U.length ∧ 0 < V.length ∧ D1 ++ (V ++ (U ++ D2)) = Y ++ X ∧ m = A.length + D1.length + U.length ∧ D1.length + U.length + V.length + D2.length = X.length + Y.length ∧ RowE B g n cap wr (A ++ (D1 ++ (U ++ (V ++ (D2 ++ R))))) ∧ Agree (fun b => b = g) w wr) (fun i j _ => (intOf i).toNat + (intOf j).toNat)
 case atStart => exact ⟨X, Y, [], [], rfl, rfl, hX, hY, by simp, by rw [HM.out, HA.out]; simp, by simp, HO.out, Agree.refl _ _⟩
 case round =>
  obtain ⟨U, V, D1, D2, rfl, rfl, hU, hV, hD, hm, hl, how, hag⟩ := hrel
  obtain ⟨i, hi⟩ : ∃ i, i = U.length := ⟨_, rfl⟩
  obtain ⟨j, hj⟩ : ∃ j, j = V.length := ⟨_, rfl⟩
  rw [<- hi] at hU ⊢
  rw [<- hj] at hV ⊢
  have HI := hid hi
  have HJ := hid hj
  have HD := hid hD
  have HMM := hid hm
  have HL := hid hl
  have HOW := hid how
  have HAG := hid hag
  obtain ⟨P, hP⟩ : ∃ P, P = m - i := ⟨_, rfl⟩
  have e3 : IntKind.i64.wrap ((m : Int) - (i : Int)) = (P : Int) := by rw [hP, Qb _ (by omega)]; omega
  have hPA : P = (A ++ D1).length := by rw [Qa]; omega
  have HP := hid hPA
  have hnn := HN.out
  rcases Nat.lt_trichotomy i j with hc | hc | hc
  ·obtain ⟨V1, V2, hV12, hV1⟩ := zDl (l := V) (k := j - i) (by omega)
   have hV2 : V2.length = i := by have := congrArg Qh hV12; rw [Qa] at this; omega
   obtain ⟨Q, hQ⟩ : ∃ Q, Q = m + j - i := ⟨_, rfl⟩
   have e4 : IntKind.i64.wrap ((m : Int) + (j : Int)) = ((m + j : Nat) : Int) := by rw [Qb _ (by omega)]; omega
   have e4b : IntKind.i64.wrap ((m : Int) + (j : Int) - (i : Int)) = (Q : Int) := by rw [hQ, Qb _ (by omega)]; omega
   have e4c : IntKind.i64.wrap (((m + j : Nat) : Int) - (i : Int)) = (Q : Int) := by rw [hQ, Qb _ (by omega)]; omega
   have e4d : IntKind.i64.wrap ((m : Int) + (j : Int)) = (m : Int) + (j : Int) := by rw [Qb _ (by omega)]
   have e5 : IntKind.i64.wrap ((j : Int) - (i : Int)) = ((j - i : Nat) : Int) := by rw [Qb _ (by omega)]; omega
   have HC := hid (fun w' (h : RowE B g n cap w' (A ++ D1 ++ (U ++ (V1 ++ (V2 ++ (D2 ++ R)))))) => zE7 (cap := cap) (A ++ D1) U V1 V2 (D2 ++ R) P Q i hPA hi hV2.symm (by rw [<- hPA, hQ]; omega) (by simp only [Qa]; omega) hn6 fv w' h)
   have HO2 := hid (show RowE B g n cap wr (A ++ D1 ++ (U ++ (V1 ++ (V2 ++ (D2 ++ R))))) from by
    rw [hV12] at how
    simpa only [Qc] using how)
   have hne : ((i : Int) == (j : Int)) = false := by rw [beq_eq_false_iff_ne]; omega
   have hne2 : ((i : Int) != (j : Int)) = true := by rw [bne, hne]; rfl
   have hng : ¬ (i : Int) > (j : Int) := by omega
   have hng2 : ¬ (j : Int) < (i : Int) := by omega
   have HV12 := hid hV12
   have HV1 := hid hV1
   have HV2 := hid hV2
   have hij : i < j := hc
   clear hi hj hD hm hl how hag hP hPA hV12 hV1 hV2 hQ hnn hc e1 e2
   go_wp2_with fail
   refine (HC.out _ HO2.out).mono ?_
   rintro e w2 ⟨rfl, how2, hag2⟩
   have HOW2 := hid how2
   have HAG2 := hid hag2
   clear how2 hag2
   go_wp2_with fail
   go_roundw
   case rel =>
    have hv1 := HV1.out
    have hv2 := HV2.out
    have hmm := HMM.out
    have hll := HL.out
    have hii := HI.out
    have hjj := HJ.out
    refine ⟨V2, V1, D1, U ++ D2, by rw [hv2], by rw [hv1], by omega, by omega, ?_, by omega, by rw [Qa]; omega, ?_, HAG.out.trans HAG2.out⟩
    ·rw [<- HD.out, HV12.out]; simp only [Qc]
    ·have h := HOW2.out
     simp only [Qc] at h ⊢
     exact h
   case measure => simp [intOf]; omega
  ·subst hc
   have HC := hid (fun w' (h : RowE B g n cap w' (A ++ D1 ++ (U ++ ([] ++ (V ++ (D2 ++ R)))))) => zE7 (cap := cap) (A ++ D1) U [] V (D2 ++ R) P m i hPA hi hj (by rw [<- hPA, Qi]; omega) (by simp only [Qa, Qi]; omega) hn6 fv w' h)
   have HO2 := hid (show RowE B g n cap wr (A ++ D1 ++ (U ++ ([] ++ (V ++ (D2 ++ R))))) from by
    simpa only [Qc, Qj] using how)
   clear hi hj hD hm hl how hag hP hPA hnn e1 e2
   go_wp2_with fail
   refine (HC.out _ HO2.out).mono ?_
   rintro e w2 ⟨rfl, how2, hag2⟩
   have HOW2 := hid how2
   have HAG2 := hid hag2
   clear how2 hag2
   go_wp2_with fail
   go_end0
   refine ⟨rfl, ?_, HAG.out.trans HAG2.out⟩
   have h := HOW2.out
   have h2 := HD.out
   have e : A ++ (Y ++ (X ++ R)) = A ++ D1 ++ (V ++ ([] ++ (U ++ (D2 ++ R)))) := by
    rw [<- Qc Y X R, <- h2]
    simp only [Qc, Qj]
   rw [e]
   exact h
  ·obtain ⟨U1, U2, hU12, hU1⟩ := zDl (l := U) (k := j) (by omega)
   have hU2 : U2.length = i - j := by have := congrArg Qh hU12; rw [Qa] at this; omega
   have e5 : IntKind.i64.wrap ((i : Int) - (j : Int)) = ((i - j : Nat) : Int) := by rw [Qb _ (by omega)]; omega
   have HC := hid (fun w' (h : RowE B g n cap w' (A ++ D1 ++ (U1 ++ (U2 ++ (V ++ (D2 ++ R)))))) => zE7 (cap := cap) (A ++ D1) U1 U2 V (D2 ++ R) P m j hPA hU1.symm hj (by rw [<- hPA]; omega) (by simp only [Qa]; omega) hn6 fv w' h)
   have HO2 := hid (show RowE B g n cap wr (A ++ D1 ++ (U1 ++ (U2 ++ (V ++ (D2 ++ R))))) from by
    rw [hU12] at how
    simpa only [Qc] using how)
   have hne : ((i : Int) == (j : Int)) = false := by rw [beq_eq_false_iff_ne]; omega
   have hne2 : ((i : Int) != (j : Int)) = true := by rw [bne, hne]; rfl
   have hng : (i : Int) > (j : Int) := by omega
   have hng2 : (j : Int) < (i : Int) := by omega
   have HU12 := hid hU12
   have HU1 := hid hU1
   have HU2 := hid hU2
   have hij : j < i := hc
   clear hi hj hD hm hl how hag hP hPA hU12 hU1 hU2 hnn hc e1 e2
   go_wp2_with fail
   refine (HC.out _ HO2.out).mono ?_
   rintro e w2 ⟨rfl, how2, hag2⟩
   have HOW2 := hid how2
   have HAG2 := hid hag2
   clear how2 hag2
   go_wp2_with fail
   go_roundw
   case rel =>
    have hv1 := HU1.out
    have hv2 := HU2.out
    have hmm := HMM.out
    have hll := HL.out
    have hii := HI.out
    have hjj := HJ.out
    refine ⟨U2, U1, D1 ++ V, D2, by rw [hv2], by rw [hv1], by omega, by omega, ?_, by rw [Qa]; omega, by rw [Qa]; omega, ?_, HAG.out.trans HAG2.out⟩
    ·rw [<- HD.out, HU12.out]; simp only [Qc]
    ·have h := HOW2.out
     simp only [Qc] at h ⊢
     exact h
   case measure => simp [intOf]; omega
end Go.Proofs.Ytnfjdoeemnhkbaa
