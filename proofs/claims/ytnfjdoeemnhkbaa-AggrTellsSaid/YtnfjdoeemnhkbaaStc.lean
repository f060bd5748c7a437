import Derived.Test.YtnfjdoeemnhkbaaStb
set_option linter.unusedVariables false
set_option linter.unusedSimpArgs false
set_option maxRecDepth 100000
set_option maxHeartbeats 8000000
open Go.Lib (hid)
namespace Go.Proofs.Ytnfjdoeemnhkbaa
open Go.RowKit Sy
open _root_.List renaming length_append -> Qa, append_assoc -> Qb, length_cons -> Qc, cons_append -> Qd, nil_append -> Qe, length_nil -> Qg, length -> Qh, length_eq_zero_iff -> Qi, mem_append -> Qj
open Go.IntWalk renaming i64_in -> Qf
open Go.World renaming block_lt_of_cell? -> Qk
def CmpOK (fn : FuncId) (cs : Array Value) (lt : El -> El -> Bool) (U : List El) (g : Nat) (w0 : World) : Prop :=
 (∀ args w, (callFunc fn args).run Try.prog w = .ok (.enter fn args) w) ∧ ∀ w, Agree (fun b => b = g) w0 w -> ∀ x ∈ U, ∀ y ∈ U, Calls Try.prog fn (#[x.1, y.1] ++ cs) w fun e w' => ∃ c : Int, e = .returned (.int .i64 c) ∧ decide (c < 0) = lt x y ∧ Below w.heap.size w w'
theorem zDx {B g n cap : Nat} {w w' : World} {l : List El} (h : RowE B g n cap w l) (hb : Below w.heap.size w w') : RowE B g n cap w' l :=
 ⟨zAj (X := fun _ => False) h.own ⟨hb.os, hb.tape, hb.output, hb.size, fun i hi _ => hb.block i hi⟩ (fun _ _ h => h), h.2⟩
theorem zE8 {α : Type} {l : List α} (h : 0 < l.length) : ∃ A x, l = A ++ [x] := by
 rcases List.eq_nil_or_concat l with h1 | ⟨A, x, h1⟩
 ·rw [h1] at h; simp at h
 ·exact ⟨A, x, by rw [h1, List.concat_eq_append]⟩
theorem zI9 {g n cap a b : Nat} (fv : Value) (hb : b <= a + 1) (hab : a <= 1000000) (w : World) : Calls Try.prog 113 #[.slice (some ⟨g, 0, none⟩) n cap, .int .i64 a, .int .i64 b, fv] w fun e w' => e = .returned (.tuple #[]) ∧ w' = w := by
 have e1 : IntKind.i64.wrap ((a : Int) + 1) = (a : Int) + 1 := Qf _ (by omega)
 have h1 : ¬ (a : Int) + 1 < (b : Int) := by omega
 go_enter Try.func113, Try.ntmps113
 go_wp2_with fail
 refine wp_loop_rounds 1 ?_
 rw [rounds_succ]
 go_wp2_with fail
 go_end0
 exact ⟨rfl, rfl⟩
theorem zJ3 {B g n cap : Nat} {fn : FuncId} {cs : Array Value} {lt : El -> El -> Bool} {U : List El} {w0 : World} (o : Ord lt) (HC : CmpOK fn cs lt U g w0) (A S R : List El) (a b : Nat) (ha : a = A.length) (hb : b = a + S.length) (hn : n = b + R.length) (hn6 : n <= 1000000) (hU : ∀ x ∈ S, x ∈ U) (w : World) (h0 : Agree (fun b => b = g) w0 w)
  (h : RowE B g n cap w (A ++ (S ++ R))) :
  Calls Try.prog 113 #[.slice (some ⟨g, 0, none⟩) n cap, .int .i64 a, .int .i64 b, .func (.func fn) #[] cs] w fun e w' => e = .returned (.tuple #[]) ∧ ∃ S' : List El, S'.Perm S ∧ Srt lt S' ∧ RowE B g n cap w' (A ++ (S' ++ R)) ∧ Agree (fun b => b = g) w w' := by
 rcases S with _ | ⟨s0, S0⟩
 ·refine (zI9 _ (by rw [hb]; simp) (by omega) w).mono ?_
  rintro e w' ⟨rfl, rfl⟩
  exact ⟨rfl, [], .refl _, .nil, h, Agree.refl _ _⟩
 have HA := hid ha
 have HBB := hid hb
 have HN := hid hn
 have HU := hid hU
 have H0 := hid h0
 have HO := hid h
 have HCC := hid HC
 have hbn : b <= n := by omega
 have hab : a < b := by rw [hb, Qc]; omega
 have e1 : IntKind.i64.wrap ((a : Int) + 1) = ((a + 1 : Nat) : Int) := by rw [Qf _ (by omega)]; omega
 clear ha hb hn hU h0 h HC
 go_enter Try.func113, Try.ntmps113
 go_wp2_with fail
 go_loopw [8] (fun i wr => ∃ (S1 S2 : List El) (k : Nat), i = .int .i64 (k : Int) ∧ k = a + S1.length ∧ k <= b ∧ 0 < S1.length ∧ (S1 ++ S2).Perm (s0 :: S0) ∧ Srt lt S1 ∧ RowE B g n cap wr (A ++ (S1 ++ (S2 ++ R))) ∧ Agree (fun b => b = g) w wr) (fun i _ => b - (intOf i).toNat)
 case atStart => exact ⟨[s0], S0, a + 1, rfl, rfl, hab, by simp, .refl _, List.pairwise_singleton .., HO.out, Agree.refl _ _⟩
 case round =>
  obtain ⟨S1, S2, k, rfl, hk, hkb, hs1, hp, hst, how, hag⟩ := hrel
  have HK := hid hk
  have HP := hid hp
  have HST := hid hst
  have HOW := hid how
  have HAG := hid hag
  have HS1 := hid hs1
  have hpl := hp.length_eq
  rw [Qa] at hpl
  have hbl := HBB.out
  clear hst how hag hp
  by_cases hlt : k < b
  ·obtain ⟨x, S3, rfl⟩ : ∃ x S3, S2 = x :: S3 := by
    cases S2 with
    | nil => simp at hpl hbl; omega
    | cons x r => exact ⟨x, r, rfl⟩
   have hlti : (k : Int) < (b : Int) := by omega
   clear hk hpl hbl hs1
   obtain ⟨wz, hwz⟩ : ∃ wz : World, wz = wr := ⟨_, rfl⟩
   rw [<- hwz] at HOW HAG ⊢
   clear hwz
   go_wp2_with fail
   go_loopw [9] (fun j wr => ∃ (l1 l2 : List El) (p : Nat), j = .int .i64 (p : Int) ∧ p = a + l1.length ∧ p <= k ∧ l1 ++ l2 = S1 ∧ (∀ y ∈ l2, lt x y = true) ∧ RowE B g n cap wr (A ++ (l1 ++ (x :: (l2 ++ (S3 ++ R))))) ∧ Agree (fun b => b = g) w wr) (fun j _ => (intOf j).toNat)
   case atStart => exact ⟨S1, [], k, rfl, HK.out, Nat.le_refl _, by simp, (fun y hy => by cases hy), HOW.out, HAG.out⟩
   case round =>
    obtain ⟨l1, l2, p, rfl, hp, hpk, hl, hl2, how, hag⟩ := hrel
    have HL := hid hl
    have HL2 := hid hl2
    have HOWi := hid how
    have HAGi := hid hag
    have HPP := hid hp
    have HOUT := hid (show (∀ y ∈ l1, lt x y = false) -> ∃ (S1 S2 : List El) (q : Nat), q = k + 1 ∧ q = a + S1.length ∧ q <= b ∧ 0 < S1.length ∧ (S1 ++ S2).Perm (s0 :: S0) ∧ Srt lt S1 ∧ RowE B g n cap wr (A ++ (S1 ++ (S2 ++ R))) from fun h1 => by
     have hlen := congrArg Qh hl
     rw [Qa] at hlen
     refine ⟨l1 ++ x :: l2, S3, k + 1, rfl, ?_, hlt, by rw [Qa, Qc]; omega, ?_, ?_, ?_⟩
     ·rw [Qa, Qc]; have := HK.out; omega
     ·have h2 := HP.out
      rw [<- hl] at h2
      refine List.Perm.trans ?_ h2
      simp only [Qb]
      refine List.Perm.append_left l1 ?_
      exact (List.perm_middle (l₁ := l2)).symm
     ·have h3 := HST.out
      rw [<- hl] at h3
      exact zDw o h3 h1 hl2
     ·simpa only [Qb, Qd] using how)
    rcases Nat.eq_zero_or_pos l1.length with hz | hpos
    ·have hl1 : l1 = [] := Qi.1 hz
     have HQ := hid (HOUT.out (by rw [hl1]; intro y hy; cases hy))
     have hpa : p = a := by omega
     have hg1 : ¬ (p : Int) > (a : Int) := by omega
     have hg2 : ¬ (a : Int) < (p : Int) := by omega
     clear hp hl hl2 how hag hl1 hz hpa
     go_upto_region 4 with (fail)
     go_quiet (fail)
     go_wp2_with fail
     go_roundw
     case rel =>
      obtain ⟨T1, T2, q, h1, h2, h3, h4, h5, h6, h7⟩ := HQ.out
      exact ⟨T1, T2, q, by rw [h1]; go_num, h2, h3, h4, h5, h6, h7, HAGi.out.trans (zHf _ _ _)⟩
     case measure => simp [intOf]; omega
    ·obtain ⟨l3, y, rfl⟩ := zE8 hpos
     rw [Qa] at hp
     have hp1 : p = a + l3.length + 1 := by rw [hp]; simp; omega
     obtain ⟨P, hP⟩ : ∃ P, P = a + l3.length := ⟨_, rfl⟩
     have e2 : IntKind.i64.wrap ((p : Int) - 1) = (P : Int) := by rw [hP, Qf _ (by omega)]; omega
     have hg1 : (p : Int) > (a : Int) := by omega
     have hg2 : (a : Int) < (p : Int) := by omega
     have hp0 : (0 : Int) <= (p : Int) := by omega
     have hP0 : (0 : Int) <= (P : Int) := by omega
     have hpn : (p : Int) < (n : Int) := by omega
     have hPn : (P : Int) < (n : Int) := by omega
     have hxs : x ∈ U := HU.out x (HP.out.mem_iff.1 (Qj.2 (.inr List.mem_cons_self)))
     have hys : y ∈ U := HU.out y (HP.out.mem_iff.1 (Qj.2 (.inl (by rw [<- hl]; simp))))
     have hlen : (A ++ (l3 ++ [y] ++ (x :: (l2 ++ (S3 ++ R))))).length = n := by
      have h1 := HP.out.length_eq
      have h2 := congrArg Qh hl
      have h3 := HN.out
      have h4 := HBB.out
      have h5 := HA.out
      simp only [Qa, Qc, Qg] at h1 h2 h4 ⊢
      omega
     have eq1 : A ++ (l3 ++ [y] ++ (x :: (l2 ++ (S3 ++ R)))) = (A ++ l3) ++ y :: ([] ++ x :: (l2 ++ (S3 ++ R))) := by simp only [Qb, Qd, Qe]
     obtain ⟨ya, ym, yc, hvy, cP⟩ := zBn (x := y) (k := P) how hlen (by
      rw [eq1]
      exact zB9 (A ++ l3) y _ (by rw [Qa, <- HA.out]; exact hP))
     obtain ⟨xa, xm, xc, hvx, cp⟩ := zBn (x := x) (k := p) how hlen (by
      have e : A ++ (l3 ++ [y] ++ (x :: (l2 ++ (S3 ++ R)))) = (A ++ l3 ++ [y]) ++ x :: (l2 ++ (S3 ++ R)) := by simp only [Qb]
      rw [e]
      exact zB9 _ x _ (by simp only [Qa, Qc, Qg]; have := HA.out; omega))
     have HX := hid (fun w' (h : Agree (fun b => b = g) wr w') => HCC.out.2 w' ((H0.out.trans hag).trans h) x hxs y hys)
     rw [hvx, hvy] at HX
     have HVX := hid hvx
     have HVY := hid hvy
     have HSL := hid (show lt x y = false -> ∀ z ∈ l3 ++ [y], lt x z = false from fun h1 => by
      have h3 := HST.out
      rw [<- hl] at h3
      have h4 := (zAy.1 h3).1
      exact zHy o (A := l3) (B := []) h4 h1)
     have HEQ := hid eq1
     have HP1 := hid hP
     have HP2 := hid hp1
     have HLEN := hid hlen
     have HFN := hid HCC.out.1
     clear hp hl hl2 how hag hxs hys hlen eq1 hP hpos hvx hvy hp1
     go_upto_region 4 with (fail)
     go_region_held3 (fun w' => w'.cell? ⟨g, p, none⟩ = some (.slice xa xm xc) ∧ w'.cell? ⟨g, P, none⟩ = some (.slice ya ym yc) ∧ Agree (fun b => b = g) wr w') (first | assumption | exact ⟨cp, cP, zBb _ _⟩ | exact ⟨cp2, cP2, AG2.out⟩) (first | (rw [HFN.out]; go_simp; refine (HX.out _ (zBb _ _)).mono ?_; rintro e w2 ⟨c, rfl, hc, hb2⟩; have cp2 := (hb2.cell (Qk _ _ cp)).trans cp; have cP2 := (hb2.cell (Qk _ _ cP)).trans cP; have AG2 := hid (show Agree (fun b => b = g) wr w2 from (zBb _ wr).thenBelow hb2); have HB2X := hid hb2; have HCX := hid hc; clear hb2 hc))
     have HO2 := hid (zDx (w := wr.drew) HOWi.out HB2X.out)
     have HAG2 := hid (HAGi.out.trans AG2.out)
     have hc := HCX.out
     cases hxy : lt x y with
     | false =>
      rw [hxy, decide_eq_false_iff_not] at hc
      have HQ := hid (HOUT.out (HSL.out hxy))
      clear hxy
      go_wp2_with fail
      go_roundw
      case rel =>
       obtain ⟨T1, T2, q, h1, h2, h3, h4, h5, h6, h7⟩ := HQ.out
       exact ⟨T1, T2, q, by rw [h1]; go_num, h2, h3, h4, h5, h6, zDx (w := wr.drew) h7 HB2X.out, HAG2.out⟩
      case measure => simp [intOf]; omega
     | true =>
      rw [hxy, decide_eq_true_eq] at hc
      have HXY := hid hxy
      have fP := HO2.out.frozenAt P
      have fp := HO2.out.frozenAt p
      have hPp : p ≠ P := by have := HP1.out; have := HP2.out; omega
      have cPp : (w2.setCell ⟨g, p, none⟩ (.slice ya ym yc)).cell? ⟨g, P, none⟩ = some (.slice ya ym yc) := (World.cell?_setCell_other _ _ _ _ (by simp [hPp, hPp.symm])).trans cP2
      clear hxy cP cp hPp
      go_wp2_with fail
      go_region
      go_wp2_with fail
      go_roundw
      case rel =>
       refine ⟨l3, y :: l2, P, ?_, HP1.out, by have := HP1.out; have := HP2.out; omega, ?_, ?_, ?_, zD3 HAG2.out⟩
       ·first | rfl | (have := HP1.out; have := HP2.out; go_num)
       ·have := HL.out
        simpa only [Qb, Qd, Qe] using this
       ·intro z hz
        rcases List.mem_cons.1 hz with rfl | hz
        ·exact HXY.out
        ·exact HL2.out z hz
       ·refine zE6 (i := p) (j := P) HO2.out HVX.out HVY.out ?_
        rw [HEQ.out]
        have := zH7 (A ++ l3) [] (l2 ++ (S3 ++ R)) y x (i := P) (j := p) (by rw [Qa, <- HA.out]; exact HP1.out) (by rw [Qa, Qg, <- HA.out]; have := HP2.out; omega)
        rw [this]
        simp only [Qb, Qd, Qe]
      case measure => have := HP1.out; have := HP2.out; simp [intOf]; omega
  ·have hkb2 : k = b := by omega
   have h2 : S2 = [] := Qi.1 (by omega)
   subst h2
   have hlti : ¬ (k : Int) < (b : Int) := by omega
   clear hk hpl hbl hs1
   go_wp2_with fail
   go_end0
   refine ⟨rfl, S1, ?_, HST.out, ?_, HAG.out⟩
   ·have := HP.out
    rwa [List.append_nil] at this
   ·have := HOW.out
    rwa [Qe] at this
end Go.Proofs.Ytnfjdoeemnhkbaa
