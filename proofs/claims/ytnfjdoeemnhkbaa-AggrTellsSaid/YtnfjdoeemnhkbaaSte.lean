import Derived.Test.YtnfjdoeemnhkbaaStm
set_option linter.unusedVariables false
set_option linter.unusedSimpArgs false
set_option maxRecDepth 100000
set_option maxHeartbeats 8000000
open Go.Lib (hid)
namespace Go.Proofs.Ytnfjdoeemnhkbaa
open Go.RowKit Sy
open _root_.List renaming length_append -> Qa, length -> Qb, append_assoc -> Qd, append_nil -> Qe, length_nil -> Qf, mem_append -> Qg
open Go.IntWalk renaming i64_in -> Qc
theorem zJ4 {B g n cap : Nat} {fn : FuncId} {cs : Array Value} {lt : El -> El -> Bool} {U : List El} {w0 : World} (o : Ord lt) (HC : CmpOK fn cs lt U g w0) (hn6 : n <= 1000000) (E : List El) (hn : n = E.length) (hU : ∀ x ∈ E, x ∈ U) (w : World) (h0 : Agree (fun b => b = g) w0 w) (h : RowE B g n cap w E) :
  Calls Try.prog 86 #[.slice (some ⟨g, 0, none⟩) n cap, .int .i64 n, .func (.func fn) #[] cs] w fun e w' => e = .returned (.tuple #[]) ∧ ∃ Z : List El, Z.Perm E ∧ Srt lt Z ∧ RowE B g n cap w' Z ∧ Agree (fun b => b = g) w w' := by
 have HN := hid hn
 have HU := hid hU
 have H0 := hid h0
 have HO := hid h
 have HINS := hid (fun (A S R : List El) (a b : Nat) (ha : a = A.length) (hb : b = a + S.length) (hn : n = b + R.length) (hU : ∀ x ∈ S, x ∈ U) (w : World) (h0 : Agree (fun b => b = g) w0 w) (h : RowE B g n cap w (A ++ (S ++ R))) => zJ3 o HC A S R a b ha hb hn hn6 hU w h0 h)
 have HSM := hid (fun (A X Y R : List El) (hX : 0 < X.length) (hY : 0 < Y.length) => zLc (n := n) (cap := cap) (B := B) o HC hn6 A X Y R hX hY)
 clear hn hU h0 h HC
 go_enter Try.func86, Try.ntmps86
 go_wp2_with fail
 go_loopw [7, 8] (fun a b wr => ∃ (D T : List El) (k p : Nat), a = .int .i64 (p : Int) ∧ b = .int .i64 ((p + 20 : Nat) : Int) ∧ p = D.length ∧ p = k * 20 ∧ D.length + T.length = n ∧ (D ++ T).Perm E ∧ SrtB lt 20 D ∧ RowE B g n cap wr (D ++ T) ∧ Agree (fun b => b = g) w wr) (fun a b _ => n - (intOf a).toNat)
 case atStart => exact ⟨[], E, 0, 0, rfl, rfl, rfl, rfl, by rw [Qf, HN.out]; omega, .refl _, zI8 _ _, HO.out, Agree.refl _ _⟩
 case round =>
  obtain ⟨D, T, k, p, rfl, rfl, hp, hk, hl, hpe, hsb, how, hag⟩ := hrel
  have HP := hid hp
  have HK := hid hk
  have HL := hid hl
  have HPE := hid hpe
  have HSB := hid hsb
  have HOW := hid how
  have HAG := hid hag
  obtain ⟨p20, hp20⟩ : ∃ p20, p20 = p + 20 := ⟨_, rfl⟩
  rw [<- hp20]
  have HP20 := hid hp20
  have hpn : p <= n := by omega
  have e1 : IntKind.i64.wrap ((p20 : Int) + 20) = ((p20 + 20 : Nat) : Int) := by rw [Qc _ (by omega)]; omega
  by_cases hlt : p20 <= n
  ·obtain ⟨C, T', hT, hC⟩ := zDl (l := T) (k := 20) (by omega)
   have hlti : (p20 : Int) <= (n : Int) := by omega
   have hTl := congrArg Qb hT
   rw [Qa] at hTl
   have HI := hid (HINS.out D C T' p p20 hp (by omega) (by omega) (fun x hx => HU.out x (hpe.mem_iff.1 (by rw [hT]; simp [hx]))) wr (H0.out.trans hag) (by rw [hT] at how; exact how))
   have HT := hid hT
   have HC20 := hid hC
   clear hp hk hl hpe hsb how hag hp20 hT hC hTl
   go_wp2_with fail
   refine HI.out.mono ?_
   rintro e w2 ⟨rfl, S', hs1, hs2, hs3, hs4⟩
   have HS1 := hid hs1
   have HS2 := hid hs2
   have HS3 := hid hs3
   have HS4 := hid hs4
   clear hs1 hs2 hs3 hs4
   go_wp2_with fail
   go_roundw
   case rel =>
    have h1 := HP.out
    have h2 := HP20.out
    have h3 := HS1.out.length_eq
    have h4 := HC20.out
    have h5 := HT.out
    have h6 := HL.out
    have h7 := HK.out
    have h8 := congrArg Qb h5
    rw [Qa] at h8
    refine ⟨D ++ S', T', k + 1, p20, rfl, rfl, by rw [Qa]; omega, by omega, by rw [Qa]; omega, ?_, ?_, ?_, HAG.out.trans HS4.out⟩
    ·have h9 := HPE.out
     rw [h5] at h9
     rw [Qd]
     exact ((HS1.out.append_right T').append_left D).trans h9
    ·exact zCv (k := k) (by omega) HSB.out (zEu HS2.out (by omega))
    ·have := HS3.out
     rw [Qd]
     exact this
   case measure => have := HP20.out; simp [intOf]; omega
  ·have hlti : ¬ (p20 : Int) <= (n : Int) := by omega
   have HI := hid (HINS.out D T [] p n hp (by omega) (by simp) (fun x hx => HU.out x (hpe.mem_iff.1 (by simp [hx]))) wr (H0.out.trans hag) (by rw [Qe]; exact how))
   have HTL := hid (show T.length < 20 by omega)
   clear hp hk hl hpe hsb how hag hp20
   obtain ⟨wz, hwz⟩ : ∃ wz : World, wz = wr := ⟨_, rfl⟩
   rw [<- hwz] at HOW HAG HI ⊢
   clear hwz
   go_wp2_with fail
   refine HI.out.mono ?_
   rintro e w2 ⟨rfl, S', hs1, hs2, hs3, hs4⟩
   have HPE2 := hid (show (D ++ S').Perm E from (hs1.append_left D).trans HPE.out)
   have HSB2 := hid (show SrtB lt 20 (D ++ S') from zCv (k := k) (by have := HP.out; have := HK.out; omega) HSB.out (zEu hs2 (by have := hs1.length_eq; have := HTL.out; omega)))
   have HOW2 := hid (show RowE B g n cap w2 (D ++ S') from by rw [Qe] at hs3; exact hs3)
   have HAG2 := hid (HAG.out.trans hs4)
   clear hs1 hs2 hs3 hs4
   go_wp2_with fail
   go_loopw [6] (fun s wr => ∃ (L : List El) (sz : Nat), s = .int .i64 (sz : Int) ∧ 20 <= sz ∧ sz <= 2000000 ∧ L.Perm E ∧ SrtB lt sz L ∧ RowE B g n cap wr L ∧ Agree (fun b => b = g) w wr) (fun s _ => n - (intOf s).toNat)
   case atStart => exact ⟨D ++ S', 20, rfl, by omega, by omega, HPE2.out, HSB2.out, HOW2.out, HAG2.out⟩
   case round =>
    obtain ⟨L, sz, rfl, hz1, hz2, hpl, hsl, how, hag⟩ := hrel
    have HPL := hid hpl
    have HSLL := hid hsl
    have HOWr := hid how
    have HAGr := hid hag
    have hll : L.length = n := by rw [hpl.length_eq]; exact HN.out.symm
    have HLLN := hid hll
    by_cases hsn : sz < n
    ·have hsni : (sz : Int) < (n : Int) := by omega
     obtain ⟨s2, hs2⟩ : ∃ s2, s2 = 2 * sz := ⟨_, rfl⟩
     have HS2 := hid hs2
     have e2 : IntKind.i64.wrap (2 * (sz : Int)) = (s2 : Int) := by rw [Qc _ (by omega)]; omega
     have e2b : IntKind.i64.wrap ((sz : Int) * 2) = (s2 : Int) := by rw [Qc _ (by omega)]; omega
     have e2c : IntKind.i64.wrap (s2 : Int) = (s2 : Int) := Qc _ (by omega)
     obtain ⟨wy, hwy⟩ : ∃ wy : World, wy = wr := ⟨_, rfl⟩
     rw [<- hwy] at HOWr HAGr ⊢
     clear hpl hsl how hag hll hs2 hwy
     go_wp2_with fail
     go_loopw [7, 8] (fun a b wr => ∃ (D T : List El) (k p p2 : Nat), a = .int .i64 (p : Int) ∧ b = .int .i64 (p2 : Int) ∧ p2 = p + s2 ∧ p = D.length ∧ p = k * s2 ∧ D.length + T.length = n ∧ (D ++ T).Perm E ∧ SrtB lt s2 D ∧ SrtB lt sz T ∧ RowE B g n cap wr (D ++ T) ∧ Agree (fun b => b = g) w wr) (fun a b _ => n - (intOf a).toNat)
     case atStart => exact ⟨[], L, 0, 0, s2, rfl, rfl, by omega, rfl, by omega, by rw [Qf, HLLN.out]; omega, HPL.out, zI8 _ _, HSLL.out, HOWr.out, HAGr.out⟩
     case round =>
      obtain ⟨D, T, k, p, p2, rfl, rfl, hp2, hp, hk, hl, hpe, hsb, hst, how, hag⟩ := hrel
      have HP := hid hp
      have HP2 := hid hp2
      have HK := hid hk
      have HL := hid hl
      have HPE := hid hpe
      have HSB := hid hsb
      have HST := hid hst
      have HOWx := hid how
      have HAGx := hid hag
      have hpn : p <= n := by omega
      have hs2v := HS2.out
      obtain ⟨q, hq⟩ : ∃ q, q = p + sz := ⟨_, rfl⟩
      have HQ := hid hq
      obtain ⟨p3, hp3⟩ : ∃ p3, p3 = p2 + s2 := ⟨_, rfl⟩
      have HP3 := hid hp3
      have e3 : IntKind.i64.wrap ((p : Int) + (sz : Int)) = (q : Int) := by rw [Qc _ (by omega)]; omega
      have e4 : IntKind.i64.wrap ((p2 : Int) + (s2 : Int)) = (p3 : Int) := by rw [Qc _ (by omega)]; omega
      by_cases hlt : p2 <= n
      ·obtain ⟨C, T1, hT, hC⟩ := zDl (l := T) (k := sz) (by omega)
       have hTl := congrArg Qb hT
       rw [Qa] at hTl
       obtain ⟨C2, T2, hT2, hC2⟩ := zDl (l := T1) (k := sz) (by omega)
       have hTl2 := congrArg Qb hT2
       rw [Qa] at hTl2
       have hlti : (p2 : Int) <= (n : Int) := by omega
       have hT12 : T = C ++ (C2 ++ T2) := by rw [hT, hT2]
       have hs1 := zFu hC (hT ▸ hst)
       have hs2 := zFu hC2 (hT2 ▸ hs1.2)
       have HI := hid (HSM.out D C C2 T2 (by omega) (by omega) p q p2 hp (by omega) (by omega) (by omega) hs1.1 hs2.1 (fun x hx => HU.out x (hpe.mem_iff.1 (by rw [hT12]; rcases Qg.1 hx with h | h <;> simp [h]))) wr (H0.out.trans hag) (by rw [hT12] at how; exact how))
       have HT := hid hT12
       have HCL := hid hC
       have HCL2 := hid hC2
       have HT2 := hid hs2.2
       clear hp hk hl hpe hsb hst how hag hp2 hT hC hTl hT2 hC2 hTl2 hT12 hs1 hs2 hq hp3 hs2v
       go_wp2_with fail
       refine HI.out.mono ?_
       rintro e w3 ⟨rfl, Z, hz1, hz2, hz3, hz4⟩
       have HZ1 := hid hz1
       have HZ2 := hid hz2
       have HZ3 := hid hz3
       have HZ4 := hid hz4
       clear hz1 hz2 hz3 hz4
       go_wp2_with fail
       go_roundw
       case rel =>
        have h1 := HP.out
        have h2 := HP2.out
        have h3 := HZ1.out.length_eq
        have h4 := HCL.out
        have h4b := HCL2.out
        have h5 := HT.out
        have h6 := HL.out
        have h7 := HK.out
        have h8 := congrArg Qb h5
        have h9 := HS2.out
        have h10 := HP3.out
        simp only [Qa] at h3 h8
        refine ⟨D ++ Z, T2, k + 1, p2, p3, rfl, rfl, h10, by rw [Qa]; omega, by rw [Nat.succ_mul]; omega, by rw [Qa]; omega, ?_, ?_, HT2.out, ?_, HAGx.out.trans HZ4.out⟩
        ·have h11 := HPE.out
         rw [h5] at h11
         rw [Qd]
         refine List.Perm.trans ?_ h11
         refine List.Perm.append_left D ?_
         rw [<- Qd]
         exact HZ1.out.append_right T2
        ·exact zCv (k := k) (by omega) HSB.out (zEu HZ2.out (by omega))
        ·have := HZ3.out
         rw [Qd]
         exact this
       case measure => have := HP2.out; have h9 := HS2.out; simp [intOf]; omega
      ·have hlti : ¬ (p2 : Int) <= (n : Int) := by omega
       by_cases hqn : q < n
       ·obtain ⟨C, C2, hT, hC⟩ := zDl (l := T) (k := sz) (by omega)
        have hTl := congrArg Qb hT
        rw [Qa] at hTl
        have hqni : (q : Int) < (n : Int) := by omega
        have hs1 := zFu hC (hT ▸ hst)
        have HI := hid (HSM.out D C C2 [] (by omega) (by omega) p q n hp (by omega) (by omega) (by simp) hs1.1 (zG1 hs1.2 (by omega)) (fun x hx => HU.out x (hpe.mem_iff.1 (by rw [hT]; rcases Qg.1 hx with h | h <;> simp [h]))) wr (H0.out.trans hag) (by rw [Qe]; rw [hT] at how; exact how))
        have HT := hid hT
        have HTL := hid (show T.length < s2 by omega)
        have hkk : D.length = k * s2 := by omega
        have HKK := hid hkk
        clear hp hk hl hpe hsb hst how hag hp2 hT hC hTl hs1 hq hp3 hs2v hkk
        go_wp2_with fail
        refine HI.out.mono ?_
        rintro e w3 ⟨rfl, Z, hz1, hz2, hz3, hz4⟩
        have HZ1 := hid hz1
        have HZ2 := hid hz2
        have HZ3 := hid hz3
        have HZ4 := hid hz4
        clear hz1 hz2 hz3 hz4
        go_wp2_with fail
        go_roundw
        case rel =>
         have h9 := HS2.out
         refine ⟨D ++ Z, s2, rfl, by omega, by omega, ?_, ?_, ?_, HAGx.out.trans HZ4.out⟩
         ·have h11 := HPE.out
          rw [HT.out] at h11
          exact (HZ1.out.append_left D).trans h11
         ·refine zCv HKK.out HSB.out (zEu HZ2.out ?_)
          have h1 := HZ1.out.length_eq
          have h2 := congrArg Qb HT.out
          have h3 := HTL.out
          rw [Qa] at h1 h2
          omega
         ·have := HZ3.out
          rw [Qe] at this
          exact this
        case measure => have h9 := HS2.out; simp [intOf]; omega
       ·have hqni : ¬ (q : Int) < (n : Int) := by omega
        have HFIN := hid (show SrtB lt s2 (D ++ T) from zCv (k := k) (by omega) hsb (zEu (zG1 hst (by omega)) (by omega)))
        clear hp hk hl hpe hsb hst how hag hp2 hq hp3 hs2v
        go_wp2_with fail
        go_roundw
        case rel => have h9 := HS2.out; exact ⟨D ++ T, s2, rfl, by omega, by omega, HPE.out, HFIN.out, HOWx.out, HAGx.out⟩
        case measure => have h9 := HS2.out; simp [intOf]; omega
    ·have hsni : ¬ (sz : Int) < (n : Int) := by omega
     have HF := hid (zG1 hsl (by omega))
     clear hpl hsl how hag hll
     go_wp2_with fail
     go_end0
     exact ⟨rfl, L, HPL.out, HF.out, HOWr.out, HAGr.out⟩
theorem zJ5 (fv : Value) (w : World) : Calls Try.prog 113 #[.slice none 0 0, .int .i64 0, .int .i64 0, fv] w fun e w' => e = .returned (.tuple #[]) ∧ w' = w := by
 go_enter Try.func113, Try.ntmps113
 go_wp2_with fail
 refine wp_loop_rounds 1 ?_
 rw [rounds_succ]
 go_wp2_with fail
 go_end0
 exact ⟨rfl, rfl⟩
theorem zJa (fv : Value) (w : World) : Calls Try.prog 86 #[.slice none 0 0, .int .i64 0, fv] w fun e w' => e = .returned (.tuple #[]) ∧ w' = w := by
 have HI := hid (zJ5 fv w)
 go_enter Try.func86, Try.ntmps86
 go_wp2_with fail
 refine wp_loop_rounds 1 ?_
 rw [rounds_succ]
 go_wp2_with fail
 refine HI.out.mono ?_
 rintro e w2 ⟨rfl, rfl⟩
 go_wp2_with fail
 refine wp_loop_rounds 1 ?_
 rw [rounds_succ]
 go_wp2_with fail
 go_end0
 exact ⟨rfl, rfl⟩
theorem zH8 {B g n cap : Nat} {fn : FuncId} {cs : Array Value} {lt : El -> El -> Bool} {U : List El} {w0 : World} (o : Ord lt) (HC : CmpOK fn cs lt U g w0) (hn6 : n <= 1000000) (E : List El) (hn : n = E.length) (hU : ∀ x ∈ E, x ∈ U) (w : World) (h0 : Agree (fun b => b = g) w0 w) (h : RowE B g n cap w E) :
  Calls Try.prog 50 #[.slice (some ⟨g, 0, none⟩) n cap, .func (.func fn) #[] cs] w fun e w' => e = .returned (.tuple #[]) ∧ ∃ Z : List El, Z.Perm E ∧ Srt lt Z ∧ RowE B g n cap w' Z ∧ Agree (fun b => b = g) w w' := by
 have HS := hid (zJ4 o HC hn6 E hn hU w h0 h)
 clear hn hU h0 h HC o
 go_enter Try.func50, Try.ntmps50
 go_wp2_with fail
 refine HS.out.mono ?_
 rintro e w2 ⟨rfl, h2⟩
 have H2 := hid h2
 clear h2
 go_wp2_with fail
 go_end0
 exact ⟨rfl, H2.out⟩
theorem zHi (fv : Value) (w : World) : Calls Try.prog 50 #[.slice none 0 0, fv] w fun e w' => e = .returned (.tuple #[]) ∧ w' = w := by
 have HI := hid (zJa fv w)
 go_enter Try.func50, Try.ntmps50
 go_wp2_with fail
 refine HI.out.mono ?_
 rintro e w2 ⟨rfl, rfl⟩
 go_wp2_with fail
 go_end0
 exact ⟨rfl, rfl⟩
end Go.Proofs.Ytnfjdoeemnhkbaa
