/-
  Contract of the reference's SamePred.
-/
import Derived.Test.YtfmkalnnpddefaaLseven
import Derived.Deep.CutBlock
import Derived.Deep.DeepCutAuto
namespace Go.Proofs.Ytfmkalnnpddefaa
set_option linter.unusedVariables false
set_option linter.unusedSimpArgs false
open Go.RowKit

mutual
/-- Two predicates are one. -/
def eqP : Pt → Pt → Bool
  | .mk k c o v l, .mk k' c' o' v' l' => (k == k') && (c == c') && (o == o') && sameT v v' && (l.length == l'.length) && eqPs l l'
def eqPs : List Pt → List Pt → Bool
  | q :: r, q' :: r' => eqP q q' && eqPs r r'
  | _, _ => true
end
theorem eqPs_take : ∀ {l l' : List Pt} {k : Nat} {q q' : Pt}, l[k]? = some q → l'[k]? = some q' → eqPs (l.take (k + 1)) (l'.take (k + 1)) = (eqPs (l.take k) (l'.take k) && eqP q q')
  | [], _, _, _, _, h, _ => by simp at h
  | _ :: _, [], _, _, _, _, h => by simp at h
  | p :: r, p' :: r', 0, q, q', h, h' => by
    simp only [List.getElem?_cons_zero, Option.some.injEq] at h h'
    subst h h'
    simp [eqPs]
  | p :: r, p' :: r', k + 1, q, q', h, h' => by
    have := eqPs_take (k := k) (l := r) (l' := r') (by simpa using h) (by simpa using h')
    rw [List.take_succ_cons, List.take_succ_cons, eqPs, this, List.take_succ_cons, List.take_succ_cons, eqPs, Bool.and_assoc]
theorem eqPs_false : ∀ {l l' : List Pt} {k : Nat}, eqPs (l.take k) (l'.take k) = false → eqPs l l' = false
  | [], _, _, h => by simp [eqPs] at h
  | _ :: _, [], k, h => by cases k <;> simp [eqPs] at h
  | p :: r, p' :: r', 0, h => by simp [eqPs] at h
  | p :: r, p' :: r', k + 1, h => by
    rw [List.take_succ_cons, List.take_succ_cons, eqPs, Bool.and_eq_false_iff] at h
    rw [eqPs, Bool.and_eq_false_iff]
    exact h.imp id eqPs_false
mutual
theorem eqP_refl : ∀ p : Pt, eqP p p = true
  | .mk k c o v l => by
    unfold eqP
    have h1 : sameT v v = true := by simp [sameT]
    simp [h1, eqPs_refl l]
theorem eqPs_refl : ∀ l : List Pt, eqPs l l = true
  | [] => by simp [eqPs]
  | q :: r => by rw [eqPs, eqP_refl q, eqPs_refl r]; rfl
end

theorem rdT1_shape {w : World} {p : Pt} {cs : List Value} (h : RdT1 w p cs) : ∃ (k c o vk vn : Int) (u : Bool) (a : Option Addr) (n m : Nat) (a2 : Option Addr) (n2 m2 : Nat), cs = [.int .i64 k, .int .i64 c, .int .i64 o, .bool u, .int .i64 vk, .int .i64 vn, .slice a n m, .slice a2 n2 m2] := by
  obtain ⟨k, c, o, v, l⟩ := p
  unfold RdT1 at h
  obtain ⟨s, ls, css, rfl, h1, h2, _⟩ := h
  obtain ⟨a, m, h3⟩ := rd_shape8 h1.1
  obtain ⟨a2, m2, h4⟩ := rdS_shape h2
  exact ⟨k, c, o, v.k, v.n, v.u, a, _, m, a2, _, m2, by simp only at h3; rw [h3, h4]; rfl⟩

/-- SamePred answers so, whatever it is held against. -/
def SameOK (a : Pt) : Prop := ∀ (b : Pt) (ca cb : List Value) (w : World), RdT1 w a ca → RdT1 w b cb →
  Calls Try.prog 27 #[.agg ca.toArray, .agg cb.toArray] w fun e w' => e = .returned (.bool (eqP a b)) ∧ Below w.heap.size w w'

set_option maxRecDepth 100000 in
set_option maxHeartbeats 8000000 in
theorem same_ok : ∀ (d : Nat) (a : Pt), depT a ≤ d → cntT a ≤ 1000000 → SameOK a := by
  intro d
  induction d with
  | zero =>
    intro a ha
    obtain ⟨k, c, o, v, l⟩ := a
    unfold depT at ha
    omega
  | succ d ih =>
  intro a ha hca b ca cb w hra hrb
  obtain ⟨k, c, o, v, l⟩ := a
  obtain ⟨k2, c2, o2, v2, l2⟩ := b
  have HIH : Hid (∀ (i : Nat) (q : Pt), l[i]? = some q → SameOK q) := Lib.hid fun i q hq => ih q (by have := depL_mem hq; unfold depT at ha; omega) (by have := cntL_mem hq; unfold cntT at hca; omega)
  have hl6 : l.length ≤ 1000000 := by unfold cntT at hca; omega
  clear ih ha hca
  unfold RdT1 at hra hrb
  obtain ⟨s, ls, css, rfl, hok, hls, hts⟩ := hra
  obtain ⟨s2, ls2, css2, rfl, hok2, hls2, hts2⟩ := hrb
  obtain ⟨sa, sc, hes⟩ := rd_shape8 hok.1
  obtain ⟨ea, ec, hel⟩ := rdS_shape hls
  obtain ⟨sa2, sc2, hes2⟩ := rd_shape8 hok2.1
  obtain ⟨ea2, ec2, hel2⟩ := rdS_shape hls2
  simp only at hes hes2
  subst hes hel hes2 hel2
  have hcl := rdTs_len hts
  have hcl2 := rdTs_len hts2
  obtain ⟨n, hN⟩ : ∃ n, n = l.length := ⟨_, rfl⟩
  obtain ⟨n2, hN2⟩ : ∃ n, n = l2.length := ⟨_, rfl⟩
  rw [hcl, ← hN] at hls ⊢
  rw [hcl2, ← hN2] at hls2 ⊢
  rw [← hN] at hl6
  have HS := Lib.hid (show eqP (.mk k c o v l) (.mk k2 c2 o2 v2 l2) = ((k == k2) && (c == c2) && (o == o2) && sameT v v2 && (n == n2) && eqPs l l2) by rw [hN, hN2]; unfold eqP; rfl)
  have HB0 := Lib.hid (below2 w (.cells #[.int .i64 k, .int .i64 c, .int .i64 o, .bool v.u, .int .i64 v.k, .int .i64 v.n, .slice sa v.b.length sc, .slice ea n ec] 31) (.cells #[.int .i64 k2, .int .i64 c2, .int .i64 o2, .bool v2.u, .int .i64 v2.k, .int .i64 v2.n, .slice sa2 v2.b.length sc2, .slice ea2 n2 ec2] 31))
  have HX := Lib.hid ((heap_alloc_old (w.alloc (.cells #[.int .i64 k, .int .i64 c, .int .i64 o, .bool v.u, .int .i64 v.k, .int .i64 v.n, .slice sa v.b.length sc, .slice ea n ec] 31)) (.cells #[.int .i64 k2, .int .i64 c2, .int .i64 o2, .bool v2.u, .int .i64 v2.k, .int .i64 v2.n, .slice sa2 v2.b.length sc2, .slice ea2 n2 ec2] 31) (r := w.heap.size) (by simp)).trans (heap_alloc_new w _))
  have HY := Lib.hid (heap2 w (.cells #[.int .i64 k, .int .i64 c, .int .i64 o, .bool v.u, .int .i64 v.k, .int .i64 v.n, .slice sa v.b.length sc, .slice ea n ec] 31) (.cells #[.int .i64 k2, .int .i64 c2, .int .i64 o2, .bool v2.u, .int .i64 v2.k, .int .i64 v2.n, .slice sa2 v2.b.length sc2, .slice ea2 n2 ec2] 31))
  have HV := Lib.hid (sameVal_any (v, .slice sa v.b.length sc) (v2, .slice sa2 v2.b.length sc2) _ (hok.kept HB0.out) (hok2.kept HB0.out))
  have HSZ := Lib.hid (show ((w.alloc (.cells #[.int .i64 k, .int .i64 c, .int .i64 o, .bool v.u, .int .i64 v.k, .int .i64 v.n, .slice sa v.b.length sc, .slice ea n ec] 31)).alloc (.cells #[.int .i64 k2, .int .i64 c2, .int .i64 o2, .bool v2.u, .int .i64 v2.k, .int .i64 v2.n, .slice sa2 v2.b.length sc2, .slice ea2 n2 ec2] 31)).heap.size = w.heap.size + 1 + 1 by simp)
  have HN := Lib.hid hN
  have HN2 := Lib.hid hN2
  have HLS := Lib.hid hls
  have HTS := Lib.hid hts
  have HLS2 := Lib.hid hls2
  have HTS2 := Lib.hid hts2
  obtain ⟨sb, hsb⟩ : ∃ sb, sb = sameT v v2 := ⟨_, rfl⟩
  rw [← hsb] at HV HS
  clear hcl hcl2 hN hN2 hls hts hls2 hts2 hok hok2 hsb
  obtain ⟨vu, vk, vn, vb⟩ := v
  obtain ⟨vu2, vk2, vn2, vb2⟩ := v2
  unfold cellsP
  unfold aggV at HV
  simp only at HV HSZ HX HY HB0 ⊢
  by_cases h0 : k = k2
  · subst h0
    by_cases h1 : c = c2
    · subst h1
      by_cases h2 : o = o2
      · subst h2
        cases sb
        · have e5 : eqP (.mk k c o ⟨vu, vk, vn, vb⟩ l) (.mk k c o ⟨vu2, vk2, vn2, vb2⟩ l2) = false := by rw [HS.out]; simp
          have HS := Lib.hid e5
          clear e5
          go_enter Try.func27, Try.ntmps27
          go_wp2_with fail
          refine HV.out.mono ?_
          rintro e w2 ⟨rfl, hb2⟩
          have HB2 := Lib.hid (below_then HB0.out hb2)
          clear hb2
          go_wp2_with fail
          go_ret
          exact ⟨by rw [HS.out] <;> rfl, HB2.out⟩
        · by_cases h3 : n = n2
          · subst h3
            have HS := Lib.hid (HS.out.trans (show _ = eqPs l l2 by simp))
            go_enter Try.func27, Try.ntmps27
            go_wp2_with fail
            refine HV.out.mono ?_
            rintro e w2 ⟨rfl, hb2⟩
            have hx2 := (hb2.block w.heap.size (by rw [HSZ.out]; omega)).trans HX.out
            have hy2 := (hb2.block (w.heap.size + 1) (by rw [HSZ.out]; omega)).trans HY.out
            have HX2 := Lib.hid hx2
            have HY2 := Lib.hid hy2
            have HB2 := Lib.hid (below_then HB0.out hb2)
            have zx := fun w' (h : Below w2.heap.size w2 w') => (cell_of_row w' w.heap.size 7 _ _ _ ((h.block w.heap.size ((Array.getElem?_eq_some_iff.1 hx2).1)).trans hx2)).trans (show _ = some (.slice ea n ec) from rfl)
            have zy := fun w' (h : Below w2.heap.size w2 w') => (cell_of_row w' (w.heap.size + 1) 7 _ _ _ ((h.block (w.heap.size + 1) ((Array.getElem?_eq_some_iff.1 hy2).1)).trans hy2)).trans (show _ = some (.slice ea2 n ec2) from rfl)
            have d7 := zx w2 (Below.refl _ _)
            have g7 := zy w2 (Below.refl _ _)
            have ZX := Lib.hid zx
            have ZY := Lib.hid zy
            have qxx : (n != n) = false := by simp
            clear hb2 hx2 hy2 zx zy
            go_wp2_with fail
            go_loopw [5] (fun i wr => ∃ q : Nat, q ≤ n ∧ i = .int .i64 (q : Int) ∧ eqPs (l.take q) (l2.take q) = true ∧ Below w2.heap.size w2 wr) (fun i _ => n - (intOf i).toNat)
            case atStart => exact ⟨0, by omega, rfl, by simp [eqPs], Below.refl _ _⟩
            case round =>
              obtain ⟨q, hq, rfl, heq, hbr⟩ := hrel
              obtain ⟨wo, rfl⟩ : ∃ wo : World, wo = wr := ⟨_, rfl⟩
              have HE := Lib.hid heq
              have HBR := Lib.hid hbr
              have dx := ZX.out wo hbr
              have dy := ZY.out wo hbr
              clear d7 g7 heq hbr
              by_cases hlt : q < n
              · have hltb : decide ((q : Int) < (n : Int)) = true := by rw [decide_eq_true_eq]; omega
                have hlti : (q : Int) < (n : Int) := by omega
                have hq0 : (0 : Int) ≤ (q : Int) := by omega
                obtain ⟨p, hp⟩ : ∃ p, l[q]? = some p := ⟨_, List.getElem?_eq_getElem (by have := HN.out; omega)⟩
                obtain ⟨p2, hp2⟩ : ∃ p, l2[q]? = some p := ⟨_, List.getElem?_eq_getElem (by have := HN2.out; omega)⟩
                have HTK := Lib.hid (eqPs_take hp hp2)
                obtain ⟨cs, hcs, hrd⟩ := rdTs_at HTS.out hp
                obtain ⟨cs2, hcs2, hrd2⟩ := rdTs_at HTS2.out hp2
                have HP := Lib.hid (HIH.out q p hp p2 cs cs2)
                have hw := below_then HB2.out HBR.out
                have hat := (HLS.out.kept hw).at hcs
                have hat2 := (HLS2.out.kept hw).at hcs2
                have HRD := Lib.hid (RdT1.kept hw _ hrd)
                have HRD2 := Lib.hid (RdT1.kept hw _ hrd2)
                obtain ⟨pk, pc, po, pvk, pvn, pu, psa, psn, psc, pea, pen, pec, rfl⟩ := rdT1_shape hrd
                obtain ⟨rk, rc, ro, rvk, rvn, ru, rsa, rsn, rsc, rea, ren, rec, rfl⟩ := rdT1_shape hrd2
                obtain ⟨b1, f1, rfl, hcell⟩ := hat
                obtain ⟨b2, f2, rfl, hcell2⟩ := hat2
                have m0 : wo.cell? ⟨b1, f1 + q * 8, none⟩ = some (.int .i64 pk) := hcell 0 _ rfl
                have m1 : wo.cell? ⟨b1, f1 + q * 8 + 1, none⟩ = some (.int .i64 pc) := hcell 1 _ rfl
                have m2 : wo.cell? ⟨b1, f1 + q * 8 + 2, none⟩ = some (.int .i64 po) := hcell 2 _ rfl
                have m3 : wo.cell? ⟨b1, f1 + q * 8 + 3, none⟩ = some (.bool pu) := hcell 3 _ rfl
                have m4 : wo.cell? ⟨b1, f1 + q * 8 + 4, none⟩ = some (.int .i64 pvk) := hcell 4 _ rfl
                have m5 : wo.cell? ⟨b1, f1 + q * 8 + 5, none⟩ = some (.int .i64 pvn) := hcell 5 _ rfl
                have m6 : wo.cell? ⟨b1, f1 + q * 8 + 6, none⟩ = some (.slice psa psn psc) := hcell 6 _ rfl
                have m7 : wo.cell? ⟨b1, f1 + q * 8 + 7, none⟩ = some (.slice pea pen pec) := hcell 7 _ rfl
                have r0 : wo.cell? ⟨b2, f2 + q * 8, none⟩ = some (.int .i64 rk) := hcell2 0 _ rfl
                have r1 : wo.cell? ⟨b2, f2 + q * 8 + 1, none⟩ = some (.int .i64 rc) := hcell2 1 _ rfl
                have r2 : wo.cell? ⟨b2, f2 + q * 8 + 2, none⟩ = some (.int .i64 ro) := hcell2 2 _ rfl
                have r3 : wo.cell? ⟨b2, f2 + q * 8 + 3, none⟩ = some (.bool ru) := hcell2 3 _ rfl
                have r4 : wo.cell? ⟨b2, f2 + q * 8 + 4, none⟩ = some (.int .i64 rvk) := hcell2 4 _ rfl
                have r5 : wo.cell? ⟨b2, f2 + q * 8 + 5, none⟩ = some (.int .i64 rvn) := hcell2 5 _ rfl
                have r6 : wo.cell? ⟨b2, f2 + q * 8 + 6, none⟩ = some (.slice rsa rsn rsc) := hcell2 6 _ rfl
                have r7 : wo.cell? ⟨b2, f2 + q * 8 + 7, none⟩ = some (.slice rea ren rec) := hcell2 7 _ rfl
                clear hp hp2 hcs hcs2 hrd hrd2 hcell hcell2 hw
                have hres := HP.out wo HRD.out HRD2.out
                have HRES := Lib.hid (show ∀ w' : World, Below wo.heap.size wo w' → Calls Try.prog 27 #[.agg #[.int .i64 pk, .int .i64 pc, .int .i64 po, .bool pu, .int .i64 pvk, .int .i64 pvn, .slice psa psn psc, .slice pea pen pec], .agg #[.int .i64 rk, .int .i64 rc, .int .i64 ro, .bool ru, .int .i64 rvk, .int .i64 rvn, .slice rsa rsn rsc, .slice rea ren rec]] w' fun e w'' => e = .returned (.bool (eqP p p2)) ∧ Below w'.heap.size w' w'' from fun w' h => HP.out w' (RdT1.kept h _ HRD.out) (RdT1.kept h _ HRD2.out))
                obtain ⟨eb, heb⟩ : ∃ eb, eb = eqP p p2 := ⟨_, rfl⟩
                rw [← heb] at HRES HTK
                clear hres heb
                go_upto_region 6 with (fail)
                go_cut [60] (fun s wx => s = .bool (!eb) ∧ Below wo.heap.size wo wx)
                case first =>
                  set_option maxRecDepth 1000000 in
                  go_region_held3 (fun w' => w'.cell? ⟨w.heap.size, 7, none⟩ = some (.slice (some ⟨b1, f1, none⟩) n ec) ∧ w'.cell? ⟨w.heap.size + 1, 7, none⟩ = some (.slice (some ⟨b2, f2, none⟩) n ec2) ∧ w'.cell? ⟨b1, f1 + q * 8, none⟩ = some (.int .i64 pk) ∧ w'.cell? ⟨b1, f1 + q * 8 + 1, none⟩ = some (.int .i64 pc) ∧ w'.cell? ⟨b1, f1 + q * 8 + 2, none⟩ = some (.int .i64 po) ∧ w'.cell? ⟨b1, f1 + q * 8 + 3, none⟩ = some (.bool pu) ∧ w'.cell? ⟨b1, f1 + q * 8 + 4, none⟩ = some (.int .i64 pvk) ∧ w'.cell? ⟨b1, f1 + q * 8 + 5, none⟩ = some (.int .i64 pvn) ∧ w'.cell? ⟨b1, f1 + q * 8 + 6, none⟩ = some (.slice psa psn psc) ∧ w'.cell? ⟨b1, f1 + q * 8 + 7, none⟩ = some (.slice pea pen pec) ∧ w'.cell? ⟨b2, f2 + q * 8, none⟩ = some (.int .i64 rk) ∧ w'.cell? ⟨b2, f2 + q * 8 + 1, none⟩ = some (.int .i64 rc) ∧ w'.cell? ⟨b2, f2 + q * 8 + 2, none⟩ = some (.int .i64 ro) ∧ w'.cell? ⟨b2, f2 + q * 8 + 3, none⟩ = some (.bool ru) ∧ w'.cell? ⟨b2, f2 + q * 8 + 4, none⟩ = some (.int .i64 rvk) ∧ w'.cell? ⟨b2, f2 + q * 8 + 5, none⟩ = some (.int .i64 rvn) ∧ w'.cell? ⟨b2, f2 + q * 8 + 6, none⟩ = some (.slice rsa rsn rsc) ∧ w'.cell? ⟨b2, f2 + q * 8 + 7, none⟩ = some (.slice rea ren rec)) (first | assumption | exact ⟨(by first | exact dx | exact (hS3.cell (World.block_lt_of_cell? _ _ dx)).trans dx), (by first | exact dy | exact (hS3.cell (World.block_lt_of_cell? _ _ dy)).trans dy), (by first | exact m0 | exact (hS3.cell (World.block_lt_of_cell? _ _ m0)).trans m0), (by first | exact m1 | exact (hS3.cell (World.block_lt_of_cell? _ _ m1)).trans m1), (by first | exact m2 | exact (hS3.cell (World.block_lt_of_cell? _ _ m2)).trans m2), (by first | exact m3 | exact (hS3.cell (World.block_lt_of_cell? _ _ m3)).trans m3), (by first | exact m4 | exact (hS3.cell (World.block_lt_of_cell? _ _ m4)).trans m4), (by first | exact m5 | exact (hS3.cell (World.block_lt_of_cell? _ _ m5)).trans m5), (by first | exact m6 | exact (hS3.cell (World.block_lt_of_cell? _ _ m6)).trans m6), (by first | exact m7 | exact (hS3.cell (World.block_lt_of_cell? _ _ m7)).trans m7), (by first | exact r0 | exact (hS3.cell (World.block_lt_of_cell? _ _ r0)).trans r0), (by first | exact r1 | exact (hS3.cell (World.block_lt_of_cell? _ _ r1)).trans r1), (by first | exact r2 | exact (hS3.cell (World.block_lt_of_cell? _ _ r2)).trans r2), (by first | exact r3 | exact (hS3.cell (World.block_lt_of_cell? _ _ r3)).trans r3), (by first | exact r4 | exact (hS3.cell (World.block_lt_of_cell? _ _ r4)).trans r4), (by first | exact r5 | exact (hS3.cell (World.block_lt_of_cell? _ _ r5)).trans r5), (by first | exact r6 | exact (hS3.cell (World.block_lt_of_cell? _ _ r6)).trans r6), (by first | exact r7 | exact (hS3.cell (World.block_lt_of_cell? _ _ r7)).trans r7)⟩)
                    (first | (go_at_call 27; refine (HRES.out _ (by first | exact Below.refl _ _ | exact below_drw _ _)).mono ?_; rintro e w3 ⟨rfl, hb3⟩; have hS3 : Below wo.heap.size wo w3 := (by first | exact hb3 | exact Below.trans (below_drw _ _) hb3)))
                  all_goals
                    go_wp2_with fail
                    go_meet
                    exact ⟨rfl, hS3⟩
                case rest =>
                 obtain ⟨rfl, hS3⟩ := hcut
                 have HB3 := Lib.hid (HBR.out.trans (hS3.mono HBR.out.size))
                 clear hS3
                 cases eb
                 · have HF := Lib.hid (show eqPs l l2 = false from eqPs_false (k := q + 1) (by rw [HTK.out]; simp))
                   go_wp2_with fail
                   go_ret
                   exact ⟨by rw [HS.out, HF.out] <;> rfl, below_then HB2.out HB3.out⟩
                 · go_wp2_with fail
                   go_roundw
                   case rel => exact ⟨q + 1, by omega, by go_num, by rw [HTK.out, HE.out]; rfl, HB3.out⟩
                   case measure => simp [intOf]; omega
              · have hltb : decide ((q : Int) < (n : Int)) = false := by rw [decide_eq_false_iff_not]; omega
                have hlti : ¬ (q : Int) < (n : Int) := by omega
                have HF := Lib.hid (show eqPs l l2 = true by
                  have h1 := HE.out
                  rwa [List.take_of_length_le (by have := HN.out; omega), List.take_of_length_le (by have := HN2.out; omega)] at h1)
                go_wp2_with fail
                go_ret
                exact ⟨by rw [HS.out, HF.out] <;> rfl, below_then HB2.out HBR.out⟩
          · have e5 : eqP (.mk k c o ⟨vu, vk, vn, vb⟩ l) (.mk k c o ⟨vu2, vk2, vn2, vb2⟩ l2) = false := by rw [HS.out]; simp [h3]
            have HS := Lib.hid e5
            have q3 : ((n : Int) != (n2 : Int)) = true := by rw [bne_iff_ne]; omega
            have q4 : ((n : Int) == (n2 : Int)) = false := by rw [beq_eq_false_iff_ne]; omega
            have q5 : (n == n2) = false := by rw [beq_eq_false_iff_ne]; exact h3
            have q6 : (n != n2) = true := by rw [bne_iff_ne]; exact h3
            clear e5 h3
            go_enter Try.func27, Try.ntmps27
            go_wp2_with fail
            refine HV.out.mono ?_
            rintro e w2 ⟨rfl, hb2⟩
            have hx2 := (hb2.block w.heap.size (by rw [HSZ.out]; omega)).trans HX.out
            have hy2 := (hb2.block (w.heap.size + 1) (by rw [HSZ.out]; omega)).trans HY.out
            have d7 : w2.cell? ⟨w.heap.size, 7, none⟩ = some (.slice ea n ec) := by rw [cell_of_row w2 _ 7 _ _ _ hx2]; rfl
            have g7 : w2.cell? ⟨w.heap.size + 1, 7, none⟩ = some (.slice ea2 n2 ec2) := by rw [cell_of_row w2 _ 7 _ _ _ hy2]; rfl
            have HB2 := Lib.hid (below_then HB0.out hb2)
            clear hb2 hx2 hy2
            go_wp2_with fail
            go_ret
            exact ⟨by rw [HS.out] <;> rfl, HB2.out⟩
      · have e5 : eqP (.mk k c o ⟨vu, vk, vn, vb⟩ l) (.mk k c o2 ⟨vu2, vk2, vn2, vb2⟩ l2) = false := by rw [HS.out]; simp [h2]
        have HS := Lib.hid e5
        have q4 : (o != o2) = true := by rw [bne_iff_ne]; exact h2
        have q5 : (o == o2) = false := by rw [beq_eq_false_iff_ne]; exact h2
        clear e5 h2
        go_enter Try.func27, Try.ntmps27
        go_wp2_with fail
        go_ret
        exact ⟨by rw [HS.out] <;> rfl, HB0.out⟩
    · have e5 : eqP (.mk k c o ⟨vu, vk, vn, vb⟩ l) (.mk k c2 o2 ⟨vu2, vk2, vn2, vb2⟩ l2) = false := by rw [HS.out]; simp [h1]
      have HS := Lib.hid e5
      have q4 : (c != c2) = true := by rw [bne_iff_ne]; exact h1
      have q5 : (c == c2) = false := by rw [beq_eq_false_iff_ne]; exact h1
      clear e5 h1
      go_enter Try.func27, Try.ntmps27
      go_wp2_with fail
      go_ret
      exact ⟨by rw [HS.out] <;> rfl, HB0.out⟩
  · have e5 : eqP (.mk k c o ⟨vu, vk, vn, vb⟩ l) (.mk k2 c2 o2 ⟨vu2, vk2, vn2, vb2⟩ l2) = false := by rw [HS.out]; simp [h0]
    have HS := Lib.hid e5
    have q4 : (k != k2) = true := by rw [bne_iff_ne]; exact h0
    have q5 : (k == k2) = false := by rw [beq_eq_false_iff_ne]; exact h0
    clear e5 h0
    go_enter Try.func27, Try.ntmps27
    go_wp2_with fail
    go_ret
    exact ⟨by rw [HS.out] <;> rfl, HB0.out⟩

end Go.Proofs.Ytfmkalnnpddefaa
