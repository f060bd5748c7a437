/-
  The walk of ZoneGrows.
-/
import Derived.Test.YtpabneinikbneaaZgrowm
import Derived.Test.YtpabneinikbneaaZoneSafe
import Derived.Test.YtpabneinikbneaaRefk
namespace Go.Proofs.Ytpabneinikbneaa
set_option linter.unusedVariables false
set_option linter.unusedSimpArgs false
open Go.RowKit

theorem rd_behind1 {w : World} {ao : Option Addr} {len cap q : Nat} {xs : List Value} (h : Rd w (.slice ao len cap) xs) (hq : q ≤ len) :
    Rd w (.slice (if cap = q then ao else Option.map (fun x => x.add q) ao) (len - q) (cap - q)) (xs.drop q) := by
  have hcl : len ≤ cap := by
    obtain ⟨a0, c0, e0, h0, _⟩ := h
    simp only [Value.slice.injEq] at e0
    obtain ⟨_, e1, e2⟩ := e0
    have := h0.2
    omega
  by_cases hc : cap = q
  · rw [if_pos hc]
    have hl : len = q := by omega
    obtain ⟨ao', cap', hv, _, _⟩ := h
    simp only [Value.slice.injEq] at hv
    have hd : xs.drop q = [] := List.drop_of_length_le (by omega)
    rw [hd, show len - q = 0 by omega, show cap - q = 0 by omega]
    exact ⟨ao, 0, rfl, ⟨fun _ => rfl, by simp⟩, fun hp => by simp at hp⟩
  · rw [if_neg hc]
    have h' := h
    obtain ⟨ao', cap', hv, hcap, hcell⟩ := h
    simp only [Value.slice.injEq] at hv
    obtain ⟨rfl, hl, rfl⟩ := hv
    rcases ao with _ | a
    · have := hcap.1 rfl; omega
    · have hl2 : (xs.drop q).length = len - q := by rw [List.length_drop, hl]
      refine ⟨_, _, by rw [hl2], ⟨(fun h => by cases h), by rw [hl2]; omega⟩, fun hp => ?_⟩
      rw [hl2] at hp
      obtain ⟨b, off, ha, _⟩ := hcell (by omega)
      cases ha
      have h2 := rd_drop h' hq
      obtain ⟨a2, c2, hv2, _, hc2⟩ := h2
      simp only [Value.slice.injEq] at hv2
      obtain ⟨rfl, _, _⟩ := hv2
      obtain ⟨b2, off2, ha2, hc3⟩ := hc2 (by rw [hl2]; exact hp)
      cases ha2
      exact ⟨b, off + q, by simp [Addr.add], hc3⟩
theorem rdRs_take {w : World} {ao : Option Addr} {n cap : Nat} {L : List (List (Vc × Value))} (h : RdRs w (.slice ao n cap) L) {q : Nat} (hq : q ≤ n) : RdRs w (.slice ao q cap) (L.take q) := by
  obtain ⟨sls, h1, h2, h3⟩ := h
  refine ⟨sls.take q, rd_take h1 hq, by rw [List.length_take, List.length_take, h2], fun i s l hs hl => ?_⟩
  rw [List.getElem?_take] at hs hl
  split at hs
  · rename_i hi
    rw [if_pos hi] at hl
    exact h3 i s l hs hl
  · cases hs
theorem rdRs_drop {w : World} {ao : Option Addr} {n cap : Nat} {L : List (List (Vc × Value))} (h : RdRs w (.slice ao n cap) L) {q : Nat} (hq : q ≤ n) : RdRs w (.slice (if cap = q then ao else Option.map (fun x => x.add q) ao) (n - q) (cap - q)) (L.drop q) := by
  obtain ⟨sls, h1, h2, h3⟩ := h
  refine ⟨sls.drop q, rd_behind1 h1 hq, by rw [List.length_drop, List.length_drop, h2], fun i s l hs hl => ?_⟩
  rw [List.getElem?_drop] at hs hl
  exact h3 _ s l hs hl

theorem name_world {A : Nat} {w0 w : World} (h : Below A w0 w) : ∃ V : World, V = w := ⟨w, rfl⟩
theorem zone_at {cols : List Co} {R : List (List Vc)} {zs : List Zv} (h : zs.map Zv.t = zonesT cols R) {q : Nat} {co : Co} (hc : cols[q]? = some co) : ∃ z, zs[q]? = some z ∧ z.t = zoneT co.k q R := by
  have h1 : (zs.map Zv.t)[q]? = some (zoneT co.k q R) := by rw [h, zonesT_at, hc]; rfl
  rw [List.getElem?_map] at h1
  obtain ⟨z, hz, e⟩ := Option.map_eq_some_iff.1 h1
  exact ⟨z, hz, e⟩

set_option maxRecDepth 100000 in
set_option maxHeartbeats 32000000 in
theorem walk_ZoneGrows (a0 : Int) (a1 : Option Addr) (len1 cap1 : Nat) (z1 : List Int) (a2 : Int) (w : World) (w0 : (Lit.int .i64 a0).wf = true) (w1 : IsRow .i64 w a1 len1 cap1 z1) (w2 : (Lit.int .i64 a2).wf = true) :
    Calls Try.prog 8 #[.int .i64 a0, .slice a1 len1 cap1, .int .i64 a2] w fun e w' => e = .returned (.bool true) ∧ Below w.heap.size w w' := by
  obtain ⟨la, hla, h1, _⟩ := isRow_rd w1
  have HLA := Lib.hid hla
  have HR1 := Lib.hid h1
  have HS := Lib.hid (schema_rd a0 w)
  have HOK := Lib.hid (colsN_ok a0)
  clear hla h1 w0 w1 w2
  go_enter Try.func8, Try.ntmps8
  go_wp2_with fail
  refine HS.out.mono ?_
  rintro e W1 ⟨so, sc, rfl, hs1, hb1⟩
  obtain ⟨sn, hsn⟩ : ∃ sn, sn = (colsN a0).length := ⟨_, rfl⟩
  have hc1 := rdC_of hs1
  rw [← hsn] at hs1 hc1 ⊢
  have HSN := Lib.hid hsn
  have hc2 := RdC.kept hc1 (below_alloc W1 (.cells #[.slice so sn sc] 24))
  have HB1 := Lib.hid (below_lay hb1 (.cells #[.slice so sn sc] 24))
  have HC1 := Lib.hid hc2
  have hsb := heap_alloc_new W1 (.cells #[.slice so sn sc] 24)
  have HRW := Lib.hid (rows9_any (colsN a0) HOK.out la (.slice so sn sc) a1 len1 cap1 HLA.out.symm (W1.alloc (.cells #[.slice so sn sc] 24)) hc2 (HR1.out.kept HB1.out))
  clear hs1 hc1 hc2 hb1 hsn
  go_wp2_with fail
  refine HRW.out.mono ?_
  rintro e W2 ⟨rv, L, rfl, hm, hrr, hb2⟩
  obtain ⟨ra, rc, rfl⟩ := rdRs_shape hrr
  obtain ⟨rn, hrn⟩ : ∃ rn, rn = L.length := ⟨_, rfl⟩
  rw [← hrn] at hrr ⊢
  replace hsb := (hb2.block W1.heap.size (by simp)).trans hsb
  have HBD := Lib.hid (rows9_bounds HOK.out hm hrr)
  have HM := Lib.hid hm
  have HRN := Lib.hid hrn
  have HRN40 := Lib.hid (show rn ≤ 40 by rw [hrn, ← List.length_map (f := fun x : List (Vc × Value) => x.map Prod.fst), hm, rows9_len]; omega)
  have HRR2 := Lib.hid hrr
  have HC2 := Lib.hid (RdC.kept HC1.out hb2)
  have HB2 := Lib.hid (below_then HB1.out hb2)
  obtain ⟨SB, hSB⟩ : ∃ SB, SB = W1.heap.size := ⟨_, rfl⟩
  rw [← hSB] at hsb ⊢
  obtain ⟨K, hK⟩ : ∃ K : Nat, K = (a2 % 256).toNat % (rn + 1) := ⟨_, rfl⟩
  have hKr : K ≤ rn := by rw [hK]; have := Nat.mod_lt (a2 % 256).toNat (show 0 < rn + 1 by omega); omega
  have b255 : bits .and .i64 a2 255 = a2 % 256 := and_low a2 8 (by decide) 255 rfl
  have hrem : (a2 % 256).tmod ((rn : Int) + 1) = (K : Int) := by
    rw [hK, Int.tmod_eq_emod_of_nonneg (by omega), show a2 % 256 = ((a2 % 256).toNat : Int) by omega]
    push_cast
    rfl
  have hne : ((rn : Int) + 1 == 0) = false := by rw [beq_eq_false_iff_ne]; omega
  have hne1 : ¬ ((rn : Int) + 1 = 0) := by omega
  have hrn40 : rn ≤ 40 := HRN40.out
  have cs0 : W2.cell? ⟨SB, 0, none⟩ = some (.slice so sn sc) := by rw [cell_of_row W2 SB 0 _ _ _ hsb]; rfl
  have HSBW := Lib.hid hsb
  have HKR := Lib.hid hKr
  clear hm hrr hb2 hrn hSB HRW hK hsb
  have HZZ := Lib.hid (show ∀ (rv : Value) (H : List (List (Vc × Value))), (∀ x ∈ H, x ∈ L) → H.length ≤ rn → RdRs W2 rv H → ∀ w', Below W2.heap.size W2 w' → Calls Try.prog 33 #[.agg #[.slice so sn sc], rv] w' fun e w'' => ∃ za zc zs, e = .returned (.slice za sn zc) ∧ zs.map Zv.t = zonesT (colsN a0) (H.map fun l => l.map Prod.fst) ∧ RdZV w'' (.slice za sn zc) zs ∧ Below w'.heap.size w' w'' from by
    intro rv H hH hHl hr w' hb
    refine (zoneOf_any (colsN a0) (by have := HOK.out.le; omega) H (by have := HRN40.out; omega) (.slice so sn sc) rv w' (RdC.kept HC2.out hb) (hr.kept hb) (fun l hl => HBD.out l (hH l hl))).mono ?_
    rintro e w'' ⟨v, zs, rfl, hzt, hza, hb3⟩
    have hzr : RdZV w'' v zs := ⟨hza.1.rd, fun z hz => (hza.2 z hz).ok⟩
    obtain ⟨za, zc, rfl⟩ := rdZV_shape hzr
    have hzl : zs.length = sn := by
      have := congrArg List.length hzt
      rw [List.length_map] at this
      rw [this, HSN.out]
      exact List.length_mapIdx
    rw [hzl] at hzr ⊢
    exact ⟨za, zc, zs, rfl, hzt, hzr, hb3⟩)
  have HZA := Lib.hid (HZZ.out _ _ (fun x hx => List.mem_of_mem_take hx) (by rw [List.length_take]; omega) (rdRs_take HRR2.out hKr))
  have hdr := rdRs_drop HRR2.out hKr
  obtain ⟨aq, haq⟩ : ∃ aq, aq = (if rc = K then ra else Option.map (fun x => x.add K) ra) := ⟨_, rfl⟩
  rw [← haq] at hdr
  have HZB := Lib.hid (HZZ.out _ _ (fun x hx => List.mem_of_mem_drop hx) (by rw [List.length_drop]; have := HRN.out; omega) hdr)
  have HZC := Lib.hid (HZZ.out _ L (fun x hx => hx) (by have := HRN.out; omega) HRR2.out)
  have HAQ := Lib.hid haq
  have hKi : (K : Int) ≤ (rn : Int) := by omega
  have hnc : rn ≤ rc := by
    obtain ⟨sls, g1, _⟩ := HRR2.out
    obtain ⟨a0, c0, e0, h0, _⟩ := g1
    simp only [Value.slice.injEq] at e0
    obtain ⟨_, e1, e2⟩ := e0
    have := h0.2
    omega
  have hnci : (rn : Int) ≤ (rc : Int) := by omega
  have hKc : K ≤ rc := by omega
  have hKci : (K : Int) ≤ (rc : Int) := by omega
  have hK0 : (0 : Int) ≤ (K : Int) := by omega
  clear haq hdr
  go_upto_region 4 with (fail)
  go_cut [10, 11, 12] (fun x y z wx => ∃ aa ac ba bc ca cc zsa zsb zsc, x = .slice aa sn ac ∧ y = .slice ba sn bc ∧ z = .slice ca sn cc ∧ zsa.map Zv.t = zonesT (colsN a0) ((L.take K).map fun l => l.map Prod.fst) ∧ zsb.map Zv.t = zonesT (colsN a0) ((L.drop K).map fun l => l.map Prod.fst) ∧ zsc.map Zv.t = zonesT (colsN a0) (L.map fun l => l.map Prod.fst) ∧ RdZV wx (.slice aa sn ac) zsa ∧ RdZV wx (.slice ba sn bc) zsb ∧ RdZV wx (.slice ca sn cc) zsc ∧ Below W2.heap.size W2 wx)
  case first =>
    by_cases hck : rc = K
    · obtain rfl : rn = K := by omega
      subst hck
      have HZB2 := Lib.hid (show ∀ w', Below W2.heap.size W2 w' → Calls Try.prog 33 #[.agg #[.slice so sn sc], .slice ra 0 0] w' fun e w'' => ∃ za zc zs, e = .returned (.slice za sn zc) ∧ zs.map Zv.t = zonesT (colsN a0) ((L.drop rc).map fun l => l.map Prod.fst) ∧ RdZV w'' (.slice za sn zc) zs ∧ Below w'.heap.size w' w'' from by
        have h := HZB.out
        rw [HAQ.out, if_pos rfl, Nat.sub_self] at h
        exact h)
      clear HZB HAQ
      set_option maxRecDepth 1000000 in
      go_region_held3 (fun w' => w'.cell? ⟨SB, 0, none⟩ = some (.slice so sn sc) ∧ Below W2.heap.size W2 w') (first | assumption | exact below_drw _ _ | exact Below.refl _ _ | exact ⟨(by first | assumption | exact (hB9.cell (World.block_lt_of_cell? _ _ cs0)).trans cs0), (by first | assumption | exact below_drw _ _ | exact Below.refl _ _)⟩)
        (first
          | (have hqC := hBB; go_at_call_of 33 (Value.slice ra rc rc); refine (HZC.out _ (by first | assumption | exact Below.refl _ _ | exact below_drw _ _)).mono ?_; rintro e wC ⟨ca, cc, zsc, rfl, hztc, hzrc, hbC⟩; have HZTC := Lib.hid hztc; have HZRC := Lib.hid hzrc; have hBC : Below W2.heap.size W2 wC := below_then hBB hbC; have hB9 := hBC)
          | (have hqB := hBA; go_at_call_of 33 (Value.slice ra 0 0); refine (HZB2.out _ (by first | assumption | exact Below.refl _ _ | exact below_drw _ _)).mono ?_; rintro e wB ⟨ba, bc, zsb, rfl, hztb, hzrb, hbB⟩; have HZTB := Lib.hid hztb; have HZRB := Lib.hid hzrb; have hBB : Below W2.heap.size W2 wB := below_then hBA hbB; have hB9 := hBB)
          | (go_at_call_of 33 (Value.slice ra rc rc); refine (HZA.out _ (by first | assumption | exact Below.refl _ _ | exact below_drw _ _ | exact Below.trans (by assumption) (below_drw _ _))).mono ?_; rintro e wA ⟨aa, ac, zsa, rfl, hzta, hzra, hbA⟩; have HZTA := Lib.hid hzta; have HZRA := Lib.hid hzra; have hBA : Below W2.heap.size W2 wA := (by first | exact hbA | exact below_then (below_drw _ _) hbA); have hB9 := hBA))
      all_goals
        first | go_meet | (go_wp2_with fail; go_meet)
        exact ⟨aa, ac, ba, bc, ca, cc, zsa, zsb, zsc, rfl, rfl, rfl, HZTA.out, HZTB.out, HZTC.out, (HZRA.out.kept hbB).kept hbC, HZRB.out.kept hbC, HZRC.out, hBC⟩
    · obtain ⟨ab, ao, ap, rfl⟩ : ∃ ab ao ap, ra = some ⟨ab, ao, ap⟩ := by
        rcases ra with _ | ⟨ab, ao, ap⟩
        · exfalso
          obtain ⟨sls, g1, _⟩ := HRR2.out
          obtain ⟨a0, c0, e0, h0, _⟩ := g1
          simp only [Value.slice.injEq] at e0
          obtain ⟨e3, e1, e2⟩ := e0
          have := h0.1 e3.symm
          omega
        · exact ⟨ab, ao, ap, rfl⟩
      have hck2 : (rc == K) = false := by rw [beq_eq_false_iff_ne]; exact hck
      have HZB2 := Lib.hid (show ∀ w', Below W2.heap.size W2 w' → Calls Try.prog 33 #[.agg #[.slice so sn sc], .slice (some ((⟨ab, ao, ap⟩ : Addr).add K)) (rn - K) (rc - K)] w' fun e w'' => ∃ za zc zs, e = .returned (.slice za sn zc) ∧ zs.map Zv.t = zonesT (colsN a0) ((L.drop K).map fun l => l.map Prod.fst) ∧ RdZV w'' (.slice za sn zc) zs ∧ Below w'.heap.size w' w'' from by
        have h := HZB.out
        have e : aq = some ((⟨ab, ao, ap⟩ : Addr).add K) := by
          rw [HAQ.out, if_neg hck]
          rfl
        rw [e] at h
        exact h)
      clear HZB HAQ
      set_option maxRecDepth 1000000 in
      go_region_held3 (fun w' => w'.cell? ⟨SB, 0, none⟩ = some (.slice so sn sc) ∧ Below W2.heap.size W2 w') (first | assumption | exact below_drw _ _ | exact Below.refl _ _ | exact ⟨(by first | assumption | exact (hB9.cell (World.block_lt_of_cell? _ _ cs0)).trans cs0), (by first | assumption | exact below_drw _ _ | exact Below.refl _ _)⟩)
        (first
          | (have hqC := hBB; go_at_call_of 33 (Value.slice (some ⟨ab, ao, ap⟩) rn rc); refine (HZC.out _ (by first | assumption | exact Below.refl _ _ | exact below_drw _ _)).mono ?_; rintro e wC ⟨ca, cc, zsc, rfl, hztc, hzrc, hbC⟩; have HZTC := Lib.hid hztc; have HZRC := Lib.hid hzrc; have hBC : Below W2.heap.size W2 wC := below_then hBB hbC; have hB9 := hBC)
          | (have hqB := hBA; go_at_call_of 33 (Value.slice (some ((⟨ab, ao, ap⟩ : Addr).add K)) (rn - K) (rc - K)); refine (HZB2.out _ (by first | assumption | exact Below.refl _ _ | exact below_drw _ _)).mono ?_; rintro e wB ⟨ba, bc, zsb, rfl, hztb, hzrb, hbB⟩; have HZTB := Lib.hid hztb; have HZRB := Lib.hid hzrb; have hBB : Below W2.heap.size W2 wB := below_then hBA hbB; have hB9 := hBB)
          | (go_at_call_of 33 (Value.slice (some ⟨ab, ao, ap⟩) K rc); refine (HZA.out _ (by first | assumption | exact Below.refl _ _ | exact below_drw _ _ | exact Below.trans (by assumption) (below_drw _ _))).mono ?_; rintro e wA ⟨aa, ac, zsa, rfl, hzta, hzra, hbA⟩; have HZTA := Lib.hid hzta; have HZRA := Lib.hid hzra; have hBA : Below W2.heap.size W2 wA := (by first | exact hbA | exact below_then (below_drw _ _) hbA); have hB9 := hBA))
      all_goals
        first | go_meet | (go_wp2_with fail; go_meet)
        exact ⟨aa, ac, ba, bc, ca, cc, zsa, zsb, zsc, rfl, rfl, rfl, HZTA.out, HZTB.out, HZTC.out, (HZRA.out.kept hbB).kept hbC, HZRB.out.kept hbC, HZRC.out, hBC⟩
  case rest =>
    obtain ⟨aa, ac, ba, bc, ca, cc, zsa, zsb, zsc, rfl, rfl, rfl, hta, htb, htc, hra, hrb, hrc, hbw⟩ := hcut
    obtain ⟨V, hV⟩ := name_world hbw
    rw [← hV] at hra hrb hrc hbw ⊢
    clear hV
    have HTA := Lib.hid hta
    have HTB := Lib.hid htb
    have HTC := Lib.hid htc
    have HRA := Lib.hid hra
    have HRB := Lib.hid hrb
    have HRC := Lib.hid hrc
    have HBV := Lib.hid (below_then HB2.out hbw)
    have HRRV := Lib.hid (HRR2.out.kept hbw)
    have HSBV := Lib.hid ((hbw.block SB (Array.getElem?_eq_some_iff.1 HSBW.out).1).trans HSBW.out)
    clear hta htb htc hra hrb hrc hbw cs0 HZA HZB HZC HZZ HAQ
    have cs0 : V.cell? ⟨SB, 0, none⟩ = some (.slice so sn sc) := by rw [cell_of_row V SB 0 _ _ _ HSBV.out]; rfl
    have hsn6 : sn ≤ 6 := by rw [HSN.out]; exact HOK.out.le
    go_wp2_with fail
    go_loopw [67] (fun i wr => ∃ q : Nat, q ≤ sn ∧ i = .int .i64 (q : Int) ∧ Below V.heap.size V wr) (fun i _ => sn - (intOf i).toNat)
    case atStart => exact ⟨0, Nat.zero_le _, rfl, Below.refl _ _⟩
    case round =>
      obtain ⟨q, hq, rfl, hbr⟩ := hrel
      obtain ⟨wo, rfl⟩ : ∃ wo : World, wo = wr := ⟨_, rfl⟩
      have HBR := Lib.hid hbr
      clear cs0
      by_cases hlt : q < sn
      · have hd1 : decide ((q : Int) < (sn : Int)) = true := by rw [decide_eq_true_eq]; omega
        have hd1n : decide (q < sn) = true := by rw [decide_eq_true_eq]; omega
        have hd1i : (q : Int) < (sn : Int) := by omega
        have hl0 : (0 : Int) ≤ (q : Int) := by omega
        obtain ⟨co, hco⟩ : ∃ co, (colsN a0)[q]? = some co := ⟨_, List.getElem?_eq_getElem (by rw [← HSN.out]; exact hlt)⟩
        have hck := HOK.out.ks co (List.mem_of_getElem? hco)
        obtain ⟨ta, hta, hta2⟩ := zone_at HTA.out hco
        obtain ⟨tb, htb, htb2⟩ := zone_at HTB.out hco
        obtain ⟨tw, htw, htw2⟩ := zone_at HTC.out hco
        have hall : (L.map fun l => l.map Prod.fst) = ((L.take K).map fun l => l.map Prod.fst) ++ ((L.drop K).map fun l => l.map Prod.fst) := by rw [← List.map_append, List.take_append_drop]
        have hRK : RowsK (colsN a0) (L.map fun l => l.map Prod.fst) := by rw [HM.out]; exact rows9_K HOK.out la
        have hCK := hRK.col hco
        have hn1 : tw.n = ta.n + tb.n := by
          have e1 : tw.t.n = ta.t.n + tb.t.n := by rw [hta2, htb2, htw2, hall]; exact zone_n_append _ _ _ _
          exact e1
        have hn2 : 0 ≤ ta.n ∧ ta.n ≤ 40 := by
          have e1 : 0 ≤ ta.t.n ∧ ta.t.n ≤ 40 := by
            rw [hta2]
            have e2 := zone_n_le co.k q ((L.take K).map fun l => l.map Prod.fst)
            rw [List.length_map, List.length_take] at e2
            have := HRN.out
            omega
          exact e1
        have hn3 : 0 ≤ tb.n ∧ tb.n ≤ 40 := by
          have e1 : 0 ≤ tb.t.n ∧ tb.t.n ≤ 40 := by
            rw [htb2]
            have e2 := zone_n_le co.k q ((L.drop K).map fun l => l.map Prod.fst)
            rw [List.length_map, List.length_drop] at e2
            have := HRN.out
            omega
          exact e1
        have HPA := Lib.hid (show ta.lo.1.u = false → tw.lo.1.u = false ∧ cmpT tw.lo.1 ta.lo.1 ≤ 0 ∧ 0 ≤ cmpT tw.hi.1 ta.hi.1 from fun hu => by
          have e1 := zone_part hCK (H := (L.take K).map fun l => l.map Prod.fst) (fun r hr => by rw [hall]; exact List.mem_append.2 (.inl hr)) (by rw [← hta2]; exact hu)
          rw [← hta2, ← htw2] at e1
          exact e1)
        have HPB := Lib.hid (show tb.lo.1.u = false → tw.lo.1.u = false ∧ cmpT tw.lo.1 tb.lo.1 ≤ 0 ∧ 0 ≤ cmpT tw.hi.1 tb.hi.1 from fun hu => by
          have e1 := zone_part hCK (H := (L.drop K).map fun l => l.map Prod.fst) (fun r hr => by rw [hall]; exact List.mem_append.2 (.inr hr)) (by rw [← htb2]; exact hu)
          rw [← htb2, ← htw2] at e1
          exact e1)
        have HCK := Lib.hid hck
        have HROWS := Lib.hid (show ∀ (l : List (Vc × Value)) (t : Vc × Value), l ∈ L → l[q]? = some t → t.1.u = false → 0 ≤ cmpT t.1 tw.lo.1 ∧ cmpT t.1 tw.hi.1 ≤ 0 from fun l t hl ht hu => by
          have hr : l.map Prod.fst ∈ L.map fun l => l.map Prod.fst := List.mem_map.2 ⟨l, hl, rfl⟩
          have hv : (l.map Prod.fst)[q]? = some t.1 := by rw [List.getElem?_map, ht]; rfl
          have e1 := zone_tells hCK hr hv
          have e2 := e1.2.1 hu
          obtain ⟨v, hv2, hvk⟩ := hCK _ hr
          rw [hv] at hv2
          cases hv2
          rw [← htw2] at e1 e2
          have e3 : cmpT t.1 tw.lo.1 = - cmpT tw.lo.1 t.1 := cmp_anti e1.2.2.1 hvk
          have e4 : cmpT tw.lo.1 t.1 ≤ 0 := e2.2.2.2.1
          exact ⟨by omega, e2.2.2.2.2⟩)
        have HKS := Lib.hid (show (ta.lo.1.k = co.k ∧ ta.hi.1.k = co.k) ∧ (tb.lo.1.k = co.k ∧ tb.hi.1.k = co.k) ∧ (tw.lo.1.k = co.k ∧ tw.hi.1.k = co.k) from by
          have g1 := zone_of (kd := co.k) (c := q) (rows := (L.take K).map fun l => l.map Prod.fst) (fun r hr => hCK r (by rw [hall]; exact List.mem_append.2 (.inl hr)))
          have g2 := zone_of (kd := co.k) (c := q) (rows := (L.drop K).map fun l => l.map Prod.fst) (fun r hr => hCK r (by rw [hall]; exact List.mem_append.2 (.inr hr)))
          have g3 := zone_of hCK
          rw [← hta2] at g1
          rw [← htb2] at g2
          rw [← htw2] at g3
          exact ⟨⟨g1.1.2, g1.2.2⟩, ⟨g2.1.2, g2.2.2⟩, ⟨g3.1.2, g3.2.2⟩⟩)
        have hoa := (HRA.out.2 ta (List.mem_of_getElem? hta)).kept hbr
        have hob := (HRB.out.2 tb (List.mem_of_getElem? htb)).kept hbr
        have how := (HRC.out.2 tw (List.mem_of_getElem? htw)).kept hbr
        have HOA := Lib.hid hoa
        have HOB := Lib.hid hob
        have HOW := Lib.hid how
        have hata := (HRA.out.1.kept hbr).at (show (zsa.map cellsZ)[q]? = some (cellsZ ta) by rw [List.getElem?_map, hta]; rfl)
        have hatb := (HRB.out.1.kept hbr).at (show (zsb.map cellsZ)[q]? = some (cellsZ tb) by rw [List.getElem?_map, htb]; rfl)
        have hatw := (HRC.out.1.kept hbr).at (show (zsc.map cellsZ)[q]? = some (cellsZ tw) by rw [List.getElem?_map, htw]; rfl)
        obtain ⟨a1s, ac1, hsa1⟩ := rd_shape8 hoa.1.1
        obtain ⟨a2s, ac2, hsa2⟩ := rd_shape8 hoa.2.1
        obtain ⟨b1s, bc1, hsb1⟩ := rd_shape8 hob.1.1
        obtain ⟨b2s, bc2, hsb2⟩ := rd_shape8 hob.2.1
        obtain ⟨w1s, wc1, hsw1⟩ := rd_shape8 how.1.1
        obtain ⟨w2s, wc2, hsw2⟩ := rd_shape8 how.2.1
        obtain ⟨an, ⟨⟨alu, alk, aln, alb⟩, als⟩, ⟨⟨ahu, ahk, ahn, ahb⟩, ahs⟩⟩ := ta
        obtain ⟨bn, ⟨⟨blu, blk, bln, blb⟩, bls⟩, ⟨⟨bhu, bhk, bhn, bhb⟩, bhs⟩⟩ := tb
        obtain ⟨wn, ⟨⟨wlu, wlk, wln, wlb⟩, wls⟩, ⟨⟨whu, whk, whn, whb⟩, whs⟩⟩ := tw
        simp only at hn1 hn2 hn3 hsa1 hsa2 hsb1 hsb2 hsw1 hsw2
        subst hsa1 hsa2 hsb1 hsb2 hsw1 hsw2 hn1
        obtain ⟨hn2a, hn2b⟩ := hn2
        obtain ⟨hn3a, hn3b⟩ := hn3
        obtain ⟨xb, xo, rfl, hxc⟩ := hata
        obtain ⟨yb, yo, rfl, hyc⟩ := hatb
        obtain ⟨zb, zo, rfl, hzc⟩ := hatw
        have ca0 : wo.cell? ⟨xb, xo + q * 9, none⟩ = some (.int .i64 an) := hxc 0 _ rfl
        have ca1 : wo.cell? ⟨xb, xo + q * 9 + 1, none⟩ = some (.bool alu) := hxc 1 _ rfl
        have ca2 : wo.cell? ⟨xb, xo + q * 9 + 2, none⟩ = some (.int .i64 alk) := hxc 2 _ rfl
        have ca3 : wo.cell? ⟨xb, xo + q * 9 + 3, none⟩ = some (.int .i64 aln) := hxc 3 _ rfl
        have ca4 : wo.cell? ⟨xb, xo + q * 9 + 4, none⟩ = some (.slice a1s alb.length ac1) := hxc 4 _ rfl
        have ca5 : wo.cell? ⟨xb, xo + q * 9 + 5, none⟩ = some (.bool ahu) := hxc 5 _ rfl
        have ca6 : wo.cell? ⟨xb, xo + q * 9 + 6, none⟩ = some (.int .i64 ahk) := hxc 6 _ rfl
        have ca7 : wo.cell? ⟨xb, xo + q * 9 + 7, none⟩ = some (.int .i64 ahn) := hxc 7 _ rfl
        have ca8 : wo.cell? ⟨xb, xo + q * 9 + 8, none⟩ = some (.slice a2s ahb.length ac2) := hxc 8 _ rfl
        have cb0 : wo.cell? ⟨yb, yo + q * 9, none⟩ = some (.int .i64 bn) := hyc 0 _ rfl
        have cb1 : wo.cell? ⟨yb, yo + q * 9 + 1, none⟩ = some (.bool blu) := hyc 1 _ rfl
        have cb2 : wo.cell? ⟨yb, yo + q * 9 + 2, none⟩ = some (.int .i64 blk) := hyc 2 _ rfl
        have cb3 : wo.cell? ⟨yb, yo + q * 9 + 3, none⟩ = some (.int .i64 bln) := hyc 3 _ rfl
        have cb4 : wo.cell? ⟨yb, yo + q * 9 + 4, none⟩ = some (.slice b1s blb.length bc1) := hyc 4 _ rfl
        have cb5 : wo.cell? ⟨yb, yo + q * 9 + 5, none⟩ = some (.bool bhu) := hyc 5 _ rfl
        have cb6 : wo.cell? ⟨yb, yo + q * 9 + 6, none⟩ = some (.int .i64 bhk) := hyc 6 _ rfl
        have cb7 : wo.cell? ⟨yb, yo + q * 9 + 7, none⟩ = some (.int .i64 bhn) := hyc 7 _ rfl
        have cb8 : wo.cell? ⟨yb, yo + q * 9 + 8, none⟩ = some (.slice b2s bhb.length bc2) := hyc 8 _ rfl
        have cw0 : wo.cell? ⟨zb, zo + q * 9, none⟩ = some (.int .i64 (an + bn)) := hzc 0 _ rfl
        have cw1 : wo.cell? ⟨zb, zo + q * 9 + 1, none⟩ = some (.bool wlu) := hzc 1 _ rfl
        have cw2 : wo.cell? ⟨zb, zo + q * 9 + 2, none⟩ = some (.int .i64 wlk) := hzc 2 _ rfl
        have cw3 : wo.cell? ⟨zb, zo + q * 9 + 3, none⟩ = some (.int .i64 wln) := hzc 3 _ rfl
        have cw4 : wo.cell? ⟨zb, zo + q * 9 + 4, none⟩ = some (.slice w1s wlb.length wc1) := hzc 4 _ rfl
        have cw5 : wo.cell? ⟨zb, zo + q * 9 + 5, none⟩ = some (.bool whu) := hzc 5 _ rfl
        have cw6 : wo.cell? ⟨zb, zo + q * 9 + 6, none⟩ = some (.int .i64 whk) := hzc 6 _ rfl
        have cw7 : wo.cell? ⟨zb, zo + q * 9 + 7, none⟩ = some (.int .i64 whn) := hzc 7 _ rfl
        have cw8 : wo.cell? ⟨zb, zo + q * 9 + 8, none⟩ = some (.slice w2s whb.length wc2) := hzc 8 _ rfl
        have hnn : (an + bn != an + bn) = false := by simp
        have HXC := Lib.hid hxc
        have HYC := Lib.hid hyc
        have HZC := Lib.hid hzc
        have HCO := Lib.hid hco
        clear hta hta2 htb htb2 htw htw2 hall hRK hCK hoa hob how hbr hco hxc hyc hzc
        go_upto_region 10 with (fail)
        go_quiet (fail)
        all_goals
          go_upto_region 12 with (fail)
          go_region
          all_goals
            obtain ⟨V1, hV1⟩ : ∃ V1 : World, V1 = (wo.drewN (nq + 1)).alloc (.cells #[.int .i64 an, .bool alu, .int .i64 alk, .int .i64 aln, .slice a1s alb.length ac1, .bool ahu, .int .i64 ahk, .int .i64 ahn, .slice a2s ahb.length ac2, .int .i64 bn, .bool blu, .int .i64 blk, .int .i64 bln, .slice b1s blb.length bc1, .bool bhu, .int .i64 bhk, .int .i64 bhn, .slice b2s bhb.length bc2] 57) := ⟨_, rfl⟩
            rw [← hV1]
            have hb1 : Below wo.heap.size wo V1 := by rw [hV1]; exact below_lay (below_draws (Below.refl _ wo) _) _
            have HL1 := Lib.hid (show V1.heap[wo.heap.size]? = some (.cells #[.int .i64 an, .bool alu, .int .i64 alk, .int .i64 aln, .slice a1s alb.length ac1, .bool ahu, .int .i64 ahk, .int .i64 ahn, .slice a2s ahb.length ac2, .int .i64 bn, .bool blu, .int .i64 blk, .int .i64 bln, .slice b1s blb.length bc1, .bool bhu, .int .i64 bhk, .int .i64 bhn, .slice b2s bhb.length bc2] 57 (0, 0)) by rw [hV1]; exact heap_alloc_new (wo.drewN (nq + 1)) _)
            obtain ⟨LB, hLB⟩ : ∃ LB, LB = wo.heap.size := ⟨_, rfl⟩
            rw [← hLB] at HL1 ⊢
            have HB1 := Lib.hid (HBR.out.trans (hb1.mono HBR.out.size))
            have HBo1 := Lib.hid hb1
            have HCW0 := Lib.hid cw0
            have HCW1 := Lib.hid cw1
            have HCW2 := Lib.hid cw2
            have HCW3 := Lib.hid cw3
            have HCW4 := Lib.hid cw4
            have HCW5 := Lib.hid cw5
            have HCW6 := Lib.hid cw6
            have HCW7 := Lib.hid cw7
            have HCW8 := Lib.hid cw8
            clear hV1 hb1 hLB ca0 ca1 ca2 ca3 ca4 ca5 ca6 ca7 ca8 cb0 cb1 cb2 cb3 cb4 cb5 cb6 cb7 cb8 cw0 cw1 cw2 cw3 cw4 cw5 cw6 cw7 cw8
            go_wp2_with fail
            go_loopw [97] (fun i wr => ∃ j : Nat, j ≤ 2 ∧ i = .int .i64 (j : Int) ∧ Below V.heap.size V wr ∧ Below wo.heap.size wo wr ∧ wr.heap[LB]? = some (.cells #[.int .i64 an, .bool alu, .int .i64 alk, .int .i64 aln, .slice a1s alb.length ac1, .bool ahu, .int .i64 ahk, .int .i64 ahn, .slice a2s ahb.length ac2, .int .i64 bn, .bool blu, .int .i64 blk, .int .i64 bln, .slice b1s blb.length bc1, .bool bhu, .int .i64 bhk, .int .i64 bhn, .slice b2s bhb.length bc2] 57 (0, 0))) (fun i _ => 2 - (intOf i).toNat)
            case atStart => exact ⟨0, by omega, rfl, HB1.out, HBo1.out, HL1.out⟩
            case round =>
              obtain ⟨j, hj, rfl, hb2, hbo2, hlw⟩ := hrel
              have HB2 := Lib.hid hb2
              have HBo2 := Lib.hid hbo2
              have HLW := Lib.hid hlw
              clear hb2 hbo2 hlw
              rcases (by omega : j = 0 ∨ j = 1 ∨ j = 2) with rfl | rfl | rfl
              · have cj := fun i => (cell_of_row wr LB i _ _ _ HLW.out)
                have e0 : wr.cell? ⟨LB, 0, none⟩ = some (.int .i64 an) := by rw [cell_of_row wr LB 0 _ _ _ HLW.out]; rfl
                have e1 : wr.cell? ⟨LB, 1, none⟩ = some (.bool alu) := by rw [cell_of_row wr LB 1 _ _ _ HLW.out]; rfl
                have e2 : wr.cell? ⟨LB, 2, none⟩ = some (.int .i64 alk) := by rw [cell_of_row wr LB 2 _ _ _ HLW.out]; rfl
                have e3 : wr.cell? ⟨LB, 3, none⟩ = some (.int .i64 aln) := by rw [cell_of_row wr LB 3 _ _ _ HLW.out]; rfl
                have e4 : wr.cell? ⟨LB, 4, none⟩ = some (.slice a1s alb.length ac1) := by rw [cell_of_row wr LB 4 _ _ _ HLW.out]; rfl
                have e5 : wr.cell? ⟨LB, 5, none⟩ = some (.bool ahu) := by rw [cell_of_row wr LB 5 _ _ _ HLW.out]; rfl
                have e6 : wr.cell? ⟨LB, 6, none⟩ = some (.int .i64 ahk) := by rw [cell_of_row wr LB 6 _ _ _ HLW.out]; rfl
                have e7 : wr.cell? ⟨LB, 7, none⟩ = some (.int .i64 ahn) := by rw [cell_of_row wr LB 7 _ _ _ HLW.out]; rfl
                have e8 : wr.cell? ⟨LB, 8, none⟩ = some (.slice a2s ahb.length ac2) := by rw [cell_of_row wr LB 8 _ _ _ HLW.out]; rfl
                clear cj
                go_upto_region 15 with (fail)
                obtain ⟨W5, hW5⟩ : ∃ W5 : World, W5 = wr.alloc (.cells #[.int .i64 an, .bool alu, .int .i64 alk, .int .i64 aln, .slice a1s alb.length ac1, .bool ahu, .int .i64 ahk, .int .i64 ahn, .slice a2s ahb.length ac2] 57) := ⟨_, rfl⟩
                rw [← hW5]
                have hb5 : Below wr.heap.size wr W5 := by rw [hW5]; exact below_alloc _ _
                have hz5 : W5.heap[wr.heap.size]? = some (.cells #[.int .i64 an, .bool alu, .int .i64 alk, .int .i64 aln, .slice a1s alb.length ac1, .bool ahu, .int .i64 ahk, .int .i64 ahn, .slice a2s ahb.length ac2] 57 (0, 0)) := by rw [hW5]; exact heap_alloc_new wr _
                obtain ⟨ZB, hZB⟩ : ∃ ZB, ZB = wr.heap.size := ⟨_, rfl⟩
                rw [← hZB] at hz5 ⊢
                have HB5 := Lib.hid (HB2.out.trans (hb5.mono HB2.out.size))
                have HB5o := Lib.hid (HBo2.out.trans (hb5.mono HBo2.out.size))
                have g0 : W5.cell? ⟨ZB, 0, none⟩ = some (.int .i64 an) := by rw [cell_of_row W5 ZB 0 _ _ _ hz5]; rfl
                have g1 : W5.cell? ⟨ZB, 1, none⟩ = some (.bool alu) := by rw [cell_of_row W5 ZB 1 _ _ _ hz5]; rfl
                have g2 : W5.cell? ⟨ZB, 2, none⟩ = some (.int .i64 alk) := by rw [cell_of_row W5 ZB 2 _ _ _ hz5]; rfl
                have g3 : W5.cell? ⟨ZB, 3, none⟩ = some (.int .i64 aln) := by rw [cell_of_row W5 ZB 3 _ _ _ hz5]; rfl
                have g4 : W5.cell? ⟨ZB, 4, none⟩ = some (.slice a1s alb.length ac1) := by rw [cell_of_row W5 ZB 4 _ _ _ hz5]; rfl
                have g5 : W5.cell? ⟨ZB, 5, none⟩ = some (.bool ahu) := by rw [cell_of_row W5 ZB 5 _ _ _ hz5]; rfl
                have g6 : W5.cell? ⟨ZB, 6, none⟩ = some (.int .i64 ahk) := by rw [cell_of_row W5 ZB 6 _ _ _ hz5]; rfl
                have g7 : W5.cell? ⟨ZB, 7, none⟩ = some (.int .i64 ahn) := by rw [cell_of_row W5 ZB 7 _ _ _ hz5]; rfl
                have g8 : W5.cell? ⟨ZB, 8, none⟩ = some (.slice a2s ahb.length ac2) := by rw [cell_of_row W5 ZB 8 _ _ _ hz5]; rfl
                have HL5 := Lib.hid ((hb5.block LB (Array.getElem?_eq_some_iff.1 HLW.out).1).trans HLW.out)
                clear hW5 hb5 hz5 hZB e0 e1 e2 e3 e4 e5 e6 e7 e8
                have f1 : W5.cell? ⟨zb, zo + q * 9 + 1, none⟩ = some (.bool wlu) := (HB5o.out.cell (World.block_lt_of_cell? _ _ HCW1.out)).trans HCW1.out
                have f2 : W5.cell? ⟨zb, zo + q * 9 + 2, none⟩ = some (.int .i64 wlk) := (HB5o.out.cell (World.block_lt_of_cell? _ _ HCW2.out)).trans HCW2.out
                have f3 : W5.cell? ⟨zb, zo + q * 9 + 3, none⟩ = some (.int .i64 wln) := (HB5o.out.cell (World.block_lt_of_cell? _ _ HCW3.out)).trans HCW3.out
                have f4 : W5.cell? ⟨zb, zo + q * 9 + 4, none⟩ = some (.slice w1s wlb.length wc1) := (HB5o.out.cell (World.block_lt_of_cell? _ _ HCW4.out)).trans HCW4.out
                have f5 : W5.cell? ⟨zb, zo + q * 9 + 5, none⟩ = some (.bool whu) := (HB5o.out.cell (World.block_lt_of_cell? _ _ HCW5.out)).trans HCW5.out
                have f6 : W5.cell? ⟨zb, zo + q * 9 + 6, none⟩ = some (.int .i64 whk) := (HB5o.out.cell (World.block_lt_of_cell? _ _ HCW6.out)).trans HCW6.out
                have f7 : W5.cell? ⟨zb, zo + q * 9 + 7, none⟩ = some (.int .i64 whn) := (HB5o.out.cell (World.block_lt_of_cell? _ _ HCW7.out)).trans HCW7.out
                have f8 : W5.cell? ⟨zb, zo + q * 9 + 8, none⟩ = some (.slice w2s whb.length wc2) := (HB5o.out.cell (World.block_lt_of_cell? _ _ HCW8.out)).trans HCW8.out
                have HQ1 := Lib.hid fun W (h : Below W5.heap.size W5 W) => refCompare_any (⟨wlu, wlk, wln, wlb⟩, (Value.slice w1s wlb.length wc1)) (⟨alu, alk, aln, alb⟩, (Value.slice a1s alb.length ac1)) W (HOW.out.1.kept (HB5o.out.trans (h.mono HB5o.out.size))) (HOA.out.1.kept (HB5o.out.trans (h.mono HB5o.out.size)))
                have HQ2 := Lib.hid fun W (h : Below W5.heap.size W5 W) => refCompare_any (⟨whu, whk, whn, whb⟩, (Value.slice w2s whb.length wc2)) (⟨ahu, ahk, ahn, ahb⟩, (Value.slice a2s ahb.length ac2)) W (HOW.out.2.kept (HB5o.out.trans (h.mono HB5o.out.size))) (HOA.out.2.kept (HB5o.out.trans (h.mono HB5o.out.size)))
                unfold aggV at HQ1 HQ2
                simp only at HQ1 HQ2
                obtain ⟨c1, hc1⟩ : ∃ c, c = refC ⟨wlu, wlk, wln, wlb⟩ ⟨alu, alk, aln, alb⟩ := ⟨_, rfl⟩
                obtain ⟨c2, hc2⟩ : ∃ c, c = refC ⟨whu, whk, whn, whb⟩ ⟨ahu, ahk, ahn, ahb⟩ := ⟨_, rfl⟩
                rw [← hc1] at HQ1
                rw [← hc2] at HQ2
                have HD := Lib.hid (show alu = false → wlu = false ∧ decide (0 < c1) = false ∧ decide (c2 < 0) = false from fun hu => by
                  have e1 := HPA.out hu
                  have k1 := HKS.out.1
                  have k2 := HKS.out.2.2
                  rw [hc1, hc2, refC_cmpT (k2.1.trans k1.1.symm) (by rw [k2.1]; exact HCK.out), refC_cmpT (k2.2.trans k1.2.symm) (by rw [k2.2]; exact HCK.out)]
                  refine ⟨e1.1, ?_, ?_⟩
                  · rw [decide_eq_false_iff_not]; have := e1.2.1; omega
                  · rw [decide_eq_false_iff_not]; have := e1.2.2; omega)
                clear hc1 hc2
                cases alu
                · obtain ⟨hwl, hdc1, hdc2⟩ := HD.out rfl
                  subst hwl
                  go_cut [134] (fun x wx => x = .bool false ∧ Below W5.heap.size W5 wx)
                  case first =>
                    set_option maxRecDepth 1000000 in
                    go_region_held3 (fun w' => w'.cell? ⟨ZB, 0, none⟩ = some (.int .i64 an) ∧ w'.cell? ⟨ZB, 1, none⟩ = some (.bool false) ∧ w'.cell? ⟨ZB, 2, none⟩ = some (.int .i64 alk) ∧ w'.cell? ⟨ZB, 3, none⟩ = some (.int .i64 aln) ∧ w'.cell? ⟨ZB, 4, none⟩ = some (.slice a1s alb.length ac1) ∧ w'.cell? ⟨ZB, 5, none⟩ = some (.bool ahu) ∧ w'.cell? ⟨ZB, 6, none⟩ = some (.int .i64 ahk) ∧ w'.cell? ⟨ZB, 7, none⟩ = some (.int .i64 ahn) ∧ w'.cell? ⟨ZB, 8, none⟩ = some (.slice a2s ahb.length ac2) ∧ w'.cell? ⟨zb, zo + q * 9 + 1, none⟩ = some (.bool false) ∧ w'.cell? ⟨zb, zo + q * 9 + 2, none⟩ = some (.int .i64 wlk) ∧ w'.cell? ⟨zb, zo + q * 9 + 3, none⟩ = some (.int .i64 wln) ∧ w'.cell? ⟨zb, zo + q * 9 + 4, none⟩ = some (.slice w1s wlb.length wc1) ∧ w'.cell? ⟨zb, zo + q * 9 + 5, none⟩ = some (.bool whu) ∧ w'.cell? ⟨zb, zo + q * 9 + 6, none⟩ = some (.int .i64 whk) ∧ w'.cell? ⟨zb, zo + q * 9 + 7, none⟩ = some (.int .i64 whn) ∧ w'.cell? ⟨zb, zo + q * 9 + 8, none⟩ = some (.slice w2s whb.length wc2) ∧ Below W5.heap.size W5 w') (first | assumption | exact below_drw _ _ | exact Below.refl _ _ | exact ⟨(by first | exact g0 | exact (hB9.cell (World.block_lt_of_cell? _ _ g0)).trans g0), (by first | exact g1 | exact (hB9.cell (World.block_lt_of_cell? _ _ g1)).trans g1), (by first | exact g2 | exact (hB9.cell (World.block_lt_of_cell? _ _ g2)).trans g2), (by first | exact g3 | exact (hB9.cell (World.block_lt_of_cell? _ _ g3)).trans g3), (by first | exact g4 | exact (hB9.cell (World.block_lt_of_cell? _ _ g4)).trans g4), (by first | exact g5 | exact (hB9.cell (World.block_lt_of_cell? _ _ g5)).trans g5), (by first | exact g6 | exact (hB9.cell (World.block_lt_of_cell? _ _ g6)).trans g6), (by first | exact g7 | exact (hB9.cell (World.block_lt_of_cell? _ _ g7)).trans g7), (by first | exact g8 | exact (hB9.cell (World.block_lt_of_cell? _ _ g8)).trans g8), (by first | exact f1 | exact (hB9.cell (World.block_lt_of_cell? _ _ f1)).trans f1), (by first | exact f2 | exact (hB9.cell (World.block_lt_of_cell? _ _ f2)).trans f2), (by first | exact f3 | exact (hB9.cell (World.block_lt_of_cell? _ _ f3)).trans f3), (by first | exact f4 | exact (hB9.cell (World.block_lt_of_cell? _ _ f4)).trans f4), (by first | exact f5 | exact (hB9.cell (World.block_lt_of_cell? _ _ f5)).trans f5), (by first | exact f6 | exact (hB9.cell (World.block_lt_of_cell? _ _ f6)).trans f6), (by first | exact f7 | exact (hB9.cell (World.block_lt_of_cell? _ _ f7)).trans f7), (by first | exact f8 | exact (hB9.cell (World.block_lt_of_cell? _ _ f8)).trans f8), (by first | assumption | exact below_drw _ _ | exact Below.refl _ _)⟩)
                      (first
                        | (go_at_call_of 34 (Value.slice w1s wlb.length wc1); refine (HQ1.out _ (by first | assumption | exact Below.refl _ _ | exact below_drw _ _)).mono ?_; rintro e wA ⟨rfl, hbA⟩; have hBA : Below W5.heap.size W5 wA := (by first | exact hbA | exact Below.trans (below_drw _ _) hbA); have hB9 := hBA)
                        | (go_at_call_of 34 (Value.slice w2s whb.length wc2); refine (HQ2.out _ (by first | assumption | exact Below.refl _ _ | exact below_drw _ _)).mono ?_; rintro e wB ⟨rfl, hbB⟩; have hBB : Below W5.heap.size W5 wB := below_then hBA hbB; have hB9 := hBB))
                    all_goals
                      first | go_meet | (go_wp2_with fail; go_meet)
                      first | exact ⟨rfl, hBB⟩ | exact ⟨by simp, hBB⟩
                  case rest =>
                    obtain ⟨rfl, hbx⟩ := hcut
                    have HB6 := Lib.hid (HB5.out.trans (hbx.mono HB5.out.size))
                    have HB6o := Lib.hid (HB5o.out.trans (hbx.mono HB5o.out.size))
                    have HL6 := Lib.hid ((hbx.block LB (Array.getElem?_eq_some_iff.1 HL5.out).1).trans HL5.out)
                    clear hbx
                    go_wp2_with fail
                    go_roundw
                    case rel => exact ⟨1, by omega, by go_num, HB6.out, HB6o.out, HL6.out⟩
                    case measure => simp [intOf]
                · clear HD
                  go_quiet (fail)
                  all_goals
                    go_wp2_with fail
                    go_roundw
                    case rel => exact ⟨1, by omega, by go_num, below_draws HB5.out _, below_draws HB5o.out _, HL5.out⟩
                    case measure => simp [intOf]
              · have cj := fun i => (cell_of_row wr LB i _ _ _ HLW.out)
                have e0 : wr.cell? ⟨LB, 9, none⟩ = some (.int .i64 bn) := by rw [cell_of_row wr LB 9 _ _ _ HLW.out]; rfl
                have e1 : wr.cell? ⟨LB, 10, none⟩ = some (.bool blu) := by rw [cell_of_row wr LB 10 _ _ _ HLW.out]; rfl
                have e2 : wr.cell? ⟨LB, 11, none⟩ = some (.int .i64 blk) := by rw [cell_of_row wr LB 11 _ _ _ HLW.out]; rfl
                have e3 : wr.cell? ⟨LB, 12, none⟩ = some (.int .i64 bln) := by rw [cell_of_row wr LB 12 _ _ _ HLW.out]; rfl
                have e4 : wr.cell? ⟨LB, 13, none⟩ = some (.slice b1s blb.length bc1) := by rw [cell_of_row wr LB 13 _ _ _ HLW.out]; rfl
                have e5 : wr.cell? ⟨LB, 14, none⟩ = some (.bool bhu) := by rw [cell_of_row wr LB 14 _ _ _ HLW.out]; rfl
                have e6 : wr.cell? ⟨LB, 15, none⟩ = some (.int .i64 bhk) := by rw [cell_of_row wr LB 15 _ _ _ HLW.out]; rfl
                have e7 : wr.cell? ⟨LB, 16, none⟩ = some (.int .i64 bhn) := by rw [cell_of_row wr LB 16 _ _ _ HLW.out]; rfl
                have e8 : wr.cell? ⟨LB, 17, none⟩ = some (.slice b2s bhb.length bc2) := by rw [cell_of_row wr LB 17 _ _ _ HLW.out]; rfl
                clear cj
                go_upto_region 15 with (fail)
                obtain ⟨W5, hW5⟩ : ∃ W5 : World, W5 = wr.alloc (.cells #[.int .i64 bn, .bool blu, .int .i64 blk, .int .i64 bln, .slice b1s blb.length bc1, .bool bhu, .int .i64 bhk, .int .i64 bhn, .slice b2s bhb.length bc2] 57) := ⟨_, rfl⟩
                rw [← hW5]
                have hb5 : Below wr.heap.size wr W5 := by rw [hW5]; exact below_alloc _ _
                have hz5 : W5.heap[wr.heap.size]? = some (.cells #[.int .i64 bn, .bool blu, .int .i64 blk, .int .i64 bln, .slice b1s blb.length bc1, .bool bhu, .int .i64 bhk, .int .i64 bhn, .slice b2s bhb.length bc2] 57 (0, 0)) := by rw [hW5]; exact heap_alloc_new wr _
                obtain ⟨ZB, hZB⟩ : ∃ ZB, ZB = wr.heap.size := ⟨_, rfl⟩
                rw [← hZB] at hz5 ⊢
                have HB5 := Lib.hid (HB2.out.trans (hb5.mono HB2.out.size))
                have HB5o := Lib.hid (HBo2.out.trans (hb5.mono HBo2.out.size))
                have g0 : W5.cell? ⟨ZB, 0, none⟩ = some (.int .i64 bn) := by rw [cell_of_row W5 ZB 0 _ _ _ hz5]; rfl
                have g1 : W5.cell? ⟨ZB, 1, none⟩ = some (.bool blu) := by rw [cell_of_row W5 ZB 1 _ _ _ hz5]; rfl
                have g2 : W5.cell? ⟨ZB, 2, none⟩ = some (.int .i64 blk) := by rw [cell_of_row W5 ZB 2 _ _ _ hz5]; rfl
                have g3 : W5.cell? ⟨ZB, 3, none⟩ = some (.int .i64 bln) := by rw [cell_of_row W5 ZB 3 _ _ _ hz5]; rfl
                have g4 : W5.cell? ⟨ZB, 4, none⟩ = some (.slice b1s blb.length bc1) := by rw [cell_of_row W5 ZB 4 _ _ _ hz5]; rfl
                have g5 : W5.cell? ⟨ZB, 5, none⟩ = some (.bool bhu) := by rw [cell_of_row W5 ZB 5 _ _ _ hz5]; rfl
                have g6 : W5.cell? ⟨ZB, 6, none⟩ = some (.int .i64 bhk) := by rw [cell_of_row W5 ZB 6 _ _ _ hz5]; rfl
                have g7 : W5.cell? ⟨ZB, 7, none⟩ = some (.int .i64 bhn) := by rw [cell_of_row W5 ZB 7 _ _ _ hz5]; rfl
                have g8 : W5.cell? ⟨ZB, 8, none⟩ = some (.slice b2s bhb.length bc2) := by rw [cell_of_row W5 ZB 8 _ _ _ hz5]; rfl
                have HL5 := Lib.hid ((hb5.block LB (Array.getElem?_eq_some_iff.1 HLW.out).1).trans HLW.out)
                clear hW5 hb5 hz5 hZB e0 e1 e2 e3 e4 e5 e6 e7 e8
                have f1 : W5.cell? ⟨zb, zo + q * 9 + 1, none⟩ = some (.bool wlu) := (HB5o.out.cell (World.block_lt_of_cell? _ _ HCW1.out)).trans HCW1.out
                have f2 : W5.cell? ⟨zb, zo + q * 9 + 2, none⟩ = some (.int .i64 wlk) := (HB5o.out.cell (World.block_lt_of_cell? _ _ HCW2.out)).trans HCW2.out
                have f3 : W5.cell? ⟨zb, zo + q * 9 + 3, none⟩ = some (.int .i64 wln) := (HB5o.out.cell (World.block_lt_of_cell? _ _ HCW3.out)).trans HCW3.out
                have f4 : W5.cell? ⟨zb, zo + q * 9 + 4, none⟩ = some (.slice w1s wlb.length wc1) := (HB5o.out.cell (World.block_lt_of_cell? _ _ HCW4.out)).trans HCW4.out
                have f5 : W5.cell? ⟨zb, zo + q * 9 + 5, none⟩ = some (.bool whu) := (HB5o.out.cell (World.block_lt_of_cell? _ _ HCW5.out)).trans HCW5.out
                have f6 : W5.cell? ⟨zb, zo + q * 9 + 6, none⟩ = some (.int .i64 whk) := (HB5o.out.cell (World.block_lt_of_cell? _ _ HCW6.out)).trans HCW6.out
                have f7 : W5.cell? ⟨zb, zo + q * 9 + 7, none⟩ = some (.int .i64 whn) := (HB5o.out.cell (World.block_lt_of_cell? _ _ HCW7.out)).trans HCW7.out
                have f8 : W5.cell? ⟨zb, zo + q * 9 + 8, none⟩ = some (.slice w2s whb.length wc2) := (HB5o.out.cell (World.block_lt_of_cell? _ _ HCW8.out)).trans HCW8.out
                have HQ1 := Lib.hid fun W (h : Below W5.heap.size W5 W) => refCompare_any (⟨wlu, wlk, wln, wlb⟩, (Value.slice w1s wlb.length wc1)) (⟨blu, blk, bln, blb⟩, (Value.slice b1s blb.length bc1)) W (HOW.out.1.kept (HB5o.out.trans (h.mono HB5o.out.size))) (HOB.out.1.kept (HB5o.out.trans (h.mono HB5o.out.size)))
                have HQ2 := Lib.hid fun W (h : Below W5.heap.size W5 W) => refCompare_any (⟨whu, whk, whn, whb⟩, (Value.slice w2s whb.length wc2)) (⟨bhu, bhk, bhn, bhb⟩, (Value.slice b2s bhb.length bc2)) W (HOW.out.2.kept (HB5o.out.trans (h.mono HB5o.out.size))) (HOB.out.2.kept (HB5o.out.trans (h.mono HB5o.out.size)))
                unfold aggV at HQ1 HQ2
                simp only at HQ1 HQ2
                obtain ⟨c1, hc1⟩ : ∃ c, c = refC ⟨wlu, wlk, wln, wlb⟩ ⟨blu, blk, bln, blb⟩ := ⟨_, rfl⟩
                obtain ⟨c2, hc2⟩ : ∃ c, c = refC ⟨whu, whk, whn, whb⟩ ⟨bhu, bhk, bhn, bhb⟩ := ⟨_, rfl⟩
                rw [← hc1] at HQ1
                rw [← hc2] at HQ2
                have HD := Lib.hid (show blu = false → wlu = false ∧ decide (0 < c1) = false ∧ decide (c2 < 0) = false from fun hu => by
                  have e1 := HPB.out hu
                  have k1 := HKS.out.2.1
                  have k2 := HKS.out.2.2
                  rw [hc1, hc2, refC_cmpT (k2.1.trans k1.1.symm) (by rw [k2.1]; exact HCK.out), refC_cmpT (k2.2.trans k1.2.symm) (by rw [k2.2]; exact HCK.out)]
                  refine ⟨e1.1, ?_, ?_⟩
                  · rw [decide_eq_false_iff_not]; have := e1.2.1; omega
                  · rw [decide_eq_false_iff_not]; have := e1.2.2; omega)
                clear hc1 hc2
                cases blu
                · obtain ⟨hwl, hdc1, hdc2⟩ := HD.out rfl
                  subst hwl
                  go_cut [134] (fun x wx => x = .bool false ∧ Below W5.heap.size W5 wx)
                  case first =>
                    set_option maxRecDepth 1000000 in
                    go_region_held3 (fun w' => w'.cell? ⟨ZB, 0, none⟩ = some (.int .i64 bn) ∧ w'.cell? ⟨ZB, 1, none⟩ = some (.bool false) ∧ w'.cell? ⟨ZB, 2, none⟩ = some (.int .i64 blk) ∧ w'.cell? ⟨ZB, 3, none⟩ = some (.int .i64 bln) ∧ w'.cell? ⟨ZB, 4, none⟩ = some (.slice b1s blb.length bc1) ∧ w'.cell? ⟨ZB, 5, none⟩ = some (.bool bhu) ∧ w'.cell? ⟨ZB, 6, none⟩ = some (.int .i64 bhk) ∧ w'.cell? ⟨ZB, 7, none⟩ = some (.int .i64 bhn) ∧ w'.cell? ⟨ZB, 8, none⟩ = some (.slice b2s bhb.length bc2) ∧ w'.cell? ⟨zb, zo + q * 9 + 1, none⟩ = some (.bool false) ∧ w'.cell? ⟨zb, zo + q * 9 + 2, none⟩ = some (.int .i64 wlk) ∧ w'.cell? ⟨zb, zo + q * 9 + 3, none⟩ = some (.int .i64 wln) ∧ w'.cell? ⟨zb, zo + q * 9 + 4, none⟩ = some (.slice w1s wlb.length wc1) ∧ w'.cell? ⟨zb, zo + q * 9 + 5, none⟩ = some (.bool whu) ∧ w'.cell? ⟨zb, zo + q * 9 + 6, none⟩ = some (.int .i64 whk) ∧ w'.cell? ⟨zb, zo + q * 9 + 7, none⟩ = some (.int .i64 whn) ∧ w'.cell? ⟨zb, zo + q * 9 + 8, none⟩ = some (.slice w2s whb.length wc2) ∧ Below W5.heap.size W5 w') (first | assumption | exact below_drw _ _ | exact Below.refl _ _ | exact ⟨(by first | exact g0 | exact (hB9.cell (World.block_lt_of_cell? _ _ g0)).trans g0), (by first | exact g1 | exact (hB9.cell (World.block_lt_of_cell? _ _ g1)).trans g1), (by first | exact g2 | exact (hB9.cell (World.block_lt_of_cell? _ _ g2)).trans g2), (by first | exact g3 | exact (hB9.cell (World.block_lt_of_cell? _ _ g3)).trans g3), (by first | exact g4 | exact (hB9.cell (World.block_lt_of_cell? _ _ g4)).trans g4), (by first | exact g5 | exact (hB9.cell (World.block_lt_of_cell? _ _ g5)).trans g5), (by first | exact g6 | exact (hB9.cell (World.block_lt_of_cell? _ _ g6)).trans g6), (by first | exact g7 | exact (hB9.cell (World.block_lt_of_cell? _ _ g7)).trans g7), (by first | exact g8 | exact (hB9.cell (World.block_lt_of_cell? _ _ g8)).trans g8), (by first | exact f1 | exact (hB9.cell (World.block_lt_of_cell? _ _ f1)).trans f1), (by first | exact f2 | exact (hB9.cell (World.block_lt_of_cell? _ _ f2)).trans f2), (by first | exact f3 | exact (hB9.cell (World.block_lt_of_cell? _ _ f3)).trans f3), (by first | exact f4 | exact (hB9.cell (World.block_lt_of_cell? _ _ f4)).trans f4), (by first | exact f5 | exact (hB9.cell (World.block_lt_of_cell? _ _ f5)).trans f5), (by first | exact f6 | exact (hB9.cell (World.block_lt_of_cell? _ _ f6)).trans f6), (by first | exact f7 | exact (hB9.cell (World.block_lt_of_cell? _ _ f7)).trans f7), (by first | exact f8 | exact (hB9.cell (World.block_lt_of_cell? _ _ f8)).trans f8), (by first | assumption | exact below_drw _ _ | exact Below.refl _ _)⟩)
                      (first
                        | (go_at_call_of 34 (Value.slice w1s wlb.length wc1); refine (HQ1.out _ (by first | assumption | exact Below.refl _ _ | exact below_drw _ _)).mono ?_; rintro e wA ⟨rfl, hbA⟩; have hBA : Below W5.heap.size W5 wA := (by first | exact hbA | exact Below.trans (below_drw _ _) hbA); have hB9 := hBA)
                        | (go_at_call_of 34 (Value.slice w2s whb.length wc2); refine (HQ2.out _ (by first | assumption | exact Below.refl _ _ | exact below_drw _ _)).mono ?_; rintro e wB ⟨rfl, hbB⟩; have hBB : Below W5.heap.size W5 wB := below_then hBA hbB; have hB9 := hBB))
                    all_goals
                      first | go_meet | (go_wp2_with fail; go_meet)
                      first | exact ⟨rfl, hBB⟩ | exact ⟨by simp, hBB⟩
                  case rest =>
                    obtain ⟨rfl, hbx⟩ := hcut
                    have HB6 := Lib.hid (HB5.out.trans (hbx.mono HB5.out.size))
                    have HB6o := Lib.hid (HB5o.out.trans (hbx.mono HB5o.out.size))
                    have HL6 := Lib.hid ((hbx.block LB (Array.getElem?_eq_some_iff.1 HL5.out).1).trans HL5.out)
                    clear hbx
                    go_wp2_with fail
                    go_roundw
                    case rel => exact ⟨2, by omega, by go_num, HB6.out, HB6o.out, HL6.out⟩
                    case measure => simp [intOf]
                · clear HD
                  go_quiet (fail)
                  all_goals
                    go_wp2_with fail
                    go_roundw
                    case rel => exact ⟨2, by omega, by go_num, below_draws HB5.out _, below_draws HB5o.out _, HL5.out⟩
                    case measure => simp [intOf]
              · obtain ⟨wq, rfl⟩ : ∃ wq : World, wq = wr := ⟨_, rfl⟩
                go_wp2_with fail
                go_loopw [138] (fun i wr => ∃ p : Nat, p ≤ rn ∧ i = .int .i64 (p : Int) ∧ Below V.heap.size V wr ∧ Below wo.heap.size wo wr) (fun i _ => rn - (intOf i).toNat)
                case atStart => exact ⟨0, Nat.zero_le _, rfl, HB2.out, HBo2.out⟩
                case round =>
                  obtain ⟨p, hp, rfl, hb3, hbo3⟩ := hrel
                  have HB3 := Lib.hid hb3
                  have HBo3 := Lib.hid hbo3
                  by_cases hpl : p < rn
                  · have hp1 : decide ((p : Int) < (rn : Int)) = true := by rw [decide_eq_true_eq]; omega
                    have hp1n : decide (p < rn) = true := by rw [decide_eq_true_eq]; omega
                    have hp1i : (p : Int) < (rn : Int) := by omega
                    have hp0 : (0 : Int) ≤ (p : Int) := by omega
                    obtain ⟨l, hl⟩ : ∃ l, L[p]? = some l := ⟨_, List.getElem?_eq_getElem (by rw [← HRN.out]; exact hpl)⟩
                    obtain ⟨rb, ro, ta, tc, rfl, hcq, hrp⟩ := (HRRV.out.kept hb3).at hl
                    have hmem : l.map Prod.fst ∈ rows9 (colsN a0) la := by rw [← HM.out]; exact List.mem_map.2 ⟨l, List.mem_of_getElem? hl, rfl⟩
                    have hrk := rows9_K HOK.out la _ hmem
                    have hll : l.length = sn := by
                      have h := hrk.1
                      rw [List.length_map] at h
                      rw [h, HSN.out]
                    rw [hll] at hcq hrp
                    obtain ⟨t, ht⟩ : ∃ t, l[q]? = some t := ⟨_, List.getElem?_eq_getElem (by rw [hll]; exact hlt)⟩
                    have hkt : t.1.k = co.k := (hrk.2 q co t.1 HCO.out (by rw [List.getElem?_map, ht]; rfl)).2
                    have hrw := HROWS.out l t (List.mem_of_getElem? hl) ht
                    obtain ⟨vb, vo, rfl, v0, v1, v2, v3, hokv⟩ := hrp.at ht
                    obtain ⟨sv1, sv2, hsv⟩ := rd_shape8 hokv.1
                    obtain ⟨⟨vu, vk, vn, vbs⟩, vs⟩ := t
                    simp only at hsv v0 v1 v2 v3 hkt hrw
                    subst hsv
                    have HOV := Lib.hid hokv
                    have HKT := Lib.hid hkt
                    have HRW := Lib.hid hrw
                    clear hkt hrw hll
                    clear hmem hrk hrp ht hl hokv
                    go_upto_region 22 with (fail)
                    obtain ⟨W5, hW5⟩ : ∃ W5 : World, W5 = wr.alloc (.cells #[.bool vu, .int .i64 vk, .int .i64 vn, .slice sv1 vbs.length sv2] 28) := ⟨_, rfl⟩
                    rw [← hW5]
                    have hb5 : Below wr.heap.size wr W5 := by rw [hW5]; exact below_alloc _ _
                    have hz5 : W5.heap[wr.heap.size]? = some (.cells #[.bool vu, .int .i64 vk, .int .i64 vn, .slice sv1 vbs.length sv2] 28 (0, 0)) := by rw [hW5]; exact heap_alloc_new wr _
                    obtain ⟨ZB, hZB⟩ : ∃ ZB, ZB = wr.heap.size := ⟨_, rfl⟩
                    rw [← hZB] at hz5 ⊢
                    have HB5 := Lib.hid (HB3.out.trans (hb5.mono HB3.out.size))
                    have HB5o := Lib.hid (HBo3.out.trans (hb5.mono HBo3.out.size))
                    have HOV5 := Lib.hid (HOV.out.kept hb5)
                    have g0 : W5.cell? ⟨ZB, 0, none⟩ = some (.bool vu) := by rw [cell_of_row W5 ZB 0 _ _ _ hz5]; rfl
                    have g1 : W5.cell? ⟨ZB, 1, none⟩ = some (.int .i64 vk) := by rw [cell_of_row W5 ZB 1 _ _ _ hz5]; rfl
                    have g2 : W5.cell? ⟨ZB, 2, none⟩ = some (.int .i64 vn) := by rw [cell_of_row W5 ZB 2 _ _ _ hz5]; rfl
                    have g3 : W5.cell? ⟨ZB, 3, none⟩ = some (.slice sv1 vbs.length sv2) := by rw [cell_of_row W5 ZB 3 _ _ _ hz5]; rfl
                    clear hW5 hb5 hz5 hZB hb3 hbo3 hcq v0 v1 v2 v3
                    have f1 : W5.cell? ⟨zb, zo + q * 9 + 1, none⟩ = some (.bool wlu) := (HB5o.out.cell (World.block_lt_of_cell? _ _ HCW1.out)).trans HCW1.out
                    have f2 : W5.cell? ⟨zb, zo + q * 9 + 2, none⟩ = some (.int .i64 wlk) := (HB5o.out.cell (World.block_lt_of_cell? _ _ HCW2.out)).trans HCW2.out
                    have f3 : W5.cell? ⟨zb, zo + q * 9 + 3, none⟩ = some (.int .i64 wln) := (HB5o.out.cell (World.block_lt_of_cell? _ _ HCW3.out)).trans HCW3.out
                    have f4 : W5.cell? ⟨zb, zo + q * 9 + 4, none⟩ = some (.slice w1s wlb.length wc1) := (HB5o.out.cell (World.block_lt_of_cell? _ _ HCW4.out)).trans HCW4.out
                    have f5 : W5.cell? ⟨zb, zo + q * 9 + 5, none⟩ = some (.bool whu) := (HB5o.out.cell (World.block_lt_of_cell? _ _ HCW5.out)).trans HCW5.out
                    have f6 : W5.cell? ⟨zb, zo + q * 9 + 6, none⟩ = some (.int .i64 whk) := (HB5o.out.cell (World.block_lt_of_cell? _ _ HCW6.out)).trans HCW6.out
                    have f7 : W5.cell? ⟨zb, zo + q * 9 + 7, none⟩ = some (.int .i64 whn) := (HB5o.out.cell (World.block_lt_of_cell? _ _ HCW7.out)).trans HCW7.out
                    have f8 : W5.cell? ⟨zb, zo + q * 9 + 8, none⟩ = some (.slice w2s whb.length wc2) := (HB5o.out.cell (World.block_lt_of_cell? _ _ HCW8.out)).trans HCW8.out
                    have HQ1 := Lib.hid fun W (h : Below W5.heap.size W5 W) => refCompare_any (⟨vu, vk, vn, vbs⟩, .slice sv1 vbs.length sv2) (⟨wlu, wlk, wln, wlb⟩, (Value.slice w1s wlb.length wc1)) W (HOV5.out.kept h) (HOW.out.1.kept (HB5o.out.trans (h.mono HB5o.out.size)))
                    have HQ2 := Lib.hid fun W (h : Below W5.heap.size W5 W) => refCompare_any (⟨vu, vk, vn, vbs⟩, .slice sv1 vbs.length sv2) (⟨whu, whk, whn, whb⟩, (Value.slice w2s whb.length wc2)) W (HOV5.out.kept h) (HOW.out.2.kept (HB5o.out.trans (h.mono HB5o.out.size)))
                    unfold aggV at HQ1 HQ2
                    simp only at HQ1 HQ2
                    obtain ⟨c1, hc1⟩ : ∃ c, c = refC ⟨vu, vk, vn, vbs⟩ ⟨wlu, wlk, wln, wlb⟩ := ⟨_, rfl⟩
                    obtain ⟨c2, hc2⟩ : ∃ c, c = refC ⟨vu, vk, vn, vbs⟩ ⟨whu, whk, whn, whb⟩ := ⟨_, rfl⟩
                    rw [← hc1] at HQ1
                    rw [← hc2] at HQ2
                    have HD := Lib.hid (show vu = false → decide (c1 < 0) = false ∧ decide (0 < c2) = false from fun hu => by
                      have e1 := HRW.out hu
                      have k2 := HKS.out.2.2
                      rw [hc1, hc2, refC_cmpT (HKT.out.trans k2.1.symm) (by rw [HKT.out]; exact HCK.out), refC_cmpT (HKT.out.trans k2.2.symm) (by rw [HKT.out]; exact HCK.out)]
                      refine ⟨?_, ?_⟩
                      · rw [decide_eq_false_iff_not]; have := e1.1; omega
                      · rw [decide_eq_false_iff_not]; have := e1.2; omega)
                    clear hc1 hc2
                    cases vu
                    · obtain ⟨hdc1, hdc2⟩ := HD.out rfl
                      go_cut [168] (fun x wx => x = .bool false ∧ Below W5.heap.size W5 wx)
                      case first =>
                        set_option maxRecDepth 1000000 in
                        go_region_held3 (fun w' => w'.cell? ⟨ZB, 0, none⟩ = some (.bool false) ∧ w'.cell? ⟨ZB, 1, none⟩ = some (.int .i64 vk) ∧ w'.cell? ⟨ZB, 2, none⟩ = some (.int .i64 vn) ∧ w'.cell? ⟨ZB, 3, none⟩ = some (.slice sv1 vbs.length sv2) ∧ w'.cell? ⟨zb, zo + q * 9 + 1, none⟩ = some (.bool wlu) ∧ w'.cell? ⟨zb, zo + q * 9 + 2, none⟩ = some (.int .i64 wlk) ∧ w'.cell? ⟨zb, zo + q * 9 + 3, none⟩ = some (.int .i64 wln) ∧ w'.cell? ⟨zb, zo + q * 9 + 4, none⟩ = some (.slice w1s wlb.length wc1) ∧ w'.cell? ⟨zb, zo + q * 9 + 5, none⟩ = some (.bool whu) ∧ w'.cell? ⟨zb, zo + q * 9 + 6, none⟩ = some (.int .i64 whk) ∧ w'.cell? ⟨zb, zo + q * 9 + 7, none⟩ = some (.int .i64 whn) ∧ w'.cell? ⟨zb, zo + q * 9 + 8, none⟩ = some (.slice w2s whb.length wc2) ∧ Below W5.heap.size W5 w') (first | assumption | exact below_drw _ _ | exact Below.refl _ _ | exact ⟨(by first | exact g0 | exact (hB9.cell (World.block_lt_of_cell? _ _ g0)).trans g0), (by first | exact g1 | exact (hB9.cell (World.block_lt_of_cell? _ _ g1)).trans g1), (by first | exact g2 | exact (hB9.cell (World.block_lt_of_cell? _ _ g2)).trans g2), (by first | exact g3 | exact (hB9.cell (World.block_lt_of_cell? _ _ g3)).trans g3), (by first | exact f1 | exact (hB9.cell (World.block_lt_of_cell? _ _ f1)).trans f1), (by first | exact f2 | exact (hB9.cell (World.block_lt_of_cell? _ _ f2)).trans f2), (by first | exact f3 | exact (hB9.cell (World.block_lt_of_cell? _ _ f3)).trans f3), (by first | exact f4 | exact (hB9.cell (World.block_lt_of_cell? _ _ f4)).trans f4), (by first | exact f5 | exact (hB9.cell (World.block_lt_of_cell? _ _ f5)).trans f5), (by first | exact f6 | exact (hB9.cell (World.block_lt_of_cell? _ _ f6)).trans f6), (by first | exact f7 | exact (hB9.cell (World.block_lt_of_cell? _ _ f7)).trans f7), (by first | exact f8 | exact (hB9.cell (World.block_lt_of_cell? _ _ f8)).trans f8), (by first | assumption | exact below_drw _ _ | exact Below.refl _ _)⟩)
                          (first
                            | (go_at_call_of 34 (Value.slice w1s wlb.length wc1); refine (HQ1.out _ (by first | assumption | exact Below.refl _ _ | exact below_drw _ _)).mono ?_; rintro e wA ⟨rfl, hbA⟩; have hBA : Below W5.heap.size W5 wA := (by first | exact hbA | exact Below.trans (below_drw _ _) hbA); have hB9 := hBA)
                            | (go_at_call_of 34 (Value.slice w2s whb.length wc2); refine (HQ2.out _ (by first | assumption | exact Below.refl _ _ | exact below_drw _ _)).mono ?_; rintro e wB ⟨rfl, hbB⟩; have hBB : Below W5.heap.size W5 wB := below_then hBA hbB; have hB9 := hBB))
                        all_goals
                          first | go_meet | (go_wp2_with fail; go_meet)
                          first | exact ⟨rfl, hBB⟩ | exact ⟨by simp, hBB⟩
                      case rest =>
                        obtain ⟨rfl, hbx⟩ := hcut
                        have HB6 := Lib.hid (HB5.out.trans (hbx.mono HB5.out.size))
                        have HB6o := Lib.hid (HB5o.out.trans (hbx.mono HB5o.out.size))
                        clear hbx
                        go_wp2_with fail
                        go_roundw
                        case rel => exact ⟨p + 1, by omega, by go_num, HB6.out, HB6o.out⟩
                        case measure => simp [intOf]; omega
                    · clear HD
                      go_quiet (fail)
                      all_goals
                        go_wp2_with fail
                        go_roundw
                        case rel => exact ⟨p + 1, by omega, by go_num, below_draws HB5.out _, below_draws HB5o.out _⟩
                        case measure => simp [intOf]; omega
                  · have hp1 : decide ((p : Int) < (rn : Int)) = false := by rw [decide_eq_false_iff_not]; omega
                    have hp1n : decide (p < rn) = false := by rw [decide_eq_false_iff_not]; omega
                    clear hb3 hbo3
                    go_wp2_with fail
                    go_roundw
                    case rel => exact ⟨q + 1, by omega, by go_num, HB3.out⟩
                    case measure => simp [intOf]; omega
      · have hd1 : decide ((q : Int) < (sn : Int)) = false := by rw [decide_eq_false_iff_not]; omega
        have hd1n : decide (q < sn) = false := by rw [decide_eq_false_iff_not]; omega
        have HBW := Lib.hid (below_then HBV.out hbr)
        clear hlt hbr
        go_wp2_with fail
        refine (awake9_any wo).mono ?_
        rintro e w5 ⟨rfl, hb5⟩
        have HF := Lib.hid (below_then HBW.out hb5)
        clear hb5
        go_wp2_with fail
        go_ret
        exact ⟨rfl, HF.out⟩

end Go.Proofs.Ytpabneinikbneaa
