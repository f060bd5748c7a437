/-
  The walk of NormSame.
-/
import Derived.Test.YtpabneinikbneaaNsamem
import Derived.Test.YtpabneinikbneaaNormKeys
namespace Go.Proofs.Ytpabneinikbneaa
set_option linter.unusedVariables false
set_option linter.unusedSimpArgs false
open Go.RowKit

/-- The law's Row hands back that row. -/
theorem row_rd (v : Value) (cols : List Co) (n : Int) (w : World) (hv : RdC w v cols) (hl : cols.length ≤ 6) :
    Calls Try.prog 28 #[.agg #[v], .int .i64 n] w fun e w' => ∃ ao cap, e = .returned (.slice ao cols.length cap) ∧ RdRow w' (.slice ao cols.length cap) (rowOf cols n) ∧ Below w.heap.size w w' := by
  refine (row_is v cols n w hv hl).mono ?_
  rintro e w' ⟨u, l, rfl, h1, h2, h3, h4⟩
  obtain ⟨oa, oc, rfl⟩ := oinv_shape h2
  have hlen : l.length = cols.length := by have := congrArg List.length h1; rw [List.length_map, rowOf_len] at this; exact this
  rw [hlen] at h2 ⊢
  refine ⟨oa, oc, rfl, ⟨l, h1, ?_, fun t ht => h2.ok t ht⟩, h3⟩
  exact rdS_own h2.own (by rw [List.length_map, hlen]) fun t ht => by obtain ⟨x, _, rfl⟩ := List.mem_map.1 ht; rfl

theorem row_zero {cols : List Co} (h : ColsOk cols) (n : Int) : ∃ x, (rowOf cols n)[0]? = some x ∧ x.k = 1 := by
  have h0 : 0 < (rowOf cols n).length := by rw [rowOf_len]; exact h.ne
  refine ⟨(rowOf cols n)[0], List.getElem?_eq_getElem h0, ?_⟩
  obtain ⟨c, hc, hk⟩ := rowOf_k h n (List.getElem?_eq_getElem h0)
  rw [hk]
  exact (h.hd c hc).1
theorem cntL_bound : ∀ {l : List Pt} {C : Nat}, (∀ t ∈ l, cntT t ≤ C) → cntL l ≤ l.length * C
  | [], C, _ => by simp [cntL]
  | q :: r, C, h => by
    have h1 := h q List.mem_cons_self
    have h2 := cntL_bound (l := r) fun x hx => h x (List.mem_cons_of_mem _ hx)
    rw [cntL, List.length_cons, Nat.add_mul]
    omega
theorem form_cnt {a : List (List Pt)} (hs : SmallN a) (hl : ∀ x ∈ a, ∀ t ∈ x, LeafN 5 2048 t) : cntT (.mk 5 0 0 zeroV (a.map fun x => .mk 4 0 0 zeroV x)) ≤ 10000000 := by
  have h1 : ∀ q ∈ a.map (fun x => Pt.mk 4 0 0 zeroV x), cntT q ≤ 32 + 32 * 2049 := fun q hq => by
    obtain ⟨x, hx, rfl⟩ := List.mem_map.1 hq
    have h2 := cntL_bound (l := x) (C := 2049) fun t ht => (hl x hx t ht).2
    have h3 := hs.2 x hx
    have h4 := Nat.mul_le_mul_right 2049 h3
    have hz : zeroV.b.length = 0 := rfl
    rw [cntT, hz]
    omega
  have h2 := cntL_bound h1
  rw [List.length_map] at h2
  have h3 := Nat.mul_le_mul_right (32 + 32 * 2049) hs.1
  have hz : zeroV.b.length = 0 := rfl
  rw [cntT, List.length_map, hz]
  have := hs.1
  omega

set_option maxRecDepth 100000 in
set_option maxHeartbeats 32000000 in
theorem walk_NormSame (a0 : Int) (a1 : Option Addr) (len1 cap1 : Nat) (z1 : List Int) (a2 : Option Addr) (len2 cap2 : Nat) (z2 : List Int) (w : World) (w0 : (Lit.int .i64 a0).wf = true) (w1 : IsRow .i64 w a1 len1 cap1 z1) (w2 : IsRow .i64 w a2 len2 cap2 z2) :
    Calls Try.prog 6 #[.int .i64 a0, .slice a1 len1 cap1, .slice a2 len2 cap2] w fun e w' => e = .returned (.bool true) ∧ Below w.heap.size w w' := by
  obtain ⟨la, hla, h1, _⟩ := isRow_rd w1
  obtain ⟨lb, hlb, h2, _⟩ := isRow_rd w2
  have HLA := Lib.hid hla
  have HLB := Lib.hid hlb
  have HR1 := Lib.hid h1
  have HR2 := Lib.hid h2
  have HS := Lib.hid (schema_rd a0 w)
  have HOK := Lib.hid (colsN_ok a0)
  clear hla h1 hlb h2 w0 w1 w2
  go_enter Try.func6, Try.ntmps6
  go_wp2_with fail
  refine HS.out.mono ?_
  rintro e W1 ⟨so, sc, rfl, hs1, hb1⟩
  obtain ⟨sn, hsn⟩ : ∃ sn, sn = (colsN a0).length := ⟨_, rfl⟩
  have hc1 := rdC_of hs1
  rw [← hsn] at hs1 hc1 ⊢
  have HSN := Lib.hid hsn
  have hc2 := RdC.kept hc1 (below_alloc W1 (.cells #[.slice so sn sc] 24))
  have HB1 := Lib.hid (below_lay hb1 (.cells #[.slice so sn sc] 24))
  have HC1 := Lib.hid hc2
  have hsb := heap_alloc_new W1 (.cells #[.slice so sn sc] 24)
  have HP := Lib.hid (lawpred_any (colsN a0) HOK.out.ne HOK.out.le la 4 (by decide) 0 (.slice so sn sc) a1 len1 cap1 (W1.alloc (.cells #[.slice so sn sc] 24)) (by decide) HLA.out.symm hc2 (HR1.out.kept HB1.out))
  obtain ⟨pp, hpp⟩ : ∃ pp, pp = predOf (colsN a0) la 4 0 := ⟨_, rfl⟩
  have HPP := Lib.hid (show depT pp ≤ 5 ∧ cntT pp ≤ 2048 by rw [hpp]; exact predOf_small (colsN a0) la 4 0)
  have HPK := Lib.hid (show ∀ m, okE (rowOf (colsN a0) m) pp from fun m => hpp ▸ predOf_ok HOK.out m la 4 0)
  have HPZ := Lib.hid (show zeroK pp from hpp ▸ predOf_zeroK HOK.out la 4 0)
  rw [← hpp] at HP
  clear hs1 hc1 hc2 hb1 hsn hpp
  go_wp2_with fail
  refine HP.out.mono ?_
  rintro e W2 ⟨cs, rfl, ha, hb2⟩
  replace hsb := (hb2.block W1.heap.size (by simp)).trans hsb
  have HC2 := Lib.hid (RdC.kept HC1.out hb2)
  have HB2 := Lib.hid (below_then HB1.out hb2)
  have hrd := RdA1.rd _ ha
  obtain ⟨pk, pc, po, pvk, pvn, pu, psa, psn, psc, pla, pln, plc, hcs⟩ := rdA1_shape ha
  subst hcs
  have HRD := Lib.hid hrd
  obtain ⟨SB, hSB⟩ : ∃ SB, SB = W1.heap.size := ⟨_, rfl⟩
  rw [← hSB] at hsb ⊢
  clear hrd ha hb2 HP hSB
  go_upto_region 3 with (fail)
  obtain ⟨W4, hW4⟩ : ∃ W4 : World, W4 = W2.alloc (.cells #[.int .i64 pk, .int .i64 pc, .int .i64 po, .bool pu, .int .i64 pvk, .int .i64 pvn, .slice psa psn psc, .slice pla pln plc] 31) := ⟨_, rfl⟩
  rw [← hW4]
  have hB24 : Below W2.heap.size W2 W4 := by rw [hW4]; exact below_alloc _ _
  have hp : W4.heap[W2.heap.size]? = some (.cells #[.int .i64 pk, .int .i64 pc, .int .i64 po, .bool pu, .int .i64 pvk, .int .i64 pvn, .slice psa psn psc, .slice pla pln plc] 31 (0, 0)) := by rw [hW4]; exact heap_alloc_new W2 _
  replace hsb := (hB24.block SB (Array.getElem?_eq_some_iff.1 hsb).1).trans hsb
  have HB4 := Lib.hid (below_then HB2.out hB24)
  have HC4 := Lib.hid (RdC.kept HC2.out hB24)
  have HR4 := Lib.hid (RdT1.kept hB24 _ HRD.out)
  obtain ⟨PB, hPB⟩ : ∃ PB, PB = W2.heap.size := ⟨_, rfl⟩
  rw [← hPB] at hp ⊢
  clear hW4 hB24 hPB
  have cp0 : W4.cell? ⟨PB, 0, none⟩ = some (.int .i64 pk) := by rw [cell_of_row W4 PB 0 _ _ _ hp]; rfl
  have cp1 : W4.cell? ⟨PB, 1, none⟩ = some (.int .i64 pc) := by rw [cell_of_row W4 PB 1 _ _ _ hp]; rfl
  have cp2 : W4.cell? ⟨PB, 2, none⟩ = some (.int .i64 po) := by rw [cell_of_row W4 PB 2 _ _ _ hp]; rfl
  have cp3 : W4.cell? ⟨PB, 3, none⟩ = some (.bool pu) := by rw [cell_of_row W4 PB 3 _ _ _ hp]; rfl
  have cp4 : W4.cell? ⟨PB, 4, none⟩ = some (.int .i64 pvk) := by rw [cell_of_row W4 PB 4 _ _ _ hp]; rfl
  have cp5 : W4.cell? ⟨PB, 5, none⟩ = some (.int .i64 pvn) := by rw [cell_of_row W4 PB 5 _ _ _ hp]; rfl
  have cp6 : W4.cell? ⟨PB, 6, none⟩ = some (.slice psa psn psc) := by rw [cell_of_row W4 PB 6 _ _ _ hp]; rfl
  have cp7 : W4.cell? ⟨PB, 7, none⟩ = some (.slice pla pln plc) := by rw [cell_of_row W4 PB 7 _ _ _ hp]; rfl
  obtain ⟨nr, hnr⟩ : ∃ nr, nr = nrm pp false := ⟨_, rfl⟩
  have HNR := Lib.hid hnr
  have hnt : normT pp = nr.map fun a => .mk 5 0 0 zeroV (a.map fun x => .mk 4 0 0 zeroV x) := by rw [hnr]; rfl
  have hnd : nodesT pp ≤ 4096 := by have h1 := nodes_cnt pp; have h2 := HPP.out; omega
  have HNM := Lib.hid (norm_any pp (by have h2 := HPP.out; omega) (by have h2 := HPP.out; omega) hnd _ W4 HR4.out)
  rw [hnt] at HNM
  have HKY := Lib.hid fun W (h : RdT1 W pp [.int .i64 pk, .int .i64 pc, .int .i64 po, .bool pu, .int .i64 pvk, .int .i64 pvn, .slice psa psn psc, .slice pla pln plc]) => key_any pp (by have h2 := HPP.out; omega) (by have h2 := HPP.out; omega) hnd _ W h
  obtain ⟨kv, hkv⟩ : ∃ kv, kv = keyNV pp := ⟨_, rfl⟩
  obtain ⟨kb, hkb⟩ : ∃ kb, kb = keyNB pp := ⟨_, rfl⟩
  rw [← hkv, ← hkb] at HKY
  have HKK := Lib.hid (show kb = true → keyT pp = some kv from fun h => by
    rw [hkb] at h
    unfold keyNB at h
    obtain ⟨x, hx⟩ := Option.isSome_iff_exists.1 h
    rw [hkv, hx]
    unfold keyNV
    rw [hx]
    rfl)
  clear hnr hnt hnd hkv hkb
  go_wp2_with fail
  refine HNM.out.mono ?_
  rintro e V3 ⟨hret, hby⟩
  replace hsb := (hby.block SB (Array.getElem?_eq_some_iff.1 hsb).1).trans hsb
  replace hp := (hby.block PB (Array.getElem?_eq_some_iff.1 hp).1).trans hp
  have HB5 := Lib.hid (below_then HB4.out hby)
  have HC5 := Lib.hid (RdC.kept HC4.out hby)
  have HR5 := Lib.hid (RdT1.kept hby _ HR4.out)
  clear hby cp0 cp1 cp2 cp3 cp4 cp5 cp6 cp7
  cases nr with
  | none =>
    obtain rfl : e = .returned (.tuple #[.agg #[.int .i64 0, .int .i64 0, .int .i64 0, .bool false, .int .i64 0, .int .i64 0, .slice none 0 0, .slice none 0 0], .bool false]) := hret
    go_upto_region 4 with (fail)
    obtain ⟨V4, hV4⟩ : ∃ V4 : World, V4 = V3.alloc (.cells #[.int .i64 0, .int .i64 0, .int .i64 0, .bool false, .int .i64 0, .int .i64 0, .slice none 0 0, .slice none 0 0] 31) := ⟨_, rfl⟩
    rw [← hV4]
    have hby : Below V3.heap.size V3 V4 := by rw [hV4]; exact below_alloc _ _
    have hx : V4.heap[V3.heap.size]? = some (.cells #[.int .i64 0, .int .i64 0, .int .i64 0, .bool false, .int .i64 0, .int .i64 0, .slice none 0 0, .slice none 0 0] 31 (0, 0)) := by rw [hV4]; exact heap_alloc_new V3 _
    replace hsb := (hby.block SB (Array.getElem?_eq_some_iff.1 hsb).1).trans hsb
    replace hp := (hby.block PB (Array.getElem?_eq_some_iff.1 hp).1).trans hp
    obtain ⟨XB, hXB⟩ : ∃ XB, XB = V3.heap.size := ⟨_, rfl⟩
    rw [← hXB] at hx ⊢
    have HB6 := Lib.hid (below_then HB5.out hby)
    have HC6 := Lib.hid (RdC.kept HC5.out hby)
    have HR6 := Lib.hid (RdT1.kept hby _ HR5.out)
    clear hby hV4 hXB
    have cp0 : V4.cell? ⟨PB, 0, none⟩ = some (.int .i64 pk) := by rw [cell_of_row V4 PB 0 _ _ _ hp]; rfl
    have cp1 : V4.cell? ⟨PB, 1, none⟩ = some (.int .i64 pc) := by rw [cell_of_row V4 PB 1 _ _ _ hp]; rfl
    have cp2 : V4.cell? ⟨PB, 2, none⟩ = some (.int .i64 po) := by rw [cell_of_row V4 PB 2 _ _ _ hp]; rfl
    have cp3 : V4.cell? ⟨PB, 3, none⟩ = some (.bool pu) := by rw [cell_of_row V4 PB 3 _ _ _ hp]; rfl
    have cp4 : V4.cell? ⟨PB, 4, none⟩ = some (.int .i64 pvk) := by rw [cell_of_row V4 PB 4 _ _ _ hp]; rfl
    have cp5 : V4.cell? ⟨PB, 5, none⟩ = some (.int .i64 pvn) := by rw [cell_of_row V4 PB 5 _ _ _ hp]; rfl
    have cp6 : V4.cell? ⟨PB, 6, none⟩ = some (.slice psa psn psc) := by rw [cell_of_row V4 PB 6 _ _ _ hp]; rfl
    have cp7 : V4.cell? ⟨PB, 7, none⟩ = some (.slice pla pln plc) := by rw [cell_of_row V4 PB 7 _ _ _ hp]; rfl
    go_wp2_with fail
    refine (HKY.out V4 HR6.out).mono ?_
    rintro e V5 ⟨rfl, hby⟩
    replace hsb := (hby.block SB (Array.getElem?_eq_some_iff.1 hsb).1).trans hsb
    replace hp := (hby.block PB (Array.getElem?_eq_some_iff.1 hp).1).trans hp
    replace hx := (hby.block XB (Array.getElem?_eq_some_iff.1 hx).1).trans hx
    have HSB := Lib.hid hsb
    have HPW := Lib.hid hp
    have HXW := Lib.hid hx
    have HB7 := Lib.hid (below_then HB6.out hby)
    have HC7 := Lib.hid (RdC.kept HC6.out hby)
    have HR7 := Lib.hid (RdT1.kept hby _ HR6.out)
    clear hby hsb hp hx cp0 cp1 cp2 cp3 cp4 cp5 cp6 cp7
    go_wp2_with fail
    go_loopw [13] (fun i wr => ∃ q : Nat, q ≤ 30 ∧ i = .int .i64 (q : Int) ∧ Below V5.heap.size V5 wr) (fun i _ => 30 - (intOf i).toNat)
    case atStart => exact ⟨0, by omega, rfl, Below.refl _ _⟩
    case round =>
      obtain ⟨q, hq, rfl, hb⟩ := hrel
      have HB := Lib.hid hb
      have hsb := (hb.block SB (Array.getElem?_eq_some_iff.1 HSB.out).1).trans HSB.out
      have hp := (hb.block PB (Array.getElem?_eq_some_iff.1 HPW.out).1).trans HPW.out
      have hx := (hb.block XB (Array.getElem?_eq_some_iff.1 HXW.out).1).trans HXW.out
      have HSBr := Lib.hid hsb
      have HPr := Lib.hid hp
      have HXr := Lib.hid hx
      have HBw := Lib.hid (below_then HB7.out hb)
      clear hb hsb hp
      by_cases hlt : q < len2 ∧ q < 30
      · obtain ⟨hlt1, hlt2⟩ := hlt
        have hd1 : decide ((q : Int) < (len2 : Int)) = true := by rw [decide_eq_true_eq]; omega
        have hd1n : decide (q < len2) = true := by rw [decide_eq_true_eq]; omega
        have hd1i : (q : Int) < (len2 : Int) := by omega
        have hl0 : (0 : Int) ≤ (q : Int) := by omega
        have hd2 : decide ((q : Int) < 30) = true := by rw [decide_eq_true_eq]; omega
        obtain ⟨b, off, rfl, hcells⟩ := (rdz_cells (HR2.out.kept HBw.out)).2 (by omega)
        have hcn := hcells q hlt1
        obtain ⟨rn, hrn⟩ : ∃ rn, rn = lb.getD q 0 := ⟨_, rfl⟩
        rw [← hrn] at hcn
        have hcs : wr.cell? ⟨SB, 0, none⟩ = some (.slice so sn sc) := by rw [cell_of_row wr SB 0 _ _ _ HSBr.out]; rfl
        obtain ⟨r, hr⟩ : ∃ r, r = rowOf (colsN a0) rn := ⟨_, rfl⟩
        have HROW := Lib.hid fun W (h : Below wr.heap.size wr W) => row_rd (.slice so sn sc) (colsN a0) rn W (RdC.kept (RdC.kept HC7.out HB.out) h) HOK.out.le
        rw [← hr, ← HSN.out] at HROW
        have HEP := Lib.hid (show okE r pp from hr ▸ HPK.out rn)
        have HRL := Lib.hid (show r.length = sn by rw [hr, rowOf_len, HSN.out])
        have HR0 := Lib.hid (show ∃ x, r[0]? = some x ∧ x.k = 1 from hr ▸ row_zero HOK.out rn)
        clear hcells hrn hr hx
        go_upto_region 8 with (fail)
        go_region_law (go_simp; go_at_call 28; refine (HROW.out _ ?_).mono ?_; (exact below_drw _ _); rintro e w2 ⟨ra, rc, rfl, hrr, hb2⟩; have HRR := Lib.hid hrr; have HB2R := Lib.hid (show Below wr.heap.size wr w2 from (below_drw _ wr).trans hb2); have hp2 := (HB2R.out.block PB (Array.getElem?_eq_some_iff.1 HPr.out).1).trans HPr.out; have cp0 : w2.cell? ⟨PB, 0, none⟩ = some (.int .i64 pk) := (by rw [cell_of_row w2 PB 0 _ _ _ hp2]; rfl); have cp1 : w2.cell? ⟨PB, 1, none⟩ = some (.int .i64 pc) := (by rw [cell_of_row w2 PB 1 _ _ _ hp2]; rfl); have cp2 : w2.cell? ⟨PB, 2, none⟩ = some (.int .i64 po) := (by rw [cell_of_row w2 PB 2 _ _ _ hp2]; rfl); have cp3 : w2.cell? ⟨PB, 3, none⟩ = some (.bool pu) := (by rw [cell_of_row w2 PB 3 _ _ _ hp2]; rfl); have cp4 : w2.cell? ⟨PB, 4, none⟩ = some (.int .i64 pvk) := (by rw [cell_of_row w2 PB 4 _ _ _ hp2]; rfl); have cp5 : w2.cell? ⟨PB, 5, none⟩ = some (.int .i64 pvn) := (by rw [cell_of_row w2 PB 5 _ _ _ hp2]; rfl); have cp6 : w2.cell? ⟨PB, 6, none⟩ = some (.slice psa psn psc) := (by rw [cell_of_row w2 PB 6 _ _ _ hp2]; rfl); have cp7 : w2.cell? ⟨PB, 7, none⟩ = some (.slice pla pln plc) := (by rw [cell_of_row w2 PB 7 _ _ _ hp2]; rfl); clear hrr hb2 hp2)
        all_goals
          have HBW2 := Lib.hid (below_then HB.out HB2R.out)
          obtain ⟨y, hy⟩ : ∃ y, y = evalT r pp := ⟨_, rfl⟩
          have HEV := Lib.hid (evRef_any r (by rw [HRL.out]; have h1 := HOK.out.le; have h2 := HSN.out; omega) _ pp (Nat.le_refl _) (by have h2 := HPP.out; omega) HEP.out _ _ w2 (RdT1.kept HBW2.out _ HR7.out) HRR.out)
          rw [← hy] at HEV
          have HY := Lib.hid hy
          clear hy
          obtain ⟨x0, hx0, hxk⟩ := HR0.out
          obtain ⟨rl, hrl, hrp⟩ := HRR.out
          obtain ⟨t0, ht0⟩ : ∃ t0, rl[0]? = some t0 := by
            have : (rl.map Prod.fst)[0]? = some x0 := by rw [hrl]; exact hx0
            rw [List.getElem?_map] at this
            obtain ⟨t, h1, _⟩ := Option.map_eq_some_iff.1 this
            exact ⟨t, h1⟩
          have hxt : x0 = t0.1 := by
            have : (rl.map Prod.fst)[0]? = some x0 := by rw [hrl]; exact hx0
            rw [List.getElem?_map, ht0] at this
            exact (Option.some.inj this).symm
          obtain ⟨rb, roff, rfl, _, _, hr2, _, _⟩ := hrp.at ht0
          rw [← hxt, Nat.zero_mul, Nat.add_zero] at hr2
          have HKE := Lib.hid (show kb = true → y = 1 → x0.n = kv from fun h1 h2 => key_same r pp HEP.out HPZ.out (HKK.out h1) (by rw [← HY.out]; exact h2) hx0 hxk)
          have hsn0 : (0 : Int) < (sn : Int) := by have h1 := HSN.out; have h2 := HOK.out.ne; omega
          have hsn0n : 0 < sn := by have h1 := HSN.out; have h2 := HOK.out.ne; omega
          obtain ⟨xn, hxn⟩ : ∃ xn, xn = x0.n := ⟨_, rfl⟩
          rw [← hxn] at hr2 HKE
          clear hxk hrl ht0 hxt hrp hxn hx0
          by_cases hy1 : y = 1
          all_goals
            rcases kb with _ | _
            all_goals
              first
                | (have hq1 : (y == 1) = true := by rw [beq_iff_eq]; exact hy1)
                | (have hq1 : (y == 1) = false := by rw [beq_eq_false_iff_ne]; exact hy1)
              first
                | (have hq2 : (xn != kv) = false := by rw [HKE.out rfl hy1]; simp)
                | (have hq2 : True := trivial)
              clear hy1
              go_wp2_with fail
              refine HEV.out.mono ?_
              rintro e w3 ⟨rfl, hb3⟩
              have hr3 : w3.cell? ⟨rb, roff + 2, none⟩ = some (.int .i64 xn) := (hb3.cell (World.block_lt_of_cell? _ _ hr2)).trans hr2
              have HB3 := Lib.hid (below_then HBW2.out hb3)
              clear hb3 hr2
              go_wp2_with fail
              go_roundw
              case rel => exact ⟨q + 1, by omega, by go_num, HB3.out⟩
              case measure => simp [intOf]; omega
      · have hd : (decide ((q : Int) < (len2 : Int)) = false ∧ decide (q < len2) = false) ∨ (decide ((q : Int) < (len2 : Int)) = true ∧ decide (q < len2) = true ∧ decide ((q : Int) < 30) = false ∧ decide (q < 30) = false) := by
          by_cases h : q < len2
          · have h2 : ¬ q < 30 := fun h2 => hlt ⟨h, h2⟩
            exact .inr ⟨by rw [decide_eq_true_eq]; omega, by rw [decide_eq_true_eq]; omega, by rw [decide_eq_false_iff_not]; omega, by rw [decide_eq_false_iff_not]; omega⟩
          · exact .inl ⟨by rw [decide_eq_false_iff_not]; omega, by rw [decide_eq_false_iff_not]; omega⟩
        have cx0 : wr.cell? ⟨XB, 0, none⟩ = some (.int .i64 0) := by rw [cell_of_row wr XB 0 _ _ _ hx]; rfl
        clear hlt hx
        rcases hd with ⟨hd1, hd2⟩ | ⟨hd1, hd2, hd3, hd4⟩
        all_goals
          go_wp2_with fail
          refine (awake8_any wr).mono ?_
          rintro e w5 ⟨rfl, hb5⟩
          have HF := Lib.hid (below_then HBw.out hb5)
          clear hb5
          go_wp2_with fail
          go_ret
          exact ⟨rfl, HF.out⟩
  | some a =>
    obtain ⟨cs', rfl, ha⟩ : ∃ cs' : List Value, e = .returned (.tuple #[.agg cs'.toArray, .bool true]) ∧ RdA1 W4.heap.size V3 (.mk 5 0 0 zeroV (a.map fun x => .mk 4 0 0 zeroV x)) cs' := hret
    have hax := RdA1.rd _ ha
    obtain ⟨sa1, sc1, ea1, css1, ec1, rfl, hs1, hr1⟩ := rdA1_cells ha
    obtain ⟨na, hna⟩ : ∃ na, na = (a.map fun x => Pt.mk 4 0 0 zeroV x).length := ⟨_, rfl⟩
    rw [← hna] at hax ⊢
    unfold cellsP at hax ⊢
    have HAX := Lib.hid hax
    have HSM := Lib.hid (nrm_small pp false HNR.out.symm)
    have HLF := Lib.hid (nrm_leaf (show depT pp ≤ 5 from HPP.out.1) (show cntT pp ≤ 2048 from HPP.out.2) HNR.out.symm)
    clear ha hs1 hr1 hna hax
    go_upto_region 4 with (fail)
    obtain ⟨V4, hV4⟩ : ∃ V4 : World, V4 = V3.alloc (.cells #[.int .i64 5, .int .i64 0, .int .i64 0, .bool zeroV.u, .int .i64 zeroV.k, .int .i64 zeroV.n, .slice sa1 zeroV.b.length sc1, .slice ea1 na ec1] 31) := ⟨_, rfl⟩
    rw [← hV4]
    have hby : Below V3.heap.size V3 V4 := by rw [hV4]; exact below_alloc _ _
    have hx : V4.heap[V3.heap.size]? = some (.cells #[.int .i64 5, .int .i64 0, .int .i64 0, .bool zeroV.u, .int .i64 zeroV.k, .int .i64 zeroV.n, .slice sa1 zeroV.b.length sc1, .slice ea1 na ec1] 31 (0, 0)) := by rw [hV4]; exact heap_alloc_new V3 _
    replace hsb := (hby.block SB (Array.getElem?_eq_some_iff.1 hsb).1).trans hsb
    replace hp := (hby.block PB (Array.getElem?_eq_some_iff.1 hp).1).trans hp
    obtain ⟨XB, hXB⟩ : ∃ XB, XB = V3.heap.size := ⟨_, rfl⟩
    rw [← hXB] at hx ⊢
    have HB6 := Lib.hid (below_then HB5.out hby)
    have HC6 := Lib.hid (RdC.kept HC5.out hby)
    have HR6 := Lib.hid (RdT1.kept hby _ HR5.out)
    have HX6 := Lib.hid (RdT1.kept hby _ HAX.out)
    clear hby hV4 hXB
    have cp0 : V4.cell? ⟨PB, 0, none⟩ = some (.int .i64 pk) := by rw [cell_of_row V4 PB 0 _ _ _ hp]; rfl
    have cp1 : V4.cell? ⟨PB, 1, none⟩ = some (.int .i64 pc) := by rw [cell_of_row V4 PB 1 _ _ _ hp]; rfl
    have cp2 : V4.cell? ⟨PB, 2, none⟩ = some (.int .i64 po) := by rw [cell_of_row V4 PB 2 _ _ _ hp]; rfl
    have cp3 : V4.cell? ⟨PB, 3, none⟩ = some (.bool pu) := by rw [cell_of_row V4 PB 3 _ _ _ hp]; rfl
    have cp4 : V4.cell? ⟨PB, 4, none⟩ = some (.int .i64 pvk) := by rw [cell_of_row V4 PB 4 _ _ _ hp]; rfl
    have cp5 : V4.cell? ⟨PB, 5, none⟩ = some (.int .i64 pvn) := by rw [cell_of_row V4 PB 5 _ _ _ hp]; rfl
    have cp6 : V4.cell? ⟨PB, 6, none⟩ = some (.slice psa psn psc) := by rw [cell_of_row V4 PB 6 _ _ _ hp]; rfl
    have cp7 : V4.cell? ⟨PB, 7, none⟩ = some (.slice pla pln plc) := by rw [cell_of_row V4 PB 7 _ _ _ hp]; rfl
    go_wp2_with fail
    refine (HKY.out V4 HR6.out).mono ?_
    rintro e V5 ⟨rfl, hby⟩
    replace hsb := (hby.block SB (Array.getElem?_eq_some_iff.1 hsb).1).trans hsb
    replace hp := (hby.block PB (Array.getElem?_eq_some_iff.1 hp).1).trans hp
    replace hx := (hby.block XB (Array.getElem?_eq_some_iff.1 hx).1).trans hx
    have HSB := Lib.hid hsb
    have HPW := Lib.hid hp
    have HXW := Lib.hid hx
    have HB7 := Lib.hid (below_then HB6.out hby)
    have HC7 := Lib.hid (RdC.kept HC6.out hby)
    have HR7 := Lib.hid (RdT1.kept hby _ HR6.out)
    have HX7 := Lib.hid (RdT1.kept hby _ HX6.out)
    clear hby hsb hp hx cp0 cp1 cp2 cp3 cp4 cp5 cp6 cp7
    go_wp2_with fail
    go_loopw [13] (fun i wr => ∃ q : Nat, q ≤ 30 ∧ i = .int .i64 (q : Int) ∧ Below V5.heap.size V5 wr) (fun i _ => 30 - (intOf i).toNat)
    case atStart => exact ⟨0, by omega, rfl, Below.refl _ _⟩
    case round =>
      obtain ⟨q, hq, rfl, hb⟩ := hrel
      have HB := Lib.hid hb
      have hsb := (hb.block SB (Array.getElem?_eq_some_iff.1 HSB.out).1).trans HSB.out
      have hp := (hb.block PB (Array.getElem?_eq_some_iff.1 HPW.out).1).trans HPW.out
      have hx := (hb.block XB (Array.getElem?_eq_some_iff.1 HXW.out).1).trans HXW.out
      have HSBr := Lib.hid hsb
      have HPr := Lib.hid hp
      have HXr := Lib.hid hx
      have HBw := Lib.hid (below_then HB7.out hb)
      clear hb hsb hp
      by_cases hlt : q < len2 ∧ q < 30
      · obtain ⟨hlt1, hlt2⟩ := hlt
        have hd1 : decide ((q : Int) < (len2 : Int)) = true := by rw [decide_eq_true_eq]; omega
        have hd1n : decide (q < len2) = true := by rw [decide_eq_true_eq]; omega
        have hd1i : (q : Int) < (len2 : Int) := by omega
        have hl0 : (0 : Int) ≤ (q : Int) := by omega
        have hd2 : decide ((q : Int) < 30) = true := by rw [decide_eq_true_eq]; omega
        obtain ⟨b, off, rfl, hcells⟩ := (rdz_cells (HR2.out.kept HBw.out)).2 (by omega)
        have hcn := hcells q hlt1
        obtain ⟨rn, hrn⟩ : ∃ rn, rn = lb.getD q 0 := ⟨_, rfl⟩
        rw [← hrn] at hcn
        have hcs : wr.cell? ⟨SB, 0, none⟩ = some (.slice so sn sc) := by rw [cell_of_row wr SB 0 _ _ _ HSBr.out]; rfl
        obtain ⟨r, hr⟩ : ∃ r, r = rowOf (colsN a0) rn := ⟨_, rfl⟩
        have HROW := Lib.hid fun W (h : Below wr.heap.size wr W) => row_rd (.slice so sn sc) (colsN a0) rn W (RdC.kept (RdC.kept HC7.out HB.out) h) HOK.out.le
        rw [← hr, ← HSN.out] at HROW
        have HEP := Lib.hid (show okE r pp from hr ▸ HPK.out rn)
        have HRL := Lib.hid (show r.length = sn by rw [hr, rowOf_len, HSN.out])
        have HR0 := Lib.hid (show ∃ x, r[0]? = some x ∧ x.k = 1 from hr ▸ row_zero HOK.out rn)
        clear hcells hrn hr hx
        go_upto_region 8 with (fail)
        go_region_law (go_simp; go_at_call 28; refine (HROW.out _ ?_).mono ?_; (exact below_drw _ _); rintro e w2 ⟨ra, rc, rfl, hrr, hb2⟩; have HRR := Lib.hid hrr; have HB2R := Lib.hid (show Below wr.heap.size wr w2 from (below_drw _ wr).trans hb2); have hp2 := (HB2R.out.block PB (Array.getElem?_eq_some_iff.1 HPr.out).1).trans HPr.out; have cp0 : w2.cell? ⟨PB, 0, none⟩ = some (.int .i64 pk) := (by rw [cell_of_row w2 PB 0 _ _ _ hp2]; rfl); have cp1 : w2.cell? ⟨PB, 1, none⟩ = some (.int .i64 pc) := (by rw [cell_of_row w2 PB 1 _ _ _ hp2]; rfl); have cp2 : w2.cell? ⟨PB, 2, none⟩ = some (.int .i64 po) := (by rw [cell_of_row w2 PB 2 _ _ _ hp2]; rfl); have cp3 : w2.cell? ⟨PB, 3, none⟩ = some (.bool pu) := (by rw [cell_of_row w2 PB 3 _ _ _ hp2]; rfl); have cp4 : w2.cell? ⟨PB, 4, none⟩ = some (.int .i64 pvk) := (by rw [cell_of_row w2 PB 4 _ _ _ hp2]; rfl); have cp5 : w2.cell? ⟨PB, 5, none⟩ = some (.int .i64 pvn) := (by rw [cell_of_row w2 PB 5 _ _ _ hp2]; rfl); have cp6 : w2.cell? ⟨PB, 6, none⟩ = some (.slice psa psn psc) := (by rw [cell_of_row w2 PB 6 _ _ _ hp2]; rfl); have cp7 : w2.cell? ⟨PB, 7, none⟩ = some (.slice pla pln plc) := (by rw [cell_of_row w2 PB 7 _ _ _ hp2]; rfl); clear hrr hb2 hp2)
        all_goals
          have HBW2 := Lib.hid (below_then HB.out HB2R.out)
          obtain ⟨y, hy⟩ : ∃ y, y = evalT r pp := ⟨_, rfl⟩
          have HEV := Lib.hid (evRef_any r (by rw [HRL.out]; have h1 := HOK.out.le; have h2 := HSN.out; omega) _ pp (Nat.le_refl _) (by have h2 := HPP.out; omega) HEP.out _ _ w2 (RdT1.kept HBW2.out _ HR7.out) HRR.out)
          rw [← hy] at HEV
          have HY := Lib.hid hy
          clear hy
          obtain ⟨x0, hx0, hxk⟩ := HR0.out
          obtain ⟨rl, hrl, hrp⟩ := HRR.out
          obtain ⟨t0, ht0⟩ : ∃ t0, rl[0]? = some t0 := by
            have : (rl.map Prod.fst)[0]? = some x0 := by rw [hrl]; exact hx0
            rw [List.getElem?_map] at this
            obtain ⟨t, h1, _⟩ := Option.map_eq_some_iff.1 this
            exact ⟨t, h1⟩
          have hxt : x0 = t0.1 := by
            have : (rl.map Prod.fst)[0]? = some x0 := by rw [hrl]; exact hx0
            rw [List.getElem?_map, ht0] at this
            exact (Option.some.inj this).symm
          obtain ⟨rb, roff, rfl, _, _, hr2, _, _⟩ := hrp.at ht0
          rw [← hxt, Nat.zero_mul, Nat.add_zero] at hr2
          have HKE := Lib.hid (show kb = true → y = 1 → x0.n = kv from fun h1 h2 => key_same r pp HEP.out HPZ.out (HKK.out h1) (by rw [← HY.out]; exact h2) hx0 hxk)
          have hsn0 : (0 : Int) < (sn : Int) := by have h1 := HSN.out; have h2 := HOK.out.ne; omega
          have hsn0n : 0 < sn := by have h1 := HSN.out; have h2 := HOK.out.ne; omega
          obtain ⟨xn, hxn⟩ : ∃ xn, xn = x0.n := ⟨_, rfl⟩
          rw [← hxn] at hr2 HKE
          clear hxk hrl ht0 hxt hrp hxn hx0
          by_cases hy1 : y = 1
          all_goals
            rcases kb with _ | _
            all_goals
              first
                | (have hq1 : (y == 1) = true := by rw [beq_iff_eq]; exact hy1)
                | (have hq1 : (y == 1) = false := by rw [beq_eq_false_iff_ne]; exact hy1)
              first
                | (have hq2 : (xn != kv) = false := by rw [HKE.out rfl hy1]; simp)
                | (have hq2 : True := trivial)
              clear hy1
              go_wp2_with fail
              refine HEV.out.mono ?_
              rintro e w3 ⟨rfl, hb3⟩
              have hr3 : w3.cell? ⟨rb, roff + 2, none⟩ = some (.int .i64 xn) := (hb3.cell (World.block_lt_of_cell? _ _ hr2)).trans hr2
              have HB3 := Lib.hid (below_then HBW2.out hb3)
              have hx3 := ((below_then HB2R.out hb3).block XB (Array.getElem?_eq_some_iff.1 HXr.out).1).trans HXr.out
              have cx0 : w3.cell? ⟨XB, 0, none⟩ = some (.int .i64 5) := by rw [cell_of_row w3 XB 0 _ _ _ hx3]; rfl
              have cx1 : w3.cell? ⟨XB, 1, none⟩ = some (.int .i64 0) := by rw [cell_of_row w3 XB 1 _ _ _ hx3]; rfl
              have cx2 : w3.cell? ⟨XB, 2, none⟩ = some (.int .i64 0) := by rw [cell_of_row w3 XB 2 _ _ _ hx3]; rfl
              have cx3 : w3.cell? ⟨XB, 3, none⟩ = some (.bool zeroV.u) := by rw [cell_of_row w3 XB 3 _ _ _ hx3]; rfl
              have cx4 : w3.cell? ⟨XB, 4, none⟩ = some (.int .i64 zeroV.k) := by rw [cell_of_row w3 XB 4 _ _ _ hx3]; rfl
              have cx5 : w3.cell? ⟨XB, 5, none⟩ = some (.int .i64 zeroV.n) := by rw [cell_of_row w3 XB 5 _ _ _ hx3]; rfl
              have cx6 : w3.cell? ⟨XB, 6, none⟩ = some (.slice sa1 zeroV.b.length sc1) := by rw [cell_of_row w3 XB 6 _ _ _ hx3]; rfl
              have cx7 : w3.cell? ⟨XB, 7, none⟩ = some (.slice ea1 na ec1) := by rw [cell_of_row w3 XB 7 _ _ _ hx3]; rfl
              obtain ⟨z, hz⟩ : ∃ z, z = evalT r (.mk 5 0 0 zeroV (a.map fun x => .mk 4 0 0 zeroV x)) := ⟨_, rfl⟩
              have HZY := Lib.hid (show z = 1 ↔ y = 1 by rw [hz, HY.out]; exact norm_same r pp HEP.out HNR.out.symm)
              have HE2 := Lib.hid (evRef_any r (by rw [HRL.out]; have h1 := HOK.out.le; have h2 := HSN.out; omega) _ (.mk 5 0 0 zeroV (a.map fun x => .mk 4 0 0 zeroV x)) (Nat.le_refl _) (form_cnt HSM.out HLF.out) (form_ok r pp HEP.out HNR.out.symm) _ _ w3 (RdT1.kept HB3.out _ HX7.out) (HRR.out.kept hb3))
              rw [← hz] at HE2
              have hzq : (z == 1) = (y == 1) := by rw [Bool.eq_iff_iff, beq_iff_eq, beq_iff_eq]; exact HZY.out
              rw [hq1] at hzq
              clear hz hx3 hb3 hr2
              go_wp2_with fail
              refine HE2.out.mono ?_
              rintro e w4 ⟨rfl, hb4⟩
              have hr4 : w4.cell? ⟨rb, roff + 2, none⟩ = some (.int .i64 xn) := (hb4.cell (World.block_lt_of_cell? _ _ hr3)).trans hr3
              have HB4 := Lib.hid (below_then HB3.out hb4)
              clear hr3 hb4
              go_wp2_with fail
              go_roundw
              case rel => exact ⟨q + 1, by omega, by go_num, HB4.out⟩
              case measure => simp [intOf]; omega
      · have hd : (decide ((q : Int) < (len2 : Int)) = false ∧ decide (q < len2) = false) ∨ (decide ((q : Int) < (len2 : Int)) = true ∧ decide (q < len2) = true ∧ decide ((q : Int) < 30) = false ∧ decide (q < 30) = false) := by
          by_cases h : q < len2
          · have h2 : ¬ q < 30 := fun h2 => hlt ⟨h, h2⟩
            exact .inr ⟨by rw [decide_eq_true_eq]; omega, by rw [decide_eq_true_eq]; omega, by rw [decide_eq_false_iff_not]; omega, by rw [decide_eq_false_iff_not]; omega⟩
          · exact .inl ⟨by rw [decide_eq_false_iff_not]; omega, by rw [decide_eq_false_iff_not]; omega⟩
        have cx0 : wr.cell? ⟨XB, 0, none⟩ = some (.int .i64 5) := by rw [cell_of_row wr XB 0 _ _ _ hx]; rfl
        clear hlt hx
        rcases hd with ⟨hd1, hd2⟩ | ⟨hd1, hd2, hd3, hd4⟩
        all_goals
          go_wp2_with fail
          refine (awake8_any wr).mono ?_
          rintro e w5 ⟨rfl, hb5⟩
          have HF := Lib.hid (below_then HBw.out hb5)
          clear hb5
          go_wp2_with fail
          go_ret
          exact ⟨rfl, HF.out⟩

end Go.Proofs.Ytpabneinikbneaa
