/-
  Contract of the reference's inwards, at lists.
-/
import Derived.Test.YtfmkalnnpddefaaInwc
import Derived.Deep.RegionLaw
namespace Go.Proofs.Ytfmkalnnpddefaa
set_option linter.unusedVariables false
set_option linter.unusedSimpArgs false
open Go.RowKit


/-- From block K on w' is as w was, but for X. -/
def AboveX (K : Nat) (X : Nat → Prop) (w w' : World) : Prop := ∀ b, K ≤ b → b < w.heap.size → ¬ X b → w'.heap[b]? = w.heap[b]?
theorem rdTs_snoc {w : World} {q : Pt} {cs : List Value} (hq : RdT1 w q cs) : ∀ {l : List Pt} {css : List (List Value)}, RdTs w l css → RdTs w (l ++ [q]) (css ++ [cs])
  | [], [], _ => by unfold RdTs; exact ⟨hq, by unfold RdTs; trivial⟩
  | p :: r, c :: t, h => by unfold RdTs at h ⊢; exact ⟨h.1, rdTs_snoc hq h.2⟩
  | [], _ :: _, h => by unfold RdTs at h; exact h.elim
  | _ :: _, [], h => by unfold RdTs at h; exact h.elim
theorem inwT_list (k c o : Int) (v : Vc) (l : List Pt) (nt : Bool) (hk : k = 4 ∨ k = 5) : inwT (.mk k c o v l) nt = .mk (if nt then 9 - k else k) 0 0 zeroV (l.map fun q => inwT q nt) := by
  rw [inwT, inwL_map]
  rcases hk with rfl | rfl <;> simp

set_option maxRecDepth 100000 in
set_option maxHeartbeats 16000000 in
theorem inw_l4f (c o : Int) (v : Vc) (l : List Pt) (hl : ∀ q ∈ l, InwOK q) (hll : l.length ≤ 1000) (cs : List Value) (w0 w : World) (hr : RdT1 w0 (.mk 4 c o v l) cs) (hb : Below w0.heap.size w0 w) (hsz0 : w0.heap.size ≤ w.heap.size) :
    Calls Try.prog 70 #[.agg cs.toArray, .bool false] w fun e w' => ∃ cs' : List Value, e = .returned (.agg cs'.toArray) ∧ (∀ w'', Below w0.heap.size w0 w'' → Above w.heap.size w' w'' → RdT1 w'' (.mk 4 0 0 zeroV (l.map fun q => inwT q false)) cs') ∧ Below w.heap.size w w' := by
  have HBw := Lib.hid hb
  have HSZ := Lib.hid hsz0
  unfold RdT1 at hr
  obtain ⟨s, ls, css0, rfl, hok, hls, hts⟩ := hr
  obtain ⟨sa, sc, hes⟩ := rd_shape8 hok.1
  obtain ⟨ea, ec, hel⟩ := rdS_shape hls
  simp only at hes
  subst hes hel
  have hcl := rdTs_len hts
  obtain ⟨n, hN⟩ : ∃ n, n = l.length := ⟨_, rfl⟩
  obtain ⟨vu, vk, vn, vb⟩ := v
  obtain ⟨m, hm⟩ : ∃ m, m = vb.length := ⟨_, rfl⟩
  unfold cellsP
  simp only
  rw [hcl, ← hN] at hls ⊢
  rw [← hm]
  rw [← hN] at hll
  have HN := Lib.hid hN
  have HLS := Lib.hid hls
  have HTS := Lib.hid hts
  have HL := Lib.hid hl
  clear hok hls hts hm hcl hb hsz0 hN hl
  go_enter Try.func70, Try.ntmps70
  go_upto_region 19 with (fail)
  go_wp2_with fail
  obtain ⟨W, hW⟩ : ∃ W : World, W = ((w.alloc (.cells #[.int .i64 4, .int .i64 c, .int .i64 o, .bool vu, .int .i64 vk, .int .i64 vn, .slice sa m sc, .slice ea n ec] 31)).alloc (.cells #[.int .i64 0, .int .i64 0, .int .i64 0, .bool false, .int .i64 0, .int .i64 0, .slice none 0 0, .slice none 0 0] 31)).alloc (.cells #[.int .i64 4, .int .i64 0, .int .i64 0, .bool false, .int .i64 0, .int .i64 0, .slice none 0 0, .slice none 0 0] 31) := ⟨_, rfl⟩
  rw [← hW]
  have HX0 := Lib.hid (show W.heap[w.heap.size]? = some (.cells #[.int .i64 4, .int .i64 c, .int .i64 o, .bool vu, .int .i64 vk, .int .i64 vn, .slice sa m sc, .slice ea n ec] 31 (0, 0)) by rw [hW]; exact (heap_alloc_old _ _ (by simp; try omega)).trans ((heap_alloc_old _ _ (by simp)).trans (heap_alloc_new w _)))
  have HY0 := Lib.hid (show W.heap[w.heap.size + 1]? = some (.cells #[.int .i64 0, .int .i64 0, .int .i64 0, .bool false, .int .i64 0, .int .i64 0, .slice none 0 0, .slice none 0 0] 31 (0, 0)) by rw [hW]; exact (heaps3 w _ _ _).1)
  have HO0 := Lib.hid (show W.heap[w.heap.size + 2]? = some (.cells #[.int .i64 4, .int .i64 0, .int .i64 0, .bool false, .int .i64 0, .int .i64 0, .slice none 0 0, .slice none 0 0] 31 (0, 0)) by rw [hW]; exact (heaps3 w _ _ _).2)
  have HB0 := Lib.hid (show Below w.heap.size w W by rw [hW]; exact below3 w _ _ _)
  have HWS := Lib.hid (show W.heap.size = w.heap.size + 3 by rw [hW]; simp)
  obtain ⟨PB, hPB⟩ : ∃ PB, PB = w.heap.size := ⟨_, rfl⟩
  rw [← hPB] at HX0 HY0 HO0 HWS ⊢
  obtain ⟨RB, hRB⟩ : ∃ RB, RB = PB + 1 := ⟨_, rfl⟩
  rw [← hRB] at HY0 ⊢
  obtain ⟨OB, hOB⟩ : ∃ OB, OB = RB + 1 := ⟨_, rfl⟩
  rw [show PB + 2 = OB by omega] at HO0
  rw [← hOB]
  have HPE := Lib.hid hPB
  have HPR := Lib.hid (show RB = PB + 1 ∧ OB = PB + 2 ∧ W.heap.size = OB + 1 by have := HWS.out; omega)
  clear hW hPB hRB hOB
  go_loopw [6] (fun i wr => ∃ (q : Nat) (vo : Option Addr) (vc : Nat) (css : List (List Value)), q ≤ n ∧ i = .int .i64 (q : Int) ∧ wr.heap[PB]? = some (.cells #[.int .i64 4, .int .i64 c, .int .i64 o, .bool vu, .int .i64 vk, .int .i64 vn, .slice sa m sc, .slice ea n ec] 31 (0, 0)) ∧ wr.heap[RB]? = some (.cells #[.int .i64 0, .int .i64 0, .int .i64 0, .bool false, .int .i64 0, .int .i64 0, .slice none 0 0, .slice none 0 0] 31 (0, 0)) ∧ wr.heap[OB]? = some (.cells #[.int .i64 4, .int .i64 0, .int .i64 0, .bool false, .int .i64 0, .int .i64 0, .slice none 0 0, .slice vo q vc] 31 (0, 0)) ∧ css.length = q ∧ wr.ownsRow (OB + 1) 31 8 (.slice vo q vc) q css.flatten ∧ (∀ w'', Below w0.heap.size w0 w'' → AboveX PB (fun b => b = RB ∨ b = OB ∨ (Value.slice vo q vc).ownBlock = some b) wr w'' → RdTs w'' ((l.take q).map fun p => inwT p false) css) ∧ OB + 1 ≤ wr.heap.size ∧ Below PB w wr) (fun i _ => n - (intOf i).toNat)
  case atStart => exact ⟨0, none, 0, [], Nat.zero_le _, rfl, HX0.out, HY0.out, HO0.out, rfl, World.ownsRow_nil .., fun w' _ _ => by simp [RdTs], by have := HPR.out; omega, by have h := HB0.out; rw [← HPE.out] at h; exact h⟩
  case round =>
    obtain ⟨q, vo, vc, css, hq, rfl, hx, hy, ho, hclen, hown, hel, hsz, hbel⟩ := hrel
    obtain ⟨wo, rfl⟩ : ∃ wo : World, wo = wr := ⟨_, rfl⟩
    have HXW := Lib.hid hx
    have HYW := Lib.hid hy
    have HOW := Lib.hid ho
    have HCL := Lib.hid hclen
    have HO := Lib.hid hown
    have HE := Lib.hid hel
    have HZ := Lib.hid hsz
    have HBW := Lib.hid hbel
    have HB0W := Lib.hid (show Below w0.heap.size w0 wo from HBw.out.trans (hbel.mono (by have := HSZ.out; have := HPE.out; omega)))
    have hcp : wo.cell? ⟨OB, 7, none⟩ = some (.slice vo q vc) := by rw [cell_of_row wo _ 7 _ _ _ ho]; rfl
    have hfp : wo.frozen? ⟨OB, 7, none⟩ = false := frozen_of_row wo _ 7 _ _ ho
    have hpp : wo.cell? ⟨PB, 7, none⟩ = some (.slice ea n ec) := by rw [cell_of_row wo _ 7 _ _ _ hx]; rfl
    clear hown hel hbel hsz hx hy ho hclen
    by_cases hlt : q < n
    · have hlti : (q : Int) < (n : Int) := by omega
      have hltb : decide ((q : Int) < (n : Int)) = true := by rw [decide_eq_true_eq]; omega
      have hq0 : (0 : Int) ≤ (q : Int) := by omega
      obtain ⟨p, hp⟩ : ∃ p, l[q]? = some p := ⟨_, List.getElem?_eq_getElem (by rw [← HN.out]; exact hlt)⟩
      have HTK := Lib.hid (show l.take (q + 1) = l.take q ++ [p] by rw [List.take_add_one, hp]; rfl)
      have HIN := Lib.hid (HL.out p (List.mem_of_getElem? hp))
      obtain ⟨pcs, hpcs, hrd⟩ := rdTs_at HTS.out hp
      have HRD := Lib.hid hrd
      have hat := (HLS.out.kept HB0W.out).at hpcs
      obtain ⟨pk, pc, po, pvk, pvn, pu, pa, pn, pm, pa2, pn2, pm2, rfl⟩ := rdT1_shape hrd
      obtain ⟨b1, f1, rfl, hcell⟩ := hat
      have m0 : wo.cell? ⟨b1, f1 + q * 8, none⟩ = some (.int .i64 pk) := hcell 0 _ rfl
      have m1 : wo.cell? ⟨b1, f1 + q * 8 + 1, none⟩ = some (.int .i64 pc) := hcell 1 _ rfl
      have m2 : wo.cell? ⟨b1, f1 + q * 8 + 2, none⟩ = some (.int .i64 po) := hcell 2 _ rfl
      have m3 : wo.cell? ⟨b1, f1 + q * 8 + 3, none⟩ = some (.bool pu) := hcell 3 _ rfl
      have m4 : wo.cell? ⟨b1, f1 + q * 8 + 4, none⟩ = some (.int .i64 pvk) := hcell 4 _ rfl
      have m5 : wo.cell? ⟨b1, f1 + q * 8 + 5, none⟩ = some (.int .i64 pvn) := hcell 5 _ rfl
      have m6 : wo.cell? ⟨b1, f1 + q * 8 + 6, none⟩ = some (.slice pa pn pm) := hcell 6 _ rfl
      have m7 : wo.cell? ⟨b1, f1 + q * 8 + 7, none⟩ = some (.slice pa2 pn2 pm2) := hcell 7 _ rfl
      have HCALL := Lib.hid (show ∀ W', Below wo.heap.size wo W' → Calls Try.prog 70 #[.agg #[.int .i64 pk, .int .i64 pc, .int .i64 po, .bool pu, .int .i64 pvk, .int .i64 pvn, .slice pa pn pm, .slice pa2 pn2 pm2], .bool false] W' fun e w' => ∃ cs' : List Value, e = .returned (.agg cs'.toArray) ∧ (∀ w'', Below w0.heap.size w0 w'' → Above W'.heap.size w' w'' → RdT1 w'' (inwT p false) cs') ∧ Below W'.heap.size W' w' from fun W' h => HIN.out false _ w0 W' HRD.out (HB0W.out.trans (h.mono HB0W.out.size)) (Nat.le_trans HB0W.out.size h.size))
      have HOF := Lib.hid (show ∀ i, i < OB + 1 → (Value.slice vo q vc).ownBlock ≠ some i from fun i h e => by have := own_base HO.out i e; omega)
      have HOL := Lib.hid (own_lt HO.out)
      clear hp hpcs hrd hcell
      go_upto_region 22 with (fail)
      go_region_law
        (first
         | (go_simp; go_at_call 70; refine (HCALL.out _ ?_).mono ?_; (exact below_drw _ _); rintro e w2 ⟨cs', rfl, hres, hb2⟩; have HRES : Hid (∀ w'', Below w0.heap.size w0 w'' → Above wo.heap.size w2 w'' → RdT1 w'' (inwT p false) cs') := Lib.hid hres; have HB2 := Lib.hid (show Below wo.heap.size wo w2 from (below_drw _ wo).trans hb2); have hrr := hres w2 (HB0W.out.trans (HB2.out.mono HB0W.out.size)) (Above.refl _ _); obtain ⟨rk, rc, ro, rvk, rvn, ru, ra, rn, rm, ra2, rn2, rm2, rfl⟩ := rdT1_shape hrr; have dp2 : w2.cell? ⟨OB, 7, none⟩ = some (.slice vo q vc) := (HB2.out.cell (World.block_lt_of_cell? _ _ hcp)).trans hcp; have dp3 := fun o => Lib.cell?_alloc_some (W := w2) o dp2; clear hres hrr hb2)
         | (refine step_append_k elmPred (by rfl) _ _ (by rfl) (OB + 1) (.slice vo q vc) q css.flatten (by rfl) ((own_kept HO.out HB2.out).alloc _) _ [[.int .i64 rk, .int .i64 rc, .int .i64 ro, .bool ru, .int .i64 rvk, .int .i64 rvn, .slice ra rn rm, .slice ra2 rn2 rm2]] (by rfl) (rdS_lit w2 _ _ 8 rfl) (fun t ht => by rw [List.mem_singleton.1 ht]; exact ⟨rfl, by simp [Value.oneCell']⟩) (by simp; omega) (by have h1 := HB2.out.size; have h2 := HZ.out; simp; omega) (q + 1) rfl ?_; intro ao4 cap4 w4 hown4 hgrow4 hnew4; have HO4 := Lib.hid hown4; have HG4 : Hid (World.grownBy _ w4 (Value.slice vo q vc).ownBlock) := Lib.hid hgrow4; have HN4 : Hid (∀ g, (Value.slice ao4 (q + 1) cap4).ownBlock = some g → (Value.slice vo q vc).ownBlock = some g ∨ g = _) := Lib.hid hnew4; have hp4 : w4.heap[OB]? = some (.cells #[.int .i64 4, .int .i64 0, .int .i64 0, .bool false, .int .i64 0, .int .i64 0, .slice none 0 0, .slice vo q vc] 31 (0, 0)) := (HG4.out.block OB (by have h1 := HB2.out.size; have h2 := HZ.out; simp; omega) (fun e => HOF.out OB (by omega) e.symm)).trans ((heap_alloc_old w2 _ (by have h1 := HB2.out.size; have h2 := HZ.out; omega)).trans ((HB2.out.block OB (by have h2 := HZ.out; omega)).trans HOW.out)); have HP4 := Lib.hid hp4; have hc4 : w4.cell? ⟨OB, 7, none⟩ = some (.slice vo q vc) := (by rw [cell_of_row w4 OB 7 _ _ _ hp4]; rfl); have hf4 : w4.frozen? ⟨OB, 7, none⟩ = false := frozen_of_row w4 _ 7 _ _ hp4; clear hown4 hgrow4 hnew4 hp4))
      all_goals
        go_wp2_with fail
        go_roundw
        case rel =>
          have hz := HZ.out
          obtain ⟨e1, e2, e3⟩ := HPR.out
          have hs2 := HB2.out.size
          have hsa : (w2.alloc (.cells #[.int .i64 rk, .int .i64 rc, .int .i64 ro, .bool ru, .int .i64 rvk, .int .i64 rvn, .slice ra rn rm, .slice ra2 rn2 rm2] 31)).heap.size = w2.heap.size + 1 := by simp
          have hs4 := HG4.out.size
          rw [hsa] at hs4
          have hss : (w4.setCell ⟨OB, 7, none⟩ (.slice ao4 (q + 1) cap4)).heap.size = w4.heap.size := by simp [World.setCell]
          have hnb : ∀ b, (Value.slice ao4 (q + 1) cap4).ownBlock = some b → (Value.slice vo q vc).ownBlock = some b ∨ b = w2.heap.size + 1 := fun b h => (HN4.out b h).imp id fun h => by rw [h]; exact hsa
          have hnp : ∀ b, (Value.slice ao4 (q + 1) cap4).ownBlock = some b → OB + 1 ≤ b := fun b h => own_base HO4.out b h
          have hol := HOL.out
          have same : ∀ b, b < w2.heap.size → b ≠ OB → (Value.slice vo q vc).ownBlock ≠ some b → (w4.setCell ⟨OB, 7, none⟩ (.slice ao4 (q + 1) cap4)).heap[b]? = w2.heap[b]? := fun b h1 h2 h3 =>
            (heap_setCell_other w4 ⟨OB, 7, none⟩ b _ h2).trans ((HG4.out.block b (by rw [hsa]; omega) (fun e => h3 e.symm)).trans (heap_alloc_old w2 _ h1))
          refine ⟨q + 1, ao4, cap4, css ++ [[.int .i64 rk, .int .i64 rc, .int .i64 ro, .bool ru, .int .i64 rvk, .int .i64 rvn, .slice ra rn rm, .slice ra2 rn2 rm2]], by omega, by go_num, ?_, ?_, ?_, ?_, ?_, ?_, ?_, ?_⟩
          · exact (same PB (by omega) (by omega) (HOF.out PB (by omega))).trans ((HB2.out.block PB (by omega)).trans HXW.out)
          · exact (same RB (by omega) (by omega) (HOF.out RB (by omega))).trans ((HB2.out.block RB (by omega)).trans HYW.out)
          · exact heap_setCell_same w4 _ 7 _ _ _ HP4.out
          · rw [List.length_append, HCL.out]; rfl
          · have h1 := ownsRow_agree HO4.out (agree_set (fun b => b = OB) w4 ⟨OB, 7, none⟩ (.slice ao4 (q + 1) cap4) rfl) (fun b hb h => by have := hnp b hb; omega)
            rw [List.flatten_append]
            exact h1
          · rw [HTK.out, List.map_append]
            intro w' hb0 ha
            refine rdTs_snoc (HRES.out w' hb0 fun b h1 h2 => ?_) (HE.out w' hb0 fun b h1 h2 h3 => ?_)
            · have hne : ¬ (b = RB ∨ b = OB ∨ (Value.slice ao4 (q + 1) cap4).ownBlock = some b) := fun h => by
                rcases h with h | h | h
                · omega
                · omega
                · rcases hnb b h with h | h
                  · have := hol b h; omega
                  · omega
              exact (ha b (by omega) (by rw [hss]; omega) hne).trans (same b h2 (by omega) (fun h => by have := hol b h; omega))
            · have hne : ¬ (b = RB ∨ b = OB ∨ (Value.slice ao4 (q + 1) cap4).ownBlock = some b) := fun h => by
                rcases h with h | h | h
                · exact h3 (.inl h)
                · exact h3 (.inr (.inl h))
                · rcases hnb b h with h | h
                  · exact h3 (.inr (.inr h))
                  · omega
              exact (ha b h1 (by rw [hss]; omega) hne).trans ((same b (by omega) (fun h => h3 (.inr (.inl h))) (fun h => h3 (.inr (.inr h)))).trans (HB2.out.block b h2))
          · rw [hss]; omega
          · have hb4 := ((HBW.out.trans (HB2.out.mono (by omega))).alloc (by omega) (.cells #[.int .i64 rk, .int .i64 rc, .int .i64 ro, .bool ru, .int .i64 rvk, .int .i64 rvn, .slice ra rn rm, .slice ra2 rn2 rm2] 31)).grown HG4.out (by rw [hsa]; omega) (fun k e => by have := own_base HO.out k e; omega)
            exact hb4.setCell (p := ⟨OB, 7, none⟩) (by show PB ≤ OB; omega) _
        case measure => simp [intOf]; omega
    · have hlti : ¬ (q : Int) < (n : Int) := by omega
      have hltb : decide ((q : Int) < (n : Int)) = false := by rw [decide_eq_false_iff_not]; omega
      have htk : l.take q = l := List.take_of_length_le (by rw [← HN.out]; omega)
      have HE2 := Lib.hid (show ∀ w'', Below w0.heap.size w0 w'' → AboveX PB (fun b => b = RB ∨ b = OB ∨ (Value.slice vo q vc).ownBlock = some b) wo w'' → RdTs w'' (l.map fun p => inwT p false) css by have h := HE.out; rw [htk] at h; exact h)
      have hyw := HYW.out
      have how := HOW.out
      have pc0 : wo.cell? ⟨OB, 0, none⟩ = some (.int .i64 4) := by rw [cell_of_row wo OB 0 _ _ _ how]; rfl
      have pcf0 : wo.frozen? ⟨OB, 0, none⟩ = false := frozen_of_row wo OB 0 _ _ how
      have pc1 : wo.cell? ⟨OB, 1, none⟩ = some (.int .i64 0) := by rw [cell_of_row wo OB 1 _ _ _ how]; rfl
      have pcf1 : wo.frozen? ⟨OB, 1, none⟩ = false := frozen_of_row wo OB 1 _ _ how
      have pc2 : wo.cell? ⟨OB, 2, none⟩ = some (.int .i64 0) := by rw [cell_of_row wo OB 2 _ _ _ how]; rfl
      have pcf2 : wo.frozen? ⟨OB, 2, none⟩ = false := frozen_of_row wo OB 2 _ _ how
      have pc3 : wo.cell? ⟨OB, 3, none⟩ = some (.bool false) := by rw [cell_of_row wo OB 3 _ _ _ how]; rfl
      have pcf3 : wo.frozen? ⟨OB, 3, none⟩ = false := frozen_of_row wo OB 3 _ _ how
      have pc4 : wo.cell? ⟨OB, 4, none⟩ = some (.int .i64 0) := by rw [cell_of_row wo OB 4 _ _ _ how]; rfl
      have pcf4 : wo.frozen? ⟨OB, 4, none⟩ = false := frozen_of_row wo OB 4 _ _ how
      have pc5 : wo.cell? ⟨OB, 5, none⟩ = some (.int .i64 0) := by rw [cell_of_row wo OB 5 _ _ _ how]; rfl
      have pcf5 : wo.frozen? ⟨OB, 5, none⟩ = false := frozen_of_row wo OB 5 _ _ how
      have pc6 : wo.cell? ⟨OB, 6, none⟩ = some (.slice none 0 0) := by rw [cell_of_row wo OB 6 _ _ _ how]; rfl
      have pcf6 : wo.frozen? ⟨OB, 6, none⟩ = false := frozen_of_row wo OB 6 _ _ how
      have pc7 : wo.cell? ⟨OB, 7, none⟩ = some (.slice vo q vc) := by rw [cell_of_row wo OB 7 _ _ _ how]; rfl
      have pcf7 : wo.frozen? ⟨OB, 7, none⟩ = false := frozen_of_row wo OB 7 _ _ how
      have zc0 : wo.cell? ⟨RB, 0, none⟩ = some (.int .i64 0) := by rw [cell_of_row wo RB 0 _ _ _ hyw]; rfl
      have zcf0 : wo.frozen? ⟨RB, 0, none⟩ = false := frozen_of_row wo RB 0 _ _ hyw
      have zc1 : wo.cell? ⟨RB, 1, none⟩ = some (.int .i64 0) := by rw [cell_of_row wo RB 1 _ _ _ hyw]; rfl
      have zcf1 : wo.frozen? ⟨RB, 1, none⟩ = false := frozen_of_row wo RB 1 _ _ hyw
      have zc2 : wo.cell? ⟨RB, 2, none⟩ = some (.int .i64 0) := by rw [cell_of_row wo RB 2 _ _ _ hyw]; rfl
      have zcf2 : wo.frozen? ⟨RB, 2, none⟩ = false := frozen_of_row wo RB 2 _ _ hyw
      have zc3 : wo.cell? ⟨RB, 3, none⟩ = some (.bool false) := by rw [cell_of_row wo RB 3 _ _ _ hyw]; rfl
      have zcf3 : wo.frozen? ⟨RB, 3, none⟩ = false := frozen_of_row wo RB 3 _ _ hyw
      have zc4 : wo.cell? ⟨RB, 4, none⟩ = some (.int .i64 0) := by rw [cell_of_row wo RB 4 _ _ _ hyw]; rfl
      have zcf4 : wo.frozen? ⟨RB, 4, none⟩ = false := frozen_of_row wo RB 4 _ _ hyw
      have zc5 : wo.cell? ⟨RB, 5, none⟩ = some (.int .i64 0) := by rw [cell_of_row wo RB 5 _ _ _ hyw]; rfl
      have zcf5 : wo.frozen? ⟨RB, 5, none⟩ = false := frozen_of_row wo RB 5 _ _ hyw
      have zc6 : wo.cell? ⟨RB, 6, none⟩ = some (.slice none 0 0) := by rw [cell_of_row wo RB 6 _ _ _ hyw]; rfl
      have zcf6 : wo.frozen? ⟨RB, 6, none⟩ = false := frozen_of_row wo RB 6 _ _ hyw
      have zc7 : wo.cell? ⟨RB, 7, none⟩ = some (.slice none 0 0) := by rw [cell_of_row wo RB 7 _ _ _ hyw]; rfl
      have zcf7 : wo.frozen? ⟨RB, 7, none⟩ = false := frozen_of_row wo RB 7 _ _ hyw
      clear hyw how htk hlt hcp hfp
      go_wp2_with fail
      refine bodyPost_ret (results_cell_row rfl _ _ RB _ _ (0, 0) _ rfl (eight_heap HYW.out) Try.underlying31 rfl infoPred8) rfl ?_
      have hst : ∀ i u (wx : World), Agree (fun b => b = RB) wo wx → Agree (fun b => b = RB) wo (wx.setCell ⟨RB, i, none⟩ u) := fun i u wx h => h.set ⟨RB, i, none⟩ u (.inl rfl)
      have hag8 := hst 7 (.slice vo q vc) _ (hst 6 (.slice none 0 0) _ (hst 5 (.int .i64 0) _ (hst 4 (.int .i64 0) _ (hst 3 (.bool false) _ (hst 2 (.int .i64 0) _ (hst 1 (.int .i64 0) _ (hst 0 (.int .i64 4) _ (Agree.refl _ wo))))))))
      obtain ⟨e1, e2, e3⟩ := HPR.out
      refine ⟨_, rfl, fun w'' hb0 ha => ?_, ?_⟩
      · rw [← HPE.out] at ha
        have hax : AboveX PB (fun b => b = RB ∨ b = OB ∨ (Value.slice vo q vc).ownBlock = some b) wo w'' := fun b h1 h2 h3 => (ha b h1 (Nat.lt_of_lt_of_le h2 hag8.size)).trans (hag8.block b h2 fun h => h3 (.inl h))
        have hab : Above (OB + 1) wo w'' := fun b h1 h2 => (ha b (by omega) (Nat.lt_of_lt_of_le h2 hag8.size)).trans (hag8.block b h2 fun h => by omega)
        have hE := HE2.out w'' hb0 hax
        have hE0 := HE2.out wo HB0W.out (fun b _ _ _ => rfl)
        unfold RdT1
        exact ⟨.slice none 0 0, .slice vo q vc, css, rfl, ⟨Rd.nil _, fun x h => by cases h⟩, ((rdSK_own HO.out HCL.out.symm (fun t ht => (rdTs_ones hE0 t ht).1)).above hab (Nat.le_refl _)).rd, hE⟩
      · rw [← HPE.out]
        exact HBW.out.trans (hag8.below (fun i hi h => by omega) (by have := HZ.out; omega))

set_option maxRecDepth 100000 in
set_option maxHeartbeats 16000000 in
theorem inw_l4t (c o : Int) (v : Vc) (l : List Pt) (hl : ∀ q ∈ l, InwOK q) (hll : l.length ≤ 1000) (cs : List Value) (w0 w : World) (hr : RdT1 w0 (.mk 4 c o v l) cs) (hb : Below w0.heap.size w0 w) (hsz0 : w0.heap.size ≤ w.heap.size) :
    Calls Try.prog 70 #[.agg cs.toArray, .bool true] w fun e w' => ∃ cs' : List Value, e = .returned (.agg cs'.toArray) ∧ (∀ w'', Below w0.heap.size w0 w'' → Above w.heap.size w' w'' → RdT1 w'' (.mk 5 0 0 zeroV (l.map fun q => inwT q true)) cs') ∧ Below w.heap.size w w' := by
  have HBw := Lib.hid hb
  have HSZ := Lib.hid hsz0
  unfold RdT1 at hr
  obtain ⟨s, ls, css0, rfl, hok, hls, hts⟩ := hr
  obtain ⟨sa, sc, hes⟩ := rd_shape8 hok.1
  obtain ⟨ea, ec, hel⟩ := rdS_shape hls
  simp only at hes
  subst hes hel
  have hcl := rdTs_len hts
  obtain ⟨n, hN⟩ : ∃ n, n = l.length := ⟨_, rfl⟩
  obtain ⟨vu, vk, vn, vb⟩ := v
  obtain ⟨m, hm⟩ : ∃ m, m = vb.length := ⟨_, rfl⟩
  unfold cellsP
  simp only
  rw [hcl, ← hN] at hls ⊢
  rw [← hm]
  rw [← hN] at hll
  have HN := Lib.hid hN
  have HLS := Lib.hid hls
  have HTS := Lib.hid hts
  have HL := Lib.hid hl
  clear hok hls hts hm hcl hb hsz0 hN hl
  go_enter Try.func70, Try.ntmps70
  go_upto_region 19 with (fail)
  go_wp2_with fail
  obtain ⟨W, hW⟩ : ∃ W : World, W = ((w.alloc (.cells #[.int .i64 4, .int .i64 c, .int .i64 o, .bool vu, .int .i64 vk, .int .i64 vn, .slice sa m sc, .slice ea n ec] 31)).alloc (.cells #[.int .i64 0, .int .i64 0, .int .i64 0, .bool false, .int .i64 0, .int .i64 0, .slice none 0 0, .slice none 0 0] 31)).alloc (.cells #[.int .i64 5, .int .i64 0, .int .i64 0, .bool false, .int .i64 0, .int .i64 0, .slice none 0 0, .slice none 0 0] 31) := ⟨_, rfl⟩
  rw [← hW]
  have HX0 := Lib.hid (show W.heap[w.heap.size]? = some (.cells #[.int .i64 4, .int .i64 c, .int .i64 o, .bool vu, .int .i64 vk, .int .i64 vn, .slice sa m sc, .slice ea n ec] 31 (0, 0)) by rw [hW]; exact (heap_alloc_old _ _ (by simp; try omega)).trans ((heap_alloc_old _ _ (by simp)).trans (heap_alloc_new w _)))
  have HY0 := Lib.hid (show W.heap[w.heap.size + 1]? = some (.cells #[.int .i64 0, .int .i64 0, .int .i64 0, .bool false, .int .i64 0, .int .i64 0, .slice none 0 0, .slice none 0 0] 31 (0, 0)) by rw [hW]; exact (heaps3 w _ _ _).1)
  have HO0 := Lib.hid (show W.heap[w.heap.size + 2]? = some (.cells #[.int .i64 5, .int .i64 0, .int .i64 0, .bool false, .int .i64 0, .int .i64 0, .slice none 0 0, .slice none 0 0] 31 (0, 0)) by rw [hW]; exact (heaps3 w _ _ _).2)
  have HB0 := Lib.hid (show Below w.heap.size w W by rw [hW]; exact below3 w _ _ _)
  have HWS := Lib.hid (show W.heap.size = w.heap.size + 3 by rw [hW]; simp)
  obtain ⟨PB, hPB⟩ : ∃ PB, PB = w.heap.size := ⟨_, rfl⟩
  rw [← hPB] at HX0 HY0 HO0 HWS ⊢
  obtain ⟨RB, hRB⟩ : ∃ RB, RB = PB + 1 := ⟨_, rfl⟩
  rw [← hRB] at HY0 ⊢
  obtain ⟨OB, hOB⟩ : ∃ OB, OB = RB + 1 := ⟨_, rfl⟩
  rw [show PB + 2 = OB by omega] at HO0
  rw [← hOB]
  have HPE := Lib.hid hPB
  have HPR := Lib.hid (show RB = PB + 1 ∧ OB = PB + 2 ∧ W.heap.size = OB + 1 by have := HWS.out; omega)
  clear hW hPB hRB hOB
  go_loopw [6] (fun i wr => ∃ (q : Nat) (vo : Option Addr) (vc : Nat) (css : List (List Value)), q ≤ n ∧ i = .int .i64 (q : Int) ∧ wr.heap[PB]? = some (.cells #[.int .i64 4, .int .i64 c, .int .i64 o, .bool vu, .int .i64 vk, .int .i64 vn, .slice sa m sc, .slice ea n ec] 31 (0, 0)) ∧ wr.heap[RB]? = some (.cells #[.int .i64 0, .int .i64 0, .int .i64 0, .bool false, .int .i64 0, .int .i64 0, .slice none 0 0, .slice none 0 0] 31 (0, 0)) ∧ wr.heap[OB]? = some (.cells #[.int .i64 5, .int .i64 0, .int .i64 0, .bool false, .int .i64 0, .int .i64 0, .slice none 0 0, .slice vo q vc] 31 (0, 0)) ∧ css.length = q ∧ wr.ownsRow (OB + 1) 31 8 (.slice vo q vc) q css.flatten ∧ (∀ w'', Below w0.heap.size w0 w'' → AboveX PB (fun b => b = RB ∨ b = OB ∨ (Value.slice vo q vc).ownBlock = some b) wr w'' → RdTs w'' ((l.take q).map fun p => inwT p true) css) ∧ OB + 1 ≤ wr.heap.size ∧ Below PB w wr) (fun i _ => n - (intOf i).toNat)
  case atStart => exact ⟨0, none, 0, [], Nat.zero_le _, rfl, HX0.out, HY0.out, HO0.out, rfl, World.ownsRow_nil .., fun w' _ _ => by simp [RdTs], by have := HPR.out; omega, by have h := HB0.out; rw [← HPE.out] at h; exact h⟩
  case round =>
    obtain ⟨q, vo, vc, css, hq, rfl, hx, hy, ho, hclen, hown, hel, hsz, hbel⟩ := hrel
    obtain ⟨wo, rfl⟩ : ∃ wo : World, wo = wr := ⟨_, rfl⟩
    have HXW := Lib.hid hx
    have HYW := Lib.hid hy
    have HOW := Lib.hid ho
    have HCL := Lib.hid hclen
    have HO := Lib.hid hown
    have HE := Lib.hid hel
    have HZ := Lib.hid hsz
    have HBW := Lib.hid hbel
    have HB0W := Lib.hid (show Below w0.heap.size w0 wo from HBw.out.trans (hbel.mono (by have := HSZ.out; have := HPE.out; omega)))
    have hcp : wo.cell? ⟨OB, 7, none⟩ = some (.slice vo q vc) := by rw [cell_of_row wo _ 7 _ _ _ ho]; rfl
    have hfp : wo.frozen? ⟨OB, 7, none⟩ = false := frozen_of_row wo _ 7 _ _ ho
    have hpp : wo.cell? ⟨PB, 7, none⟩ = some (.slice ea n ec) := by rw [cell_of_row wo _ 7 _ _ _ hx]; rfl
    clear hown hel hbel hsz hx hy ho hclen
    by_cases hlt : q < n
    · have hlti : (q : Int) < (n : Int) := by omega
      have hltb : decide ((q : Int) < (n : Int)) = true := by rw [decide_eq_true_eq]; omega
      have hq0 : (0 : Int) ≤ (q : Int) := by omega
      obtain ⟨p, hp⟩ : ∃ p, l[q]? = some p := ⟨_, List.getElem?_eq_getElem (by rw [← HN.out]; exact hlt)⟩
      have HTK := Lib.hid (show l.take (q + 1) = l.take q ++ [p] by rw [List.take_add_one, hp]; rfl)
      have HIN := Lib.hid (HL.out p (List.mem_of_getElem? hp))
      obtain ⟨pcs, hpcs, hrd⟩ := rdTs_at HTS.out hp
      have HRD := Lib.hid hrd
      have hat := (HLS.out.kept HB0W.out).at hpcs
      obtain ⟨pk, pc, po, pvk, pvn, pu, pa, pn, pm, pa2, pn2, pm2, rfl⟩ := rdT1_shape hrd
      obtain ⟨b1, f1, rfl, hcell⟩ := hat
      have m0 : wo.cell? ⟨b1, f1 + q * 8, none⟩ = some (.int .i64 pk) := hcell 0 _ rfl
      have m1 : wo.cell? ⟨b1, f1 + q * 8 + 1, none⟩ = some (.int .i64 pc) := hcell 1 _ rfl
      have m2 : wo.cell? ⟨b1, f1 + q * 8 + 2, none⟩ = some (.int .i64 po) := hcell 2 _ rfl
      have m3 : wo.cell? ⟨b1, f1 + q * 8 + 3, none⟩ = some (.bool pu) := hcell 3 _ rfl
      have m4 : wo.cell? ⟨b1, f1 + q * 8 + 4, none⟩ = some (.int .i64 pvk) := hcell 4 _ rfl
      have m5 : wo.cell? ⟨b1, f1 + q * 8 + 5, none⟩ = some (.int .i64 pvn) := hcell 5 _ rfl
      have m6 : wo.cell? ⟨b1, f1 + q * 8 + 6, none⟩ = some (.slice pa pn pm) := hcell 6 _ rfl
      have m7 : wo.cell? ⟨b1, f1 + q * 8 + 7, none⟩ = some (.slice pa2 pn2 pm2) := hcell 7 _ rfl
      have HCALL := Lib.hid (show ∀ W', Below wo.heap.size wo W' → Calls Try.prog 70 #[.agg #[.int .i64 pk, .int .i64 pc, .int .i64 po, .bool pu, .int .i64 pvk, .int .i64 pvn, .slice pa pn pm, .slice pa2 pn2 pm2], .bool true] W' fun e w' => ∃ cs' : List Value, e = .returned (.agg cs'.toArray) ∧ (∀ w'', Below w0.heap.size w0 w'' → Above W'.heap.size w' w'' → RdT1 w'' (inwT p true) cs') ∧ Below W'.heap.size W' w' from fun W' h => HIN.out true _ w0 W' HRD.out (HB0W.out.trans (h.mono HB0W.out.size)) (Nat.le_trans HB0W.out.size h.size))
      have HOF := Lib.hid (show ∀ i, i < OB + 1 → (Value.slice vo q vc).ownBlock ≠ some i from fun i h e => by have := own_base HO.out i e; omega)
      have HOL := Lib.hid (own_lt HO.out)
      clear hp hpcs hrd hcell
      go_upto_region 22 with (fail)
      go_region_law
        (first
         | (go_simp; go_at_call 70; refine (HCALL.out _ ?_).mono ?_; (exact below_drw _ _); rintro e w2 ⟨cs', rfl, hres, hb2⟩; have HRES : Hid (∀ w'', Below w0.heap.size w0 w'' → Above wo.heap.size w2 w'' → RdT1 w'' (inwT p true) cs') := Lib.hid hres; have HB2 := Lib.hid (show Below wo.heap.size wo w2 from (below_drw _ wo).trans hb2); have hrr := hres w2 (HB0W.out.trans (HB2.out.mono HB0W.out.size)) (Above.refl _ _); obtain ⟨rk, rc, ro, rvk, rvn, ru, ra, rn, rm, ra2, rn2, rm2, rfl⟩ := rdT1_shape hrr; have dp2 : w2.cell? ⟨OB, 7, none⟩ = some (.slice vo q vc) := (HB2.out.cell (World.block_lt_of_cell? _ _ hcp)).trans hcp; have dp3 := fun o => Lib.cell?_alloc_some (W := w2) o dp2; clear hres hrr hb2)
         | (refine step_append_k elmPred (by rfl) _ _ (by rfl) (OB + 1) (.slice vo q vc) q css.flatten (by rfl) ((own_kept HO.out HB2.out).alloc _) _ [[.int .i64 rk, .int .i64 rc, .int .i64 ro, .bool ru, .int .i64 rvk, .int .i64 rvn, .slice ra rn rm, .slice ra2 rn2 rm2]] (by rfl) (rdS_lit w2 _ _ 8 rfl) (fun t ht => by rw [List.mem_singleton.1 ht]; exact ⟨rfl, by simp [Value.oneCell']⟩) (by simp; omega) (by have h1 := HB2.out.size; have h2 := HZ.out; simp; omega) (q + 1) rfl ?_; intro ao4 cap4 w4 hown4 hgrow4 hnew4; have HO4 := Lib.hid hown4; have HG4 : Hid (World.grownBy _ w4 (Value.slice vo q vc).ownBlock) := Lib.hid hgrow4; have HN4 : Hid (∀ g, (Value.slice ao4 (q + 1) cap4).ownBlock = some g → (Value.slice vo q vc).ownBlock = some g ∨ g = _) := Lib.hid hnew4; have hp4 : w4.heap[OB]? = some (.cells #[.int .i64 5, .int .i64 0, .int .i64 0, .bool false, .int .i64 0, .int .i64 0, .slice none 0 0, .slice vo q vc] 31 (0, 0)) := (HG4.out.block OB (by have h1 := HB2.out.size; have h2 := HZ.out; simp; omega) (fun e => HOF.out OB (by omega) e.symm)).trans ((heap_alloc_old w2 _ (by have h1 := HB2.out.size; have h2 := HZ.out; omega)).trans ((HB2.out.block OB (by have h2 := HZ.out; omega)).trans HOW.out)); have HP4 := Lib.hid hp4; have hc4 : w4.cell? ⟨OB, 7, none⟩ = some (.slice vo q vc) := (by rw [cell_of_row w4 OB 7 _ _ _ hp4]; rfl); have hf4 : w4.frozen? ⟨OB, 7, none⟩ = false := frozen_of_row w4 _ 7 _ _ hp4; clear hown4 hgrow4 hnew4 hp4))
      all_goals
        go_wp2_with fail
        go_roundw
        case rel =>
          have hz := HZ.out
          obtain ⟨e1, e2, e3⟩ := HPR.out
          have hs2 := HB2.out.size
          have hsa : (w2.alloc (.cells #[.int .i64 rk, .int .i64 rc, .int .i64 ro, .bool ru, .int .i64 rvk, .int .i64 rvn, .slice ra rn rm, .slice ra2 rn2 rm2] 31)).heap.size = w2.heap.size + 1 := by simp
          have hs4 := HG4.out.size
          rw [hsa] at hs4
          have hss : (w4.setCell ⟨OB, 7, none⟩ (.slice ao4 (q + 1) cap4)).heap.size = w4.heap.size := by simp [World.setCell]
          have hnb : ∀ b, (Value.slice ao4 (q + 1) cap4).ownBlock = some b → (Value.slice vo q vc).ownBlock = some b ∨ b = w2.heap.size + 1 := fun b h => (HN4.out b h).imp id fun h => by rw [h]; exact hsa
          have hnp : ∀ b, (Value.slice ao4 (q + 1) cap4).ownBlock = some b → OB + 1 ≤ b := fun b h => own_base HO4.out b h
          have hol := HOL.out
          have same : ∀ b, b < w2.heap.size → b ≠ OB → (Value.slice vo q vc).ownBlock ≠ some b → (w4.setCell ⟨OB, 7, none⟩ (.slice ao4 (q + 1) cap4)).heap[b]? = w2.heap[b]? := fun b h1 h2 h3 =>
            (heap_setCell_other w4 ⟨OB, 7, none⟩ b _ h2).trans ((HG4.out.block b (by rw [hsa]; omega) (fun e => h3 e.symm)).trans (heap_alloc_old w2 _ h1))
          refine ⟨q + 1, ao4, cap4, css ++ [[.int .i64 rk, .int .i64 rc, .int .i64 ro, .bool ru, .int .i64 rvk, .int .i64 rvn, .slice ra rn rm, .slice ra2 rn2 rm2]], by omega, by go_num, ?_, ?_, ?_, ?_, ?_, ?_, ?_, ?_⟩
          · exact (same PB (by omega) (by omega) (HOF.out PB (by omega))).trans ((HB2.out.block PB (by omega)).trans HXW.out)
          · exact (same RB (by omega) (by omega) (HOF.out RB (by omega))).trans ((HB2.out.block RB (by omega)).trans HYW.out)
          · exact heap_setCell_same w4 _ 7 _ _ _ HP4.out
          · rw [List.length_append, HCL.out]; rfl
          · have h1 := ownsRow_agree HO4.out (agree_set (fun b => b = OB) w4 ⟨OB, 7, none⟩ (.slice ao4 (q + 1) cap4) rfl) (fun b hb h => by have := hnp b hb; omega)
            rw [List.flatten_append]
            exact h1
          · rw [HTK.out, List.map_append]
            intro w' hb0 ha
            refine rdTs_snoc (HRES.out w' hb0 fun b h1 h2 => ?_) (HE.out w' hb0 fun b h1 h2 h3 => ?_)
            · have hne : ¬ (b = RB ∨ b = OB ∨ (Value.slice ao4 (q + 1) cap4).ownBlock = some b) := fun h => by
                rcases h with h | h | h
                · omega
                · omega
                · rcases hnb b h with h | h
                  · have := hol b h; omega
                  · omega
              exact (ha b (by omega) (by rw [hss]; omega) hne).trans (same b h2 (by omega) (fun h => by have := hol b h; omega))
            · have hne : ¬ (b = RB ∨ b = OB ∨ (Value.slice ao4 (q + 1) cap4).ownBlock = some b) := fun h => by
                rcases h with h | h | h
                · exact h3 (.inl h)
                · exact h3 (.inr (.inl h))
                · rcases hnb b h with h | h
                  · exact h3 (.inr (.inr h))
                  · omega
              exact (ha b h1 (by rw [hss]; omega) hne).trans ((same b (by omega) (fun h => h3 (.inr (.inl h))) (fun h => h3 (.inr (.inr h)))).trans (HB2.out.block b h2))
          · rw [hss]; omega
          · have hb4 := ((HBW.out.trans (HB2.out.mono (by omega))).alloc (by omega) (.cells #[.int .i64 rk, .int .i64 rc, .int .i64 ro, .bool ru, .int .i64 rvk, .int .i64 rvn, .slice ra rn rm, .slice ra2 rn2 rm2] 31)).grown HG4.out (by rw [hsa]; omega) (fun k e => by have := own_base HO.out k e; omega)
            exact hb4.setCell (p := ⟨OB, 7, none⟩) (by show PB ≤ OB; omega) _
        case measure => simp [intOf]; omega
    · have hlti : ¬ (q : Int) < (n : Int) := by omega
      have hltb : decide ((q : Int) < (n : Int)) = false := by rw [decide_eq_false_iff_not]; omega
      have htk : l.take q = l := List.take_of_length_le (by rw [← HN.out]; omega)
      have HE2 := Lib.hid (show ∀ w'', Below w0.heap.size w0 w'' → AboveX PB (fun b => b = RB ∨ b = OB ∨ (Value.slice vo q vc).ownBlock = some b) wo w'' → RdTs w'' (l.map fun p => inwT p true) css by have h := HE.out; rw [htk] at h; exact h)
      have hyw := HYW.out
      have how := HOW.out
      have pc0 : wo.cell? ⟨OB, 0, none⟩ = some (.int .i64 5) := by rw [cell_of_row wo OB 0 _ _ _ how]; rfl
      have pcf0 : wo.frozen? ⟨OB, 0, none⟩ = false := frozen_of_row wo OB 0 _ _ how
      have pc1 : wo.cell? ⟨OB, 1, none⟩ = some (.int .i64 0) := by rw [cell_of_row wo OB 1 _ _ _ how]; rfl
      have pcf1 : wo.frozen? ⟨OB, 1, none⟩ = false := frozen_of_row wo OB 1 _ _ how
      have pc2 : wo.cell? ⟨OB, 2, none⟩ = some (.int .i64 0) := by rw [cell_of_row wo OB 2 _ _ _ how]; rfl
      have pcf2 : wo.frozen? ⟨OB, 2, none⟩ = false := frozen_of_row wo OB 2 _ _ how
      have pc3 : wo.cell? ⟨OB, 3, none⟩ = some (.bool false) := by rw [cell_of_row wo OB 3 _ _ _ how]; rfl
      have pcf3 : wo.frozen? ⟨OB, 3, none⟩ = false := frozen_of_row wo OB 3 _ _ how
      have pc4 : wo.cell? ⟨OB, 4, none⟩ = some (.int .i64 0) := by rw [cell_of_row wo OB 4 _ _ _ how]; rfl
      have pcf4 : wo.frozen? ⟨OB, 4, none⟩ = false := frozen_of_row wo OB 4 _ _ how
      have pc5 : wo.cell? ⟨OB, 5, none⟩ = some (.int .i64 0) := by rw [cell_of_row wo OB 5 _ _ _ how]; rfl
      have pcf5 : wo.frozen? ⟨OB, 5, none⟩ = false := frozen_of_row wo OB 5 _ _ how
      have pc6 : wo.cell? ⟨OB, 6, none⟩ = some (.slice none 0 0) := by rw [cell_of_row wo OB 6 _ _ _ how]; rfl
      have pcf6 : wo.frozen? ⟨OB, 6, none⟩ = false := frozen_of_row wo OB 6 _ _ how
      have pc7 : wo.cell? ⟨OB, 7, none⟩ = some (.slice vo q vc) := by rw [cell_of_row wo OB 7 _ _ _ how]; rfl
      have pcf7 : wo.frozen? ⟨OB, 7, none⟩ = false := frozen_of_row wo OB 7 _ _ how
      have zc0 : wo.cell? ⟨RB, 0, none⟩ = some (.int .i64 0) := by rw [cell_of_row wo RB 0 _ _ _ hyw]; rfl
      have zcf0 : wo.frozen? ⟨RB, 0, none⟩ = false := frozen_of_row wo RB 0 _ _ hyw
      have zc1 : wo.cell? ⟨RB, 1, none⟩ = some (.int .i64 0) := by rw [cell_of_row wo RB 1 _ _ _ hyw]; rfl
      have zcf1 : wo.frozen? ⟨RB, 1, none⟩ = false := frozen_of_row wo RB 1 _ _ hyw
      have zc2 : wo.cell? ⟨RB, 2, none⟩ = some (.int .i64 0) := by rw [cell_of_row wo RB 2 _ _ _ hyw]; rfl
      have zcf2 : wo.frozen? ⟨RB, 2, none⟩ = false := frozen_of_row wo RB 2 _ _ hyw
      have zc3 : wo.cell? ⟨RB, 3, none⟩ = some (.bool false) := by rw [cell_of_row wo RB 3 _ _ _ hyw]; rfl
      have zcf3 : wo.frozen? ⟨RB, 3, none⟩ = false := frozen_of_row wo RB 3 _ _ hyw
      have zc4 : wo.cell? ⟨RB, 4, none⟩ = some (.int .i64 0) := by rw [cell_of_row wo RB 4 _ _ _ hyw]; rfl
      have zcf4 : wo.frozen? ⟨RB, 4, none⟩ = false := frozen_of_row wo RB 4 _ _ hyw
      have zc5 : wo.cell? ⟨RB, 5, none⟩ = some (.int .i64 0) := by rw [cell_of_row wo RB 5 _ _ _ hyw]; rfl
      have zcf5 : wo.frozen? ⟨RB, 5, none⟩ = false := frozen_of_row wo RB 5 _ _ hyw
      have zc6 : wo.cell? ⟨RB, 6, none⟩ = some (.slice none 0 0) := by rw [cell_of_row wo RB 6 _ _ _ hyw]; rfl
      have zcf6 : wo.frozen? ⟨RB, 6, none⟩ = false := frozen_of_row wo RB 6 _ _ hyw
      have zc7 : wo.cell? ⟨RB, 7, none⟩ = some (.slice none 0 0) := by rw [cell_of_row wo RB 7 _ _ _ hyw]; rfl
      have zcf7 : wo.frozen? ⟨RB, 7, none⟩ = false := frozen_of_row wo RB 7 _ _ hyw
      clear hyw how htk hlt hcp hfp
      go_wp2_with fail
      refine bodyPost_ret (results_cell_row rfl _ _ RB _ _ (0, 0) _ rfl (eight_heap HYW.out) Try.underlying31 rfl infoPred8) rfl ?_
      have hst : ∀ i u (wx : World), Agree (fun b => b = RB) wo wx → Agree (fun b => b = RB) wo (wx.setCell ⟨RB, i, none⟩ u) := fun i u wx h => h.set ⟨RB, i, none⟩ u (.inl rfl)
      have hag8 := hst 7 (.slice vo q vc) _ (hst 6 (.slice none 0 0) _ (hst 5 (.int .i64 0) _ (hst 4 (.int .i64 0) _ (hst 3 (.bool false) _ (hst 2 (.int .i64 0) _ (hst 1 (.int .i64 0) _ (hst 0 (.int .i64 5) _ (Agree.refl _ wo))))))))
      obtain ⟨e1, e2, e3⟩ := HPR.out
      refine ⟨_, rfl, fun w'' hb0 ha => ?_, ?_⟩
      · rw [← HPE.out] at ha
        have hax : AboveX PB (fun b => b = RB ∨ b = OB ∨ (Value.slice vo q vc).ownBlock = some b) wo w'' := fun b h1 h2 h3 => (ha b h1 (Nat.lt_of_lt_of_le h2 hag8.size)).trans (hag8.block b h2 fun h => h3 (.inl h))
        have hab : Above (OB + 1) wo w'' := fun b h1 h2 => (ha b (by omega) (Nat.lt_of_lt_of_le h2 hag8.size)).trans (hag8.block b h2 fun h => by omega)
        have hE := HE2.out w'' hb0 hax
        have hE0 := HE2.out wo HB0W.out (fun b _ _ _ => rfl)
        unfold RdT1
        exact ⟨.slice none 0 0, .slice vo q vc, css, rfl, ⟨Rd.nil _, fun x h => by cases h⟩, ((rdSK_own HO.out HCL.out.symm (fun t ht => (rdTs_ones hE0 t ht).1)).above hab (Nat.le_refl _)).rd, hE⟩
      · rw [← HPE.out]
        exact HBW.out.trans (hag8.below (fun i hi h => by omega) (by have := HZ.out; omega))

set_option maxRecDepth 100000 in
set_option maxHeartbeats 16000000 in
theorem inw_l5f (c o : Int) (v : Vc) (l : List Pt) (hl : ∀ q ∈ l, InwOK q) (hll : l.length ≤ 1000) (cs : List Value) (w0 w : World) (hr : RdT1 w0 (.mk 5 c o v l) cs) (hb : Below w0.heap.size w0 w) (hsz0 : w0.heap.size ≤ w.heap.size) :
    Calls Try.prog 70 #[.agg cs.toArray, .bool false] w fun e w' => ∃ cs' : List Value, e = .returned (.agg cs'.toArray) ∧ (∀ w'', Below w0.heap.size w0 w'' → Above w.heap.size w' w'' → RdT1 w'' (.mk 5 0 0 zeroV (l.map fun q => inwT q false)) cs') ∧ Below w.heap.size w w' := by
  have HBw := Lib.hid hb
  have HSZ := Lib.hid hsz0
  unfold RdT1 at hr
  obtain ⟨s, ls, css0, rfl, hok, hls, hts⟩ := hr
  obtain ⟨sa, sc, hes⟩ := rd_shape8 hok.1
  obtain ⟨ea, ec, hel⟩ := rdS_shape hls
  simp only at hes
  subst hes hel
  have hcl := rdTs_len hts
  obtain ⟨n, hN⟩ : ∃ n, n = l.length := ⟨_, rfl⟩
  obtain ⟨vu, vk, vn, vb⟩ := v
  obtain ⟨m, hm⟩ : ∃ m, m = vb.length := ⟨_, rfl⟩
  unfold cellsP
  simp only
  rw [hcl, ← hN] at hls ⊢
  rw [← hm]
  rw [← hN] at hll
  have HN := Lib.hid hN
  have HLS := Lib.hid hls
  have HTS := Lib.hid hts
  have HL := Lib.hid hl
  clear hok hls hts hm hcl hb hsz0 hN hl
  go_enter Try.func70, Try.ntmps70
  go_upto_region 19 with (fail)
  go_wp2_with fail
  obtain ⟨W, hW⟩ : ∃ W : World, W = ((w.alloc (.cells #[.int .i64 5, .int .i64 c, .int .i64 o, .bool vu, .int .i64 vk, .int .i64 vn, .slice sa m sc, .slice ea n ec] 31)).alloc (.cells #[.int .i64 0, .int .i64 0, .int .i64 0, .bool false, .int .i64 0, .int .i64 0, .slice none 0 0, .slice none 0 0] 31)).alloc (.cells #[.int .i64 5, .int .i64 0, .int .i64 0, .bool false, .int .i64 0, .int .i64 0, .slice none 0 0, .slice none 0 0] 31) := ⟨_, rfl⟩
  rw [← hW]
  have HX0 := Lib.hid (show W.heap[w.heap.size]? = some (.cells #[.int .i64 5, .int .i64 c, .int .i64 o, .bool vu, .int .i64 vk, .int .i64 vn, .slice sa m sc, .slice ea n ec] 31 (0, 0)) by rw [hW]; exact (heap_alloc_old _ _ (by simp; try omega)).trans ((heap_alloc_old _ _ (by simp)).trans (heap_alloc_new w _)))
  have HY0 := Lib.hid (show W.heap[w.heap.size + 1]? = some (.cells #[.int .i64 0, .int .i64 0, .int .i64 0, .bool false, .int .i64 0, .int .i64 0, .slice none 0 0, .slice none 0 0] 31 (0, 0)) by rw [hW]; exact (heaps3 w _ _ _).1)
  have HO0 := Lib.hid (show W.heap[w.heap.size + 2]? = some (.cells #[.int .i64 5, .int .i64 0, .int .i64 0, .bool false, .int .i64 0, .int .i64 0, .slice none 0 0, .slice none 0 0] 31 (0, 0)) by rw [hW]; exact (heaps3 w _ _ _).2)
  have HB0 := Lib.hid (show Below w.heap.size w W by rw [hW]; exact below3 w _ _ _)
  have HWS := Lib.hid (show W.heap.size = w.heap.size + 3 by rw [hW]; simp)
  obtain ⟨PB, hPB⟩ : ∃ PB, PB = w.heap.size := ⟨_, rfl⟩
  rw [← hPB] at HX0 HY0 HO0 HWS ⊢
  obtain ⟨RB, hRB⟩ : ∃ RB, RB = PB + 1 := ⟨_, rfl⟩
  rw [← hRB] at HY0 ⊢
  obtain ⟨OB, hOB⟩ : ∃ OB, OB = RB + 1 := ⟨_, rfl⟩
  rw [show PB + 2 = OB by omega] at HO0
  rw [← hOB]
  have HPE := Lib.hid hPB
  have HPR := Lib.hid (show RB = PB + 1 ∧ OB = PB + 2 ∧ W.heap.size = OB + 1 by have := HWS.out; omega)
  clear hW hPB hRB hOB
  go_loopw [6] (fun i wr => ∃ (q : Nat) (vo : Option Addr) (vc : Nat) (css : List (List Value)), q ≤ n ∧ i = .int .i64 (q : Int) ∧ wr.heap[PB]? = some (.cells #[.int .i64 5, .int .i64 c, .int .i64 o, .bool vu, .int .i64 vk, .int .i64 vn, .slice sa m sc, .slice ea n ec] 31 (0, 0)) ∧ wr.heap[RB]? = some (.cells #[.int .i64 0, .int .i64 0, .int .i64 0, .bool false, .int .i64 0, .int .i64 0, .slice none 0 0, .slice none 0 0] 31 (0, 0)) ∧ wr.heap[OB]? = some (.cells #[.int .i64 5, .int .i64 0, .int .i64 0, .bool false, .int .i64 0, .int .i64 0, .slice none 0 0, .slice vo q vc] 31 (0, 0)) ∧ css.length = q ∧ wr.ownsRow (OB + 1) 31 8 (.slice vo q vc) q css.flatten ∧ (∀ w'', Below w0.heap.size w0 w'' → AboveX PB (fun b => b = RB ∨ b = OB ∨ (Value.slice vo q vc).ownBlock = some b) wr w'' → RdTs w'' ((l.take q).map fun p => inwT p false) css) ∧ OB + 1 ≤ wr.heap.size ∧ Below PB w wr) (fun i _ => n - (intOf i).toNat)
  case atStart => exact ⟨0, none, 0, [], Nat.zero_le _, rfl, HX0.out, HY0.out, HO0.out, rfl, World.ownsRow_nil .., fun w' _ _ => by simp [RdTs], by have := HPR.out; omega, by have h := HB0.out; rw [← HPE.out] at h; exact h⟩
  case round =>
    obtain ⟨q, vo, vc, css, hq, rfl, hx, hy, ho, hclen, hown, hel, hsz, hbel⟩ := hrel
    obtain ⟨wo, rfl⟩ : ∃ wo : World, wo = wr := ⟨_, rfl⟩
    have HXW := Lib.hid hx
    have HYW := Lib.hid hy
    have HOW := Lib.hid ho
    have HCL := Lib.hid hclen
    have HO := Lib.hid hown
    have HE := Lib.hid hel
    have HZ := Lib.hid hsz
    have HBW := Lib.hid hbel
    have HB0W := Lib.hid (show Below w0.heap.size w0 wo from HBw.out.trans (hbel.mono (by have := HSZ.out; have := HPE.out; omega)))
    have hcp : wo.cell? ⟨OB, 7, none⟩ = some (.slice vo q vc) := by rw [cell_of_row wo _ 7 _ _ _ ho]; rfl
    have hfp : wo.frozen? ⟨OB, 7, none⟩ = false := frozen_of_row wo _ 7 _ _ ho
    have hpp : wo.cell? ⟨PB, 7, none⟩ = some (.slice ea n ec) := by rw [cell_of_row wo _ 7 _ _ _ hx]; rfl
    clear hown hel hbel hsz hx hy ho hclen
    by_cases hlt : q < n
    · have hlti : (q : Int) < (n : Int) := by omega
      have hltb : decide ((q : Int) < (n : Int)) = true := by rw [decide_eq_true_eq]; omega
      have hq0 : (0 : Int) ≤ (q : Int) := by omega
      obtain ⟨p, hp⟩ : ∃ p, l[q]? = some p := ⟨_, List.getElem?_eq_getElem (by rw [← HN.out]; exact hlt)⟩
      have HTK := Lib.hid (show l.take (q + 1) = l.take q ++ [p] by rw [List.take_add_one, hp]; rfl)
      have HIN := Lib.hid (HL.out p (List.mem_of_getElem? hp))
      obtain ⟨pcs, hpcs, hrd⟩ := rdTs_at HTS.out hp
      have HRD := Lib.hid hrd
      have hat := (HLS.out.kept HB0W.out).at hpcs
      obtain ⟨pk, pc, po, pvk, pvn, pu, pa, pn, pm, pa2, pn2, pm2, rfl⟩ := rdT1_shape hrd
      obtain ⟨b1, f1, rfl, hcell⟩ := hat
      have m0 : wo.cell? ⟨b1, f1 + q * 8, none⟩ = some (.int .i64 pk) := hcell 0 _ rfl
      have m1 : wo.cell? ⟨b1, f1 + q * 8 + 1, none⟩ = some (.int .i64 pc) := hcell 1 _ rfl
      have m2 : wo.cell? ⟨b1, f1 + q * 8 + 2, none⟩ = some (.int .i64 po) := hcell 2 _ rfl
      have m3 : wo.cell? ⟨b1, f1 + q * 8 + 3, none⟩ = some (.bool pu) := hcell 3 _ rfl
      have m4 : wo.cell? ⟨b1, f1 + q * 8 + 4, none⟩ = some (.int .i64 pvk) := hcell 4 _ rfl
      have m5 : wo.cell? ⟨b1, f1 + q * 8 + 5, none⟩ = some (.int .i64 pvn) := hcell 5 _ rfl
      have m6 : wo.cell? ⟨b1, f1 + q * 8 + 6, none⟩ = some (.slice pa pn pm) := hcell 6 _ rfl
      have m7 : wo.cell? ⟨b1, f1 + q * 8 + 7, none⟩ = some (.slice pa2 pn2 pm2) := hcell 7 _ rfl
      have HCALL := Lib.hid (show ∀ W', Below wo.heap.size wo W' → Calls Try.prog 70 #[.agg #[.int .i64 pk, .int .i64 pc, .int .i64 po, .bool pu, .int .i64 pvk, .int .i64 pvn, .slice pa pn pm, .slice pa2 pn2 pm2], .bool false] W' fun e w' => ∃ cs' : List Value, e = .returned (.agg cs'.toArray) ∧ (∀ w'', Below w0.heap.size w0 w'' → Above W'.heap.size w' w'' → RdT1 w'' (inwT p false) cs') ∧ Below W'.heap.size W' w' from fun W' h => HIN.out false _ w0 W' HRD.out (HB0W.out.trans (h.mono HB0W.out.size)) (Nat.le_trans HB0W.out.size h.size))
      have HOF := Lib.hid (show ∀ i, i < OB + 1 → (Value.slice vo q vc).ownBlock ≠ some i from fun i h e => by have := own_base HO.out i e; omega)
      have HOL := Lib.hid (own_lt HO.out)
      clear hp hpcs hrd hcell
      go_upto_region 22 with (fail)
      go_region_law
        (first
         | (go_simp; go_at_call 70; refine (HCALL.out _ ?_).mono ?_; (exact below_drw _ _); rintro e w2 ⟨cs', rfl, hres, hb2⟩; have HRES : Hid (∀ w'', Below w0.heap.size w0 w'' → Above wo.heap.size w2 w'' → RdT1 w'' (inwT p false) cs') := Lib.hid hres; have HB2 := Lib.hid (show Below wo.heap.size wo w2 from (below_drw _ wo).trans hb2); have hrr := hres w2 (HB0W.out.trans (HB2.out.mono HB0W.out.size)) (Above.refl _ _); obtain ⟨rk, rc, ro, rvk, rvn, ru, ra, rn, rm, ra2, rn2, rm2, rfl⟩ := rdT1_shape hrr; have dp2 : w2.cell? ⟨OB, 7, none⟩ = some (.slice vo q vc) := (HB2.out.cell (World.block_lt_of_cell? _ _ hcp)).trans hcp; have dp3 := fun o => Lib.cell?_alloc_some (W := w2) o dp2; clear hres hrr hb2)
         | (refine step_append_k elmPred (by rfl) _ _ (by rfl) (OB + 1) (.slice vo q vc) q css.flatten (by rfl) ((own_kept HO.out HB2.out).alloc _) _ [[.int .i64 rk, .int .i64 rc, .int .i64 ro, .bool ru, .int .i64 rvk, .int .i64 rvn, .slice ra rn rm, .slice ra2 rn2 rm2]] (by rfl) (rdS_lit w2 _ _ 8 rfl) (fun t ht => by rw [List.mem_singleton.1 ht]; exact ⟨rfl, by simp [Value.oneCell']⟩) (by simp; omega) (by have h1 := HB2.out.size; have h2 := HZ.out; simp; omega) (q + 1) rfl ?_; intro ao4 cap4 w4 hown4 hgrow4 hnew4; have HO4 := Lib.hid hown4; have HG4 : Hid (World.grownBy _ w4 (Value.slice vo q vc).ownBlock) := Lib.hid hgrow4; have HN4 : Hid (∀ g, (Value.slice ao4 (q + 1) cap4).ownBlock = some g → (Value.slice vo q vc).ownBlock = some g ∨ g = _) := Lib.hid hnew4; have hp4 : w4.heap[OB]? = some (.cells #[.int .i64 5, .int .i64 0, .int .i64 0, .bool false, .int .i64 0, .int .i64 0, .slice none 0 0, .slice vo q vc] 31 (0, 0)) := (HG4.out.block OB (by have h1 := HB2.out.size; have h2 := HZ.out; simp; omega) (fun e => HOF.out OB (by omega) e.symm)).trans ((heap_alloc_old w2 _ (by have h1 := HB2.out.size; have h2 := HZ.out; omega)).trans ((HB2.out.block OB (by have h2 := HZ.out; omega)).trans HOW.out)); have HP4 := Lib.hid hp4; have hc4 : w4.cell? ⟨OB, 7, none⟩ = some (.slice vo q vc) := (by rw [cell_of_row w4 OB 7 _ _ _ hp4]; rfl); have hf4 : w4.frozen? ⟨OB, 7, none⟩ = false := frozen_of_row w4 _ 7 _ _ hp4; clear hown4 hgrow4 hnew4 hp4))
      all_goals
        go_wp2_with fail
        go_roundw
        case rel =>
          have hz := HZ.out
          obtain ⟨e1, e2, e3⟩ := HPR.out
          have hs2 := HB2.out.size
          have hsa : (w2.alloc (.cells #[.int .i64 rk, .int .i64 rc, .int .i64 ro, .bool ru, .int .i64 rvk, .int .i64 rvn, .slice ra rn rm, .slice ra2 rn2 rm2] 31)).heap.size = w2.heap.size + 1 := by simp
          have hs4 := HG4.out.size
          rw [hsa] at hs4
          have hss : (w4.setCell ⟨OB, 7, none⟩ (.slice ao4 (q + 1) cap4)).heap.size = w4.heap.size := by simp [World.setCell]
          have hnb : ∀ b, (Value.slice ao4 (q + 1) cap4).ownBlock = some b → (Value.slice vo q vc).ownBlock = some b ∨ b = w2.heap.size + 1 := fun b h => (HN4.out b h).imp id fun h => by rw [h]; exact hsa
          have hnp : ∀ b, (Value.slice ao4 (q + 1) cap4).ownBlock = some b → OB + 1 ≤ b := fun b h => own_base HO4.out b h
          have hol := HOL.out
          have same : ∀ b, b < w2.heap.size → b ≠ OB → (Value.slice vo q vc).ownBlock ≠ some b → (w4.setCell ⟨OB, 7, none⟩ (.slice ao4 (q + 1) cap4)).heap[b]? = w2.heap[b]? := fun b h1 h2 h3 =>
            (heap_setCell_other w4 ⟨OB, 7, none⟩ b _ h2).trans ((HG4.out.block b (by rw [hsa]; omega) (fun e => h3 e.symm)).trans (heap_alloc_old w2 _ h1))
          refine ⟨q + 1, ao4, cap4, css ++ [[.int .i64 rk, .int .i64 rc, .int .i64 ro, .bool ru, .int .i64 rvk, .int .i64 rvn, .slice ra rn rm, .slice ra2 rn2 rm2]], by omega, by go_num, ?_, ?_, ?_, ?_, ?_, ?_, ?_, ?_⟩
          · exact (same PB (by omega) (by omega) (HOF.out PB (by omega))).trans ((HB2.out.block PB (by omega)).trans HXW.out)
          · exact (same RB (by omega) (by omega) (HOF.out RB (by omega))).trans ((HB2.out.block RB (by omega)).trans HYW.out)
          · exact heap_setCell_same w4 _ 7 _ _ _ HP4.out
          · rw [List.length_append, HCL.out]; rfl
          · have h1 := ownsRow_agree HO4.out (agree_set (fun b => b = OB) w4 ⟨OB, 7, none⟩ (.slice ao4 (q + 1) cap4) rfl) (fun b hb h => by have := hnp b hb; omega)
            rw [List.flatten_append]
            exact h1
          · rw [HTK.out, List.map_append]
            intro w' hb0 ha
            refine rdTs_snoc (HRES.out w' hb0 fun b h1 h2 => ?_) (HE.out w' hb0 fun b h1 h2 h3 => ?_)
            · have hne : ¬ (b = RB ∨ b = OB ∨ (Value.slice ao4 (q + 1) cap4).ownBlock = some b) := fun h => by
                rcases h with h | h | h
                · omega
                · omega
                · rcases hnb b h with h | h
                  · have := hol b h; omega
                  · omega
              exact (ha b (by omega) (by rw [hss]; omega) hne).trans (same b h2 (by omega) (fun h => by have := hol b h; omega))
            · have hne : ¬ (b = RB ∨ b = OB ∨ (Value.slice ao4 (q + 1) cap4).ownBlock = some b) := fun h => by
                rcases h with h | h | h
                · exact h3 (.inl h)
                · exact h3 (.inr (.inl h))
                · rcases hnb b h with h | h
                  · exact h3 (.inr (.inr h))
                  · omega
              exact (ha b h1 (by rw [hss]; omega) hne).trans ((same b (by omega) (fun h => h3 (.inr (.inl h))) (fun h => h3 (.inr (.inr h)))).trans (HB2.out.block b h2))
          · rw [hss]; omega
          · have hb4 := ((HBW.out.trans (HB2.out.mono (by omega))).alloc (by omega) (.cells #[.int .i64 rk, .int .i64 rc, .int .i64 ro, .bool ru, .int .i64 rvk, .int .i64 rvn, .slice ra rn rm, .slice ra2 rn2 rm2] 31)).grown HG4.out (by rw [hsa]; omega) (fun k e => by have := own_base HO.out k e; omega)
            exact hb4.setCell (p := ⟨OB, 7, none⟩) (by show PB ≤ OB; omega) _
        case measure => simp [intOf]; omega
    · have hlti : ¬ (q : Int) < (n : Int) := by omega
      have hltb : decide ((q : Int) < (n : Int)) = false := by rw [decide_eq_false_iff_not]; omega
      have htk : l.take q = l := List.take_of_length_le (by rw [← HN.out]; omega)
      have HE2 := Lib.hid (show ∀ w'', Below w0.heap.size w0 w'' → AboveX PB (fun b => b = RB ∨ b = OB ∨ (Value.slice vo q vc).ownBlock = some b) wo w'' → RdTs w'' (l.map fun p => inwT p false) css by have h := HE.out; rw [htk] at h; exact h)
      have hyw := HYW.out
      have how := HOW.out
      have pc0 : wo.cell? ⟨OB, 0, none⟩ = some (.int .i64 5) := by rw [cell_of_row wo OB 0 _ _ _ how]; rfl
      have pcf0 : wo.frozen? ⟨OB, 0, none⟩ = false := frozen_of_row wo OB 0 _ _ how
      have pc1 : wo.cell? ⟨OB, 1, none⟩ = some (.int .i64 0) := by rw [cell_of_row wo OB 1 _ _ _ how]; rfl
      have pcf1 : wo.frozen? ⟨OB, 1, none⟩ = false := frozen_of_row wo OB 1 _ _ how
      have pc2 : wo.cell? ⟨OB, 2, none⟩ = some (.int .i64 0) := by rw [cell_of_row wo OB 2 _ _ _ how]; rfl
      have pcf2 : wo.frozen? ⟨OB, 2, none⟩ = false := frozen_of_row wo OB 2 _ _ how
      have pc3 : wo.cell? ⟨OB, 3, none⟩ = some (.bool false) := by rw [cell_of_row wo OB 3 _ _ _ how]; rfl
      have pcf3 : wo.frozen? ⟨OB, 3, none⟩ = false := frozen_of_row wo OB 3 _ _ how
      have pc4 : wo.cell? ⟨OB, 4, none⟩ = some (.int .i64 0) := by rw [cell_of_row wo OB 4 _ _ _ how]; rfl
      have pcf4 : wo.frozen? ⟨OB, 4, none⟩ = false := frozen_of_row wo OB 4 _ _ how
      have pc5 : wo.cell? ⟨OB, 5, none⟩ = some (.int .i64 0) := by rw [cell_of_row wo OB 5 _ _ _ how]; rfl
      have pcf5 : wo.frozen? ⟨OB, 5, none⟩ = false := frozen_of_row wo OB 5 _ _ how
      have pc6 : wo.cell? ⟨OB, 6, none⟩ = some (.slice none 0 0) := by rw [cell_of_row wo OB 6 _ _ _ how]; rfl
      have pcf6 : wo.frozen? ⟨OB, 6, none⟩ = false := frozen_of_row wo OB 6 _ _ how
      have pc7 : wo.cell? ⟨OB, 7, none⟩ = some (.slice vo q vc) := by rw [cell_of_row wo OB 7 _ _ _ how]; rfl
      have pcf7 : wo.frozen? ⟨OB, 7, none⟩ = false := frozen_of_row wo OB 7 _ _ how
      have zc0 : wo.cell? ⟨RB, 0, none⟩ = some (.int .i64 0) := by rw [cell_of_row wo RB 0 _ _ _ hyw]; rfl
      have zcf0 : wo.frozen? ⟨RB, 0, none⟩ = false := frozen_of_row wo RB 0 _ _ hyw
      have zc1 : wo.cell? ⟨RB, 1, none⟩ = some (.int .i64 0) := by rw [cell_of_row wo RB 1 _ _ _ hyw]; rfl
      have zcf1 : wo.frozen? ⟨RB, 1, none⟩ = false := frozen_of_row wo RB 1 _ _ hyw
      have zc2 : wo.cell? ⟨RB, 2, none⟩ = some (.int .i64 0) := by rw [cell_of_row wo RB 2 _ _ _ hyw]; rfl
      have zcf2 : wo.frozen? ⟨RB, 2, none⟩ = false := frozen_of_row wo RB 2 _ _ hyw
      have zc3 : wo.cell? ⟨RB, 3, none⟩ = some (.bool false) := by rw [cell_of_row wo RB 3 _ _ _ hyw]; rfl
      have zcf3 : wo.frozen? ⟨RB, 3, none⟩ = false := frozen_of_row wo RB 3 _ _ hyw
      have zc4 : wo.cell? ⟨RB, 4, none⟩ = some (.int .i64 0) := by rw [cell_of_row wo RB 4 _ _ _ hyw]; rfl
      have zcf4 : wo.frozen? ⟨RB, 4, none⟩ = false := frozen_of_row wo RB 4 _ _ hyw
      have zc5 : wo.cell? ⟨RB, 5, none⟩ = some (.int .i64 0) := by rw [cell_of_row wo RB 5 _ _ _ hyw]; rfl
      have zcf5 : wo.frozen? ⟨RB, 5, none⟩ = false := frozen_of_row wo RB 5 _ _ hyw
      have zc6 : wo.cell? ⟨RB, 6, none⟩ = some (.slice none 0 0) := by rw [cell_of_row wo RB 6 _ _ _ hyw]; rfl
      have zcf6 : wo.frozen? ⟨RB, 6, none⟩ = false := frozen_of_row wo RB 6 _ _ hyw
      have zc7 : wo.cell? ⟨RB, 7, none⟩ = some (.slice none 0 0) := by rw [cell_of_row wo RB 7 _ _ _ hyw]; rfl
      have zcf7 : wo.frozen? ⟨RB, 7, none⟩ = false := frozen_of_row wo RB 7 _ _ hyw
      clear hyw how htk hlt hcp hfp
      go_wp2_with fail
      refine bodyPost_ret (results_cell_row rfl _ _ RB _ _ (0, 0) _ rfl (eight_heap HYW.out) Try.underlying31 rfl infoPred8) rfl ?_
      have hst : ∀ i u (wx : World), Agree (fun b => b = RB) wo wx → Agree (fun b => b = RB) wo (wx.setCell ⟨RB, i, none⟩ u) := fun i u wx h => h.set ⟨RB, i, none⟩ u (.inl rfl)
      have hag8 := hst 7 (.slice vo q vc) _ (hst 6 (.slice none 0 0) _ (hst 5 (.int .i64 0) _ (hst 4 (.int .i64 0) _ (hst 3 (.bool false) _ (hst 2 (.int .i64 0) _ (hst 1 (.int .i64 0) _ (hst 0 (.int .i64 5) _ (Agree.refl _ wo))))))))
      obtain ⟨e1, e2, e3⟩ := HPR.out
      refine ⟨_, rfl, fun w'' hb0 ha => ?_, ?_⟩
      · rw [← HPE.out] at ha
        have hax : AboveX PB (fun b => b = RB ∨ b = OB ∨ (Value.slice vo q vc).ownBlock = some b) wo w'' := fun b h1 h2 h3 => (ha b h1 (Nat.lt_of_lt_of_le h2 hag8.size)).trans (hag8.block b h2 fun h => h3 (.inl h))
        have hab : Above (OB + 1) wo w'' := fun b h1 h2 => (ha b (by omega) (Nat.lt_of_lt_of_le h2 hag8.size)).trans (hag8.block b h2 fun h => by omega)
        have hE := HE2.out w'' hb0 hax
        have hE0 := HE2.out wo HB0W.out (fun b _ _ _ => rfl)
        unfold RdT1
        exact ⟨.slice none 0 0, .slice vo q vc, css, rfl, ⟨Rd.nil _, fun x h => by cases h⟩, ((rdSK_own HO.out HCL.out.symm (fun t ht => (rdTs_ones hE0 t ht).1)).above hab (Nat.le_refl _)).rd, hE⟩
      · rw [← HPE.out]
        exact HBW.out.trans (hag8.below (fun i hi h => by omega) (by have := HZ.out; omega))

set_option maxRecDepth 100000 in
set_option maxHeartbeats 16000000 in
theorem inw_l5t (c o : Int) (v : Vc) (l : List Pt) (hl : ∀ q ∈ l, InwOK q) (hll : l.length ≤ 1000) (cs : List Value) (w0 w : World) (hr : RdT1 w0 (.mk 5 c o v l) cs) (hb : Below w0.heap.size w0 w) (hsz0 : w0.heap.size ≤ w.heap.size) :
    Calls Try.prog 70 #[.agg cs.toArray, .bool true] w fun e w' => ∃ cs' : List Value, e = .returned (.agg cs'.toArray) ∧ (∀ w'', Below w0.heap.size w0 w'' → Above w.heap.size w' w'' → RdT1 w'' (.mk 4 0 0 zeroV (l.map fun q => inwT q true)) cs') ∧ Below w.heap.size w w' := by
  have HBw := Lib.hid hb
  have HSZ := Lib.hid hsz0
  unfold RdT1 at hr
  obtain ⟨s, ls, css0, rfl, hok, hls, hts⟩ := hr
  obtain ⟨sa, sc, hes⟩ := rd_shape8 hok.1
  obtain ⟨ea, ec, hel⟩ := rdS_shape hls
  simp only at hes
  subst hes hel
  have hcl := rdTs_len hts
  obtain ⟨n, hN⟩ : ∃ n, n = l.length := ⟨_, rfl⟩
  obtain ⟨vu, vk, vn, vb⟩ := v
  obtain ⟨m, hm⟩ : ∃ m, m = vb.length := ⟨_, rfl⟩
  unfold cellsP
  simp only
  rw [hcl, ← hN] at hls ⊢
  rw [← hm]
  rw [← hN] at hll
  have HN := Lib.hid hN
  have HLS := Lib.hid hls
  have HTS := Lib.hid hts
  have HL := Lib.hid hl
  clear hok hls hts hm hcl hb hsz0 hN hl
  go_enter Try.func70, Try.ntmps70
  go_upto_region 19 with (fail)
  go_wp2_with fail
  obtain ⟨W, hW⟩ : ∃ W : World, W = ((w.alloc (.cells #[.int .i64 5, .int .i64 c, .int .i64 o, .bool vu, .int .i64 vk, .int .i64 vn, .slice sa m sc, .slice ea n ec] 31)).alloc (.cells #[.int .i64 0, .int .i64 0, .int .i64 0, .bool false, .int .i64 0, .int .i64 0, .slice none 0 0, .slice none 0 0] 31)).alloc (.cells #[.int .i64 4, .int .i64 0, .int .i64 0, .bool false, .int .i64 0, .int .i64 0, .slice none 0 0, .slice none 0 0] 31) := ⟨_, rfl⟩
  rw [← hW]
  have HX0 := Lib.hid (show W.heap[w.heap.size]? = some (.cells #[.int .i64 5, .int .i64 c, .int .i64 o, .bool vu, .int .i64 vk, .int .i64 vn, .slice sa m sc, .slice ea n ec] 31 (0, 0)) by rw [hW]; exact (heap_alloc_old _ _ (by simp; try omega)).trans ((heap_alloc_old _ _ (by simp)).trans (heap_alloc_new w _)))
  have HY0 := Lib.hid (show W.heap[w.heap.size + 1]? = some (.cells #[.int .i64 0, .int .i64 0, .int .i64 0, .bool false, .int .i64 0, .int .i64 0, .slice none 0 0, .slice none 0 0] 31 (0, 0)) by rw [hW]; exact (heaps3 w _ _ _).1)
  have HO0 := Lib.hid (show W.heap[w.heap.size + 2]? = some (.cells #[.int .i64 4, .int .i64 0, .int .i64 0, .bool false, .int .i64 0, .int .i64 0, .slice none 0 0, .slice none 0 0] 31 (0, 0)) by rw [hW]; exact (heaps3 w _ _ _).2)
  have HB0 := Lib.hid (show Below w.heap.size w W by rw [hW]; exact below3 w _ _ _)
  have HWS := Lib.hid (show W.heap.size = w.heap.size + 3 by rw [hW]; simp)
  obtain ⟨PB, hPB⟩ : ∃ PB, PB = w.heap.size := ⟨_, rfl⟩
  rw [← hPB] at HX0 HY0 HO0 HWS ⊢
  obtain ⟨RB, hRB⟩ : ∃ RB, RB = PB + 1 := ⟨_, rfl⟩
  rw [← hRB] at HY0 ⊢
  obtain ⟨OB, hOB⟩ : ∃ OB, OB = RB + 1 := ⟨_, rfl⟩
  rw [show PB + 2 = OB by omega] at HO0
  rw [← hOB]
  have HPE := Lib.hid hPB
  have HPR := Lib.hid (show RB = PB + 1 ∧ OB = PB + 2 ∧ W.heap.size = OB + 1 by have := HWS.out; omega)
  clear hW hPB hRB hOB
  go_loopw [6] (fun i wr => ∃ (q : Nat) (vo : Option Addr) (vc : Nat) (css : List (List Value)), q ≤ n ∧ i = .int .i64 (q : Int) ∧ wr.heap[PB]? = some (.cells #[.int .i64 5, .int .i64 c, .int .i64 o, .bool vu, .int .i64 vk, .int .i64 vn, .slice sa m sc, .slice ea n ec] 31 (0, 0)) ∧ wr.heap[RB]? = some (.cells #[.int .i64 0, .int .i64 0, .int .i64 0, .bool false, .int .i64 0, .int .i64 0, .slice none 0 0, .slice none 0 0] 31 (0, 0)) ∧ wr.heap[OB]? = some (.cells #[.int .i64 4, .int .i64 0, .int .i64 0, .bool false, .int .i64 0, .int .i64 0, .slice none 0 0, .slice vo q vc] 31 (0, 0)) ∧ css.length = q ∧ wr.ownsRow (OB + 1) 31 8 (.slice vo q vc) q css.flatten ∧ (∀ w'', Below w0.heap.size w0 w'' → AboveX PB (fun b => b = RB ∨ b = OB ∨ (Value.slice vo q vc).ownBlock = some b) wr w'' → RdTs w'' ((l.take q).map fun p => inwT p true) css) ∧ OB + 1 ≤ wr.heap.size ∧ Below PB w wr) (fun i _ => n - (intOf i).toNat)
  case atStart => exact ⟨0, none, 0, [], Nat.zero_le _, rfl, HX0.out, HY0.out, HO0.out, rfl, World.ownsRow_nil .., fun w' _ _ => by simp [RdTs], by have := HPR.out; omega, by have h := HB0.out; rw [← HPE.out] at h; exact h⟩
  case round =>
    obtain ⟨q, vo, vc, css, hq, rfl, hx, hy, ho, hclen, hown, hel, hsz, hbel⟩ := hrel
    obtain ⟨wo, rfl⟩ : ∃ wo : World, wo = wr := ⟨_, rfl⟩
    have HXW := Lib.hid hx
    have HYW := Lib.hid hy
    have HOW := Lib.hid ho
    have HCL := Lib.hid hclen
    have HO := Lib.hid hown
    have HE := Lib.hid hel
    have HZ := Lib.hid hsz
    have HBW := Lib.hid hbel
    have HB0W := Lib.hid (show Below w0.heap.size w0 wo from HBw.out.trans (hbel.mono (by have := HSZ.out; have := HPE.out; omega)))
    have hcp : wo.cell? ⟨OB, 7, none⟩ = some (.slice vo q vc) := by rw [cell_of_row wo _ 7 _ _ _ ho]; rfl
    have hfp : wo.frozen? ⟨OB, 7, none⟩ = false := frozen_of_row wo _ 7 _ _ ho
    have hpp : wo.cell? ⟨PB, 7, none⟩ = some (.slice ea n ec) := by rw [cell_of_row wo _ 7 _ _ _ hx]; rfl
    clear hown hel hbel hsz hx hy ho hclen
    by_cases hlt : q < n
    · have hlti : (q : Int) < (n : Int) := by omega
      have hltb : decide ((q : Int) < (n : Int)) = true := by rw [decide_eq_true_eq]; omega
      have hq0 : (0 : Int) ≤ (q : Int) := by omega
      obtain ⟨p, hp⟩ : ∃ p, l[q]? = some p := ⟨_, List.getElem?_eq_getElem (by rw [← HN.out]; exact hlt)⟩
      have HTK := Lib.hid (show l.take (q + 1) = l.take q ++ [p] by rw [List.take_add_one, hp]; rfl)
      have HIN := Lib.hid (HL.out p (List.mem_of_getElem? hp))
      obtain ⟨pcs, hpcs, hrd⟩ := rdTs_at HTS.out hp
      have HRD := Lib.hid hrd
      have hat := (HLS.out.kept HB0W.out).at hpcs
      obtain ⟨pk, pc, po, pvk, pvn, pu, pa, pn, pm, pa2, pn2, pm2, rfl⟩ := rdT1_shape hrd
      obtain ⟨b1, f1, rfl, hcell⟩ := hat
      have m0 : wo.cell? ⟨b1, f1 + q * 8, none⟩ = some (.int .i64 pk) := hcell 0 _ rfl
      have m1 : wo.cell? ⟨b1, f1 + q * 8 + 1, none⟩ = some (.int .i64 pc) := hcell 1 _ rfl
      have m2 : wo.cell? ⟨b1, f1 + q * 8 + 2, none⟩ = some (.int .i64 po) := hcell 2 _ rfl
      have m3 : wo.cell? ⟨b1, f1 + q * 8 + 3, none⟩ = some (.bool pu) := hcell 3 _ rfl
      have m4 : wo.cell? ⟨b1, f1 + q * 8 + 4, none⟩ = some (.int .i64 pvk) := hcell 4 _ rfl
      have m5 : wo.cell? ⟨b1, f1 + q * 8 + 5, none⟩ = some (.int .i64 pvn) := hcell 5 _ rfl
      have m6 : wo.cell? ⟨b1, f1 + q * 8 + 6, none⟩ = some (.slice pa pn pm) := hcell 6 _ rfl
      have m7 : wo.cell? ⟨b1, f1 + q * 8 + 7, none⟩ = some (.slice pa2 pn2 pm2) := hcell 7 _ rfl
      have HCALL := Lib.hid (show ∀ W', Below wo.heap.size wo W' → Calls Try.prog 70 #[.agg #[.int .i64 pk, .int .i64 pc, .int .i64 po, .bool pu, .int .i64 pvk, .int .i64 pvn, .slice pa pn pm, .slice pa2 pn2 pm2], .bool true] W' fun e w' => ∃ cs' : List Value, e = .returned (.agg cs'.toArray) ∧ (∀ w'', Below w0.heap.size w0 w'' → Above W'.heap.size w' w'' → RdT1 w'' (inwT p true) cs') ∧ Below W'.heap.size W' w' from fun W' h => HIN.out true _ w0 W' HRD.out (HB0W.out.trans (h.mono HB0W.out.size)) (Nat.le_trans HB0W.out.size h.size))
      have HOF := Lib.hid (show ∀ i, i < OB + 1 → (Value.slice vo q vc).ownBlock ≠ some i from fun i h e => by have := own_base HO.out i e; omega)
      have HOL := Lib.hid (own_lt HO.out)
      clear hp hpcs hrd hcell
      go_upto_region 22 with (fail)
      go_region_law
        (first
         | (go_simp; go_at_call 70; refine (HCALL.out _ ?_).mono ?_; (exact below_drw _ _); rintro e w2 ⟨cs', rfl, hres, hb2⟩; have HRES : Hid (∀ w'', Below w0.heap.size w0 w'' → Above wo.heap.size w2 w'' → RdT1 w'' (inwT p true) cs') := Lib.hid hres; have HB2 := Lib.hid (show Below wo.heap.size wo w2 from (below_drw _ wo).trans hb2); have hrr := hres w2 (HB0W.out.trans (HB2.out.mono HB0W.out.size)) (Above.refl _ _); obtain ⟨rk, rc, ro, rvk, rvn, ru, ra, rn, rm, ra2, rn2, rm2, rfl⟩ := rdT1_shape hrr; have dp2 : w2.cell? ⟨OB, 7, none⟩ = some (.slice vo q vc) := (HB2.out.cell (World.block_lt_of_cell? _ _ hcp)).trans hcp; have dp3 := fun o => Lib.cell?_alloc_some (W := w2) o dp2; clear hres hrr hb2)
         | (refine step_append_k elmPred (by rfl) _ _ (by rfl) (OB + 1) (.slice vo q vc) q css.flatten (by rfl) ((own_kept HO.out HB2.out).alloc _) _ [[.int .i64 rk, .int .i64 rc, .int .i64 ro, .bool ru, .int .i64 rvk, .int .i64 rvn, .slice ra rn rm, .slice ra2 rn2 rm2]] (by rfl) (rdS_lit w2 _ _ 8 rfl) (fun t ht => by rw [List.mem_singleton.1 ht]; exact ⟨rfl, by simp [Value.oneCell']⟩) (by simp; omega) (by have h1 := HB2.out.size; have h2 := HZ.out; simp; omega) (q + 1) rfl ?_; intro ao4 cap4 w4 hown4 hgrow4 hnew4; have HO4 := Lib.hid hown4; have HG4 : Hid (World.grownBy _ w4 (Value.slice vo q vc).ownBlock) := Lib.hid hgrow4; have HN4 : Hid (∀ g, (Value.slice ao4 (q + 1) cap4).ownBlock = some g → (Value.slice vo q vc).ownBlock = some g ∨ g = _) := Lib.hid hnew4; have hp4 : w4.heap[OB]? = some (.cells #[.int .i64 4, .int .i64 0, .int .i64 0, .bool false, .int .i64 0, .int .i64 0, .slice none 0 0, .slice vo q vc] 31 (0, 0)) := (HG4.out.block OB (by have h1 := HB2.out.size; have h2 := HZ.out; simp; omega) (fun e => HOF.out OB (by omega) e.symm)).trans ((heap_alloc_old w2 _ (by have h1 := HB2.out.size; have h2 := HZ.out; omega)).trans ((HB2.out.block OB (by have h2 := HZ.out; omega)).trans HOW.out)); have HP4 := Lib.hid hp4; have hc4 : w4.cell? ⟨OB, 7, none⟩ = some (.slice vo q vc) := (by rw [cell_of_row w4 OB 7 _ _ _ hp4]; rfl); have hf4 : w4.frozen? ⟨OB, 7, none⟩ = false := frozen_of_row w4 _ 7 _ _ hp4; clear hown4 hgrow4 hnew4 hp4))
      all_goals
        go_wp2_with fail
        go_roundw
        case rel =>
          have hz := HZ.out
          obtain ⟨e1, e2, e3⟩ := HPR.out
          have hs2 := HB2.out.size
          have hsa : (w2.alloc (.cells #[.int .i64 rk, .int .i64 rc, .int .i64 ro, .bool ru, .int .i64 rvk, .int .i64 rvn, .slice ra rn rm, .slice ra2 rn2 rm2] 31)).heap.size = w2.heap.size + 1 := by simp
          have hs4 := HG4.out.size
          rw [hsa] at hs4
          have hss : (w4.setCell ⟨OB, 7, none⟩ (.slice ao4 (q + 1) cap4)).heap.size = w4.heap.size := by simp [World.setCell]
          have hnb : ∀ b, (Value.slice ao4 (q + 1) cap4).ownBlock = some b → (Value.slice vo q vc).ownBlock = some b ∨ b = w2.heap.size + 1 := fun b h => (HN4.out b h).imp id fun h => by rw [h]; exact hsa
          have hnp : ∀ b, (Value.slice ao4 (q + 1) cap4).ownBlock = some b → OB + 1 ≤ b := fun b h => own_base HO4.out b h
          have hol := HOL.out
          have same : ∀ b, b < w2.heap.size → b ≠ OB → (Value.slice vo q vc).ownBlock ≠ some b → (w4.setCell ⟨OB, 7, none⟩ (.slice ao4 (q + 1) cap4)).heap[b]? = w2.heap[b]? := fun b h1 h2 h3 =>
            (heap_setCell_other w4 ⟨OB, 7, none⟩ b _ h2).trans ((HG4.out.block b (by rw [hsa]; omega) (fun e => h3 e.symm)).trans (heap_alloc_old w2 _ h1))
          refine ⟨q + 1, ao4, cap4, css ++ [[.int .i64 rk, .int .i64 rc, .int .i64 ro, .bool ru, .int .i64 rvk, .int .i64 rvn, .slice ra rn rm, .slice ra2 rn2 rm2]], by omega, by go_num, ?_, ?_, ?_, ?_, ?_, ?_, ?_, ?_⟩
          · exact (same PB (by omega) (by omega) (HOF.out PB (by omega))).trans ((HB2.out.block PB (by omega)).trans HXW.out)
          · exact (same RB (by omega) (by omega) (HOF.out RB (by omega))).trans ((HB2.out.block RB (by omega)).trans HYW.out)
          · exact heap_setCell_same w4 _ 7 _ _ _ HP4.out
          · rw [List.length_append, HCL.out]; rfl
          · have h1 := ownsRow_agree HO4.out (agree_set (fun b => b = OB) w4 ⟨OB, 7, none⟩ (.slice ao4 (q + 1) cap4) rfl) (fun b hb h => by have := hnp b hb; omega)
            rw [List.flatten_append]
            exact h1
          · rw [HTK.out, List.map_append]
            intro w' hb0 ha
            refine rdTs_snoc (HRES.out w' hb0 fun b h1 h2 => ?_) (HE.out w' hb0 fun b h1 h2 h3 => ?_)
            · have hne : ¬ (b = RB ∨ b = OB ∨ (Value.slice ao4 (q + 1) cap4).ownBlock = some b) := fun h => by
                rcases h with h | h | h
                · omega
                · omega
                · rcases hnb b h with h | h
                  · have := hol b h; omega
                  · omega
              exact (ha b (by omega) (by rw [hss]; omega) hne).trans (same b h2 (by omega) (fun h => by have := hol b h; omega))
            · have hne : ¬ (b = RB ∨ b = OB ∨ (Value.slice ao4 (q + 1) cap4).ownBlock = some b) := fun h => by
                rcases h with h | h | h
                · exact h3 (.inl h)
                · exact h3 (.inr (.inl h))
                · rcases hnb b h with h | h
                  · exact h3 (.inr (.inr h))
                  · omega
              exact (ha b h1 (by rw [hss]; omega) hne).trans ((same b (by omega) (fun h => h3 (.inr (.inl h))) (fun h => h3 (.inr (.inr h)))).trans (HB2.out.block b h2))
          · rw [hss]; omega
          · have hb4 := ((HBW.out.trans (HB2.out.mono (by omega))).alloc (by omega) (.cells #[.int .i64 rk, .int .i64 rc, .int .i64 ro, .bool ru, .int .i64 rvk, .int .i64 rvn, .slice ra rn rm, .slice ra2 rn2 rm2] 31)).grown HG4.out (by rw [hsa]; omega) (fun k e => by have := own_base HO.out k e; omega)
            exact hb4.setCell (p := ⟨OB, 7, none⟩) (by show PB ≤ OB; omega) _
        case measure => simp [intOf]; omega
    · have hlti : ¬ (q : Int) < (n : Int) := by omega
      have hltb : decide ((q : Int) < (n : Int)) = false := by rw [decide_eq_false_iff_not]; omega
      have htk : l.take q = l := List.take_of_length_le (by rw [← HN.out]; omega)
      have HE2 := Lib.hid (show ∀ w'', Below w0.heap.size w0 w'' → AboveX PB (fun b => b = RB ∨ b = OB ∨ (Value.slice vo q vc).ownBlock = some b) wo w'' → RdTs w'' (l.map fun p => inwT p true) css by have h := HE.out; rw [htk] at h; exact h)
      have hyw := HYW.out
      have how := HOW.out
      have pc0 : wo.cell? ⟨OB, 0, none⟩ = some (.int .i64 4) := by rw [cell_of_row wo OB 0 _ _ _ how]; rfl
      have pcf0 : wo.frozen? ⟨OB, 0, none⟩ = false := frozen_of_row wo OB 0 _ _ how
      have pc1 : wo.cell? ⟨OB, 1, none⟩ = some (.int .i64 0) := by rw [cell_of_row wo OB 1 _ _ _ how]; rfl
      have pcf1 : wo.frozen? ⟨OB, 1, none⟩ = false := frozen_of_row wo OB 1 _ _ how
      have pc2 : wo.cell? ⟨OB, 2, none⟩ = some (.int .i64 0) := by rw [cell_of_row wo OB 2 _ _ _ how]; rfl
      have pcf2 : wo.frozen? ⟨OB, 2, none⟩ = false := frozen_of_row wo OB 2 _ _ how
      have pc3 : wo.cell? ⟨OB, 3, none⟩ = some (.bool false) := by rw [cell_of_row wo OB 3 _ _ _ how]; rfl
      have pcf3 : wo.frozen? ⟨OB, 3, none⟩ = false := frozen_of_row wo OB 3 _ _ how
      have pc4 : wo.cell? ⟨OB, 4, none⟩ = some (.int .i64 0) := by rw [cell_of_row wo OB 4 _ _ _ how]; rfl
      have pcf4 : wo.frozen? ⟨OB, 4, none⟩ = false := frozen_of_row wo OB 4 _ _ how
      have pc5 : wo.cell? ⟨OB, 5, none⟩ = some (.int .i64 0) := by rw [cell_of_row wo OB 5 _ _ _ how]; rfl
      have pcf5 : wo.frozen? ⟨OB, 5, none⟩ = false := frozen_of_row wo OB 5 _ _ how
      have pc6 : wo.cell? ⟨OB, 6, none⟩ = some (.slice none 0 0) := by rw [cell_of_row wo OB 6 _ _ _ how]; rfl
      have pcf6 : wo.frozen? ⟨OB, 6, none⟩ = false := frozen_of_row wo OB 6 _ _ how
      have pc7 : wo.cell? ⟨OB, 7, none⟩ = some (.slice vo q vc) := by rw [cell_of_row wo OB 7 _ _ _ how]; rfl
      have pcf7 : wo.frozen? ⟨OB, 7, none⟩ = false := frozen_of_row wo OB 7 _ _ how
      have zc0 : wo.cell? ⟨RB, 0, none⟩ = some (.int .i64 0) := by rw [cell_of_row wo RB 0 _ _ _ hyw]; rfl
      have zcf0 : wo.frozen? ⟨RB, 0, none⟩ = false := frozen_of_row wo RB 0 _ _ hyw
      have zc1 : wo.cell? ⟨RB, 1, none⟩ = some (.int .i64 0) := by rw [cell_of_row wo RB 1 _ _ _ hyw]; rfl
      have zcf1 : wo.frozen? ⟨RB, 1, none⟩ = false := frozen_of_row wo RB 1 _ _ hyw
      have zc2 : wo.cell? ⟨RB, 2, none⟩ = some (.int .i64 0) := by rw [cell_of_row wo RB 2 _ _ _ hyw]; rfl
      have zcf2 : wo.frozen? ⟨RB, 2, none⟩ = false := frozen_of_row wo RB 2 _ _ hyw
      have zc3 : wo.cell? ⟨RB, 3, none⟩ = some (.bool false) := by rw [cell_of_row wo RB 3 _ _ _ hyw]; rfl
      have zcf3 : wo.frozen? ⟨RB, 3, none⟩ = false := frozen_of_row wo RB 3 _ _ hyw
      have zc4 : wo.cell? ⟨RB, 4, none⟩ = some (.int .i64 0) := by rw [cell_of_row wo RB 4 _ _ _ hyw]; rfl
      have zcf4 : wo.frozen? ⟨RB, 4, none⟩ = false := frozen_of_row wo RB 4 _ _ hyw
      have zc5 : wo.cell? ⟨RB, 5, none⟩ = some (.int .i64 0) := by rw [cell_of_row wo RB 5 _ _ _ hyw]; rfl
      have zcf5 : wo.frozen? ⟨RB, 5, none⟩ = false := frozen_of_row wo RB 5 _ _ hyw
      have zc6 : wo.cell? ⟨RB, 6, none⟩ = some (.slice none 0 0) := by rw [cell_of_row wo RB 6 _ _ _ hyw]; rfl
      have zcf6 : wo.frozen? ⟨RB, 6, none⟩ = false := frozen_of_row wo RB 6 _ _ hyw
      have zc7 : wo.cell? ⟨RB, 7, none⟩ = some (.slice none 0 0) := by rw [cell_of_row wo RB 7 _ _ _ hyw]; rfl
      have zcf7 : wo.frozen? ⟨RB, 7, none⟩ = false := frozen_of_row wo RB 7 _ _ hyw
      clear hyw how htk hlt hcp hfp
      go_wp2_with fail
      refine bodyPost_ret (results_cell_row rfl _ _ RB _ _ (0, 0) _ rfl (eight_heap HYW.out) Try.underlying31 rfl infoPred8) rfl ?_
      have hst : ∀ i u (wx : World), Agree (fun b => b = RB) wo wx → Agree (fun b => b = RB) wo (wx.setCell ⟨RB, i, none⟩ u) := fun i u wx h => h.set ⟨RB, i, none⟩ u (.inl rfl)
      have hag8 := hst 7 (.slice vo q vc) _ (hst 6 (.slice none 0 0) _ (hst 5 (.int .i64 0) _ (hst 4 (.int .i64 0) _ (hst 3 (.bool false) _ (hst 2 (.int .i64 0) _ (hst 1 (.int .i64 0) _ (hst 0 (.int .i64 4) _ (Agree.refl _ wo))))))))
      obtain ⟨e1, e2, e3⟩ := HPR.out
      refine ⟨_, rfl, fun w'' hb0 ha => ?_, ?_⟩
      · rw [← HPE.out] at ha
        have hax : AboveX PB (fun b => b = RB ∨ b = OB ∨ (Value.slice vo q vc).ownBlock = some b) wo w'' := fun b h1 h2 h3 => (ha b h1 (Nat.lt_of_lt_of_le h2 hag8.size)).trans (hag8.block b h2 fun h => h3 (.inl h))
        have hab : Above (OB + 1) wo w'' := fun b h1 h2 => (ha b (by omega) (Nat.lt_of_lt_of_le h2 hag8.size)).trans (hag8.block b h2 fun h => by omega)
        have hE := HE2.out w'' hb0 hax
        have hE0 := HE2.out wo HB0W.out (fun b _ _ _ => rfl)
        unfold RdT1
        exact ⟨.slice none 0 0, .slice vo q vc, css, rfl, ⟨Rd.nil _, fun x h => by cases h⟩, ((rdSK_own HO.out HCL.out.symm (fun t ht => (rdTs_ones hE0 t ht).1)).above hab (Nat.le_refl _)).rd, hE⟩
      · rw [← HPE.out]
        exact HBW.out.trans (hag8.below (fun i hi h => by omega) (by have := HZ.out; omega))

theorem inw_list (k c o : Int) (v : Vc) (l : List Pt) (hk : k = 4 ∨ k = 5) (hl : ∀ q ∈ l, InwOK q) (hll : l.length ≤ 1000) : InwOK (.mk k c o v l) := by
  intro nt cs w0 w hr hb hsz
  rw [inwT_list k c o v l nt hk]
  rcases hk with rfl | rfl <;> cases nt
  · exact inw_l4f c o v l hl hll cs w0 w hr hb hsz
  · exact inw_l4t c o v l hl hll cs w0 w hr hb hsz
  · exact inw_l5f c o v l hl hll cs w0 w hr hb hsz
  · exact inw_l5t c o v l hl hll cs w0 w hr hb hsz

end Go.Proofs.Ytfmkalnnpddefaa
