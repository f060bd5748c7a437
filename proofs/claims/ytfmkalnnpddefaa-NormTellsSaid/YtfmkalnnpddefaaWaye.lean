/-
  Contract of the reference's Norm.
-/
import Derived.Test.YtfmkalnnpddefaaWayd
import Derived.Deep.RegionLaw
namespace Go.Proofs.Ytfmkalnnpddefaa
set_option linter.unusedVariables false
set_option linter.unusedSimpArgs false
open Go.RowKit


/-- A predicate, and whether there is one. -/
def RetQ (r : Option Pt) (e : Ending) (w' : World) : Prop := match r with
  | none => e = .returned (.tuple #[.agg #[.int .i64 0, .int .i64 0, .int .i64 0, .bool false, .int .i64 0, .int .i64 0, .slice none 0 0, .slice none 0 0], .bool false])
  | some q => ∃ cs' : List Value, e = .returned (.tuple #[.agg cs'.toArray, .bool true]) ∧ RdT1 w' q cs'

set_option maxRecDepth 100000 in
set_option maxHeartbeats 16000000 in
theorem refNorm_any (p : Pt) (hg : goodP p) (cs : List Value) (w : World) (hr : RdT1 w p cs) :
    Calls Try.prog 28 #[.agg cs.toArray] w fun e w' => RetQ (normT p) e w' ∧ Below w.heap.size w w' := by
  have HRD := Lib.hid hr
  obtain ⟨r, hrr⟩ : ∃ r, r = nrm p false := ⟨_, rfl⟩
  have HT := Lib.hid (show normT p = r.map fun a => .mk 5 0 0 zeroV (a.map fun x => .mk 4 0 0 zeroV x) by rw [hrr]; rfl)
  have HSMALL := Lib.hid (show ∀ a, r = some a → SmallN a from fun a ha => nrm_small p false (hrr ▸ ha))
  have HIN := Lib.hid (good_inw p hg)
  have HWY := Lib.hid (ways_any (inwT p false) (inw_short p false hg))
  have HEQ := Lib.hid (show waysT (inwT p false) = r by rw [hrr]; exact ways_inw p false (good_kinds p hg))
  have hrd := hr
  obtain ⟨pk, pc, po, pvk, pvn, pu, pa, pn, pm, pa2, pn2, pm2, rfl⟩ := rdT1_shape hrd
  clear hr hrr hg hrd
  go_enter Try.func28, Try.ntmps28
  go_wp2_with fail
  obtain ⟨W, hW⟩ : ∃ W : World, W = (w.alloc (.cells #[.int .i64 pk, .int .i64 pc, .int .i64 po, .bool pu, .int .i64 pvk, .int .i64 pvn, .slice pa pn pm, .slice pa2 pn2 pm2] 31)).alloc (.cells #[.int .i64 0, .int .i64 0, .int .i64 0, .bool false, .int .i64 0, .int .i64 0, .slice none 0 0, .slice none 0 0] 31) := ⟨_, rfl⟩
  have hsz : W.heap.size = w.heap.size + 2 := by rw [hW]; simp
  have hb0 : Below w.heap.size w W := by rw [hW]; exact below2 w _ _
  have hrb : W.heap[w.heap.size + 1]? = some (.cells #[.int .i64 0, .int .i64 0, .int .i64 0, .bool false, .int .i64 0, .int .i64 0, .slice none 0 0, .slice none 0 0] 31 (0, 0)) := by rw [hW]; exact heap2 w _ _
  have HC1 := Lib.hid (HIN.out false _ w W HRD.out hb0 (by omega))
  rw [← hW]
  obtain ⟨RB, hRB⟩ : ∃ RB, RB = w.heap.size + 1 := ⟨_, rfl⟩
  rw [← hRB] at hrb ⊢
  have HRB := Lib.hid hRB
  have HSZ := Lib.hid hsz
  have HB0 := Lib.hid hb0
  have HX0 := Lib.hid hrb
  clear hW hsz hb0 hrb hRB
  refine HC1.out.mono ?_
  rintro e W2 ⟨cs', rfl, hres, hb2⟩
  have hBW2 : Below w.heap.size w W2 := below_then HB0.out hb2
  have hf : RdT1F (fun b => w.heap.size ≤ b ∧ b < W.heap.size) W2 (inwT p false) cs' := rdT1F_all _ W2 _ fun w'' ha =>
    hres w'' (hBW2.trans (ha.below (fun i hi h => by omega) hBW2.size)) (agree_above ha (fun i h => h.2))
  have HC2 := Lib.hid (HWY.out cs' _ W2 hf)
  rw [HEQ.out] at HC2
  have hrx := hf.now
  obtain ⟨rk, rc, ro, rvk, rvn, ru, ra, rn, rm, ra2, rn2, rm2, rfl⟩ := rdT1_shape hrx
  have HB2 := Lib.hid hBW2
  have HX2 := Lib.hid ((hb2.block RB (Array.getElem?_eq_some_iff.1 HX0.out).1).trans HX0.out)
  have HS2 := Lib.hid (show W.heap.size ≤ W2.heap.size from hb2.size)
  clear hres hb2 hBW2 hf hrx
  go_wp2_with fail
  refine HC2.out.mono ?_
  rintro e W3 ⟨hret, hb3⟩
  have HB3 := Lib.hid (below_then HB2.out hb3)
  have HX3 := Lib.hid ((hb3.block RB (Array.getElem?_eq_some_iff.1 HX2.out).1).trans HX2.out)
  have HS3 := Lib.hid (show W2.heap.size ≤ W3.heap.size from hb3.size)
  clear hb3
  cases r with
  | none =>
    obtain rfl : e = .returned (.tuple #[.slice none 0 0, .bool false]) := hret
    have hrb := HX3.out
    have zc0 : W3.cell? ⟨RB, 0, none⟩ = some (.int .i64 0) := by rw [cell_of_row W3 RB 0 _ _ _ hrb]; rfl
    have zcf0 : W3.frozen? ⟨RB, 0, none⟩ = false := frozen_of_row W3 RB 0 _ _ hrb
    have zc1 : W3.cell? ⟨RB, 1, none⟩ = some (.int .i64 0) := by rw [cell_of_row W3 RB 1 _ _ _ hrb]; rfl
    have zcf1 : W3.frozen? ⟨RB, 1, none⟩ = false := frozen_of_row W3 RB 1 _ _ hrb
    have zc2 : W3.cell? ⟨RB, 2, none⟩ = some (.int .i64 0) := by rw [cell_of_row W3 RB 2 _ _ _ hrb]; rfl
    have zcf2 : W3.frozen? ⟨RB, 2, none⟩ = false := frozen_of_row W3 RB 2 _ _ hrb
    have zc3 : W3.cell? ⟨RB, 3, none⟩ = some (.bool false) := by rw [cell_of_row W3 RB 3 _ _ _ hrb]; rfl
    have zcf3 : W3.frozen? ⟨RB, 3, none⟩ = false := frozen_of_row W3 RB 3 _ _ hrb
    have zc4 : W3.cell? ⟨RB, 4, none⟩ = some (.int .i64 0) := by rw [cell_of_row W3 RB 4 _ _ _ hrb]; rfl
    have zcf4 : W3.frozen? ⟨RB, 4, none⟩ = false := frozen_of_row W3 RB 4 _ _ hrb
    have zc5 : W3.cell? ⟨RB, 5, none⟩ = some (.int .i64 0) := by rw [cell_of_row W3 RB 5 _ _ _ hrb]; rfl
    have zcf5 : W3.frozen? ⟨RB, 5, none⟩ = false := frozen_of_row W3 RB 5 _ _ hrb
    have zc6 : W3.cell? ⟨RB, 6, none⟩ = some (.slice none 0 0) := by rw [cell_of_row W3 RB 6 _ _ _ hrb]; rfl
    have zcf6 : W3.frozen? ⟨RB, 6, none⟩ = false := frozen_of_row W3 RB 6 _ _ hrb
    have zc7 : W3.cell? ⟨RB, 7, none⟩ = some (.slice none 0 0) := by rw [cell_of_row W3 RB 7 _ _ _ hrb]; rfl
    have zcf7 : W3.frozen? ⟨RB, 7, none⟩ = false := frozen_of_row W3 RB 7 _ _ hrb
    clear hrb
    go_wp2_with fail
    refine bodyPost_ret (results_cell_tmp rfl _ _ RB _ _ (0, 0) _ _ rfl rfl (eight_heap HX3.out) Try.underlying31 rfl infoPred8) rfl ?_
    have hgs : ∀ i u (wx : World), Below w.heap.size w wx → Below w.heap.size w (wx.setCell ⟨RB, i, none⟩ u) := fun i u wx h => h.setCell (p := ⟨RB, i, none⟩) (by show _ ≤ RB; rw [HRB.out]; omega) _
    exact ⟨by rw [HT.out]; exact rfl, hgs 7 (.slice none 0 0) _ (hgs 6 (.slice none 0 0) _ (hgs 5 (.int .i64 0) _ (hgs 4 (.int .i64 0) _ (hgs 3 (.bool false) _ (hgs 2 (.int .i64 0) _ (hgs 1 (.int .i64 0) _ (hgs 0 (.int .i64 0) _ (HB3.out))))))))⟩
  | some a =>
    obtain ⟨v2, rfl, hv2⟩ : ∃ v, e = .returned (.tuple #[v, .bool true]) ∧ RdNF _ W3 v a := hret
    obtain ⟨ya, yc, rfl⟩ := rdNF_shape hv2
    obtain ⟨n, hN⟩ : ∃ n, n = a.length := ⟨_, rfl⟩
    rw [← hN] at hv2 ⊢
    have HN := Lib.hid hN
    have hn32 : n ≤ 32 := by rw [hN]; exact (HSMALL.out a rfl).1
    have HV2 := Lib.hid hv2
    clear hN hv2
    go_wp2_with fail
    obtain ⟨W4, hW4⟩ : ∃ W4 : World, W4 = W3.alloc (.cells #[.int .i64 5, .int .i64 0, .int .i64 0, .bool false, .int .i64 0, .int .i64 0, .slice none 0 0, .slice none 0 0] 31) := ⟨_, rfl⟩
    rw [← hW4]
    have hp4 : W4.heap[W3.heap.size]? = some (.cells #[.int .i64 5, .int .i64 0, .int .i64 0, .bool false, .int .i64 0, .int .i64 0, .slice none 0 0, .slice none 0 0] 31 (0, 0)) := by rw [hW4]; exact heap_alloc_new W3 _
    have hs4 : W4.heap.size = W3.heap.size + 1 := by rw [hW4]; simp
    have HX4 := Lib.hid ((show W4.heap[RB]? = W3.heap[RB]? by rw [hW4]; exact heap_alloc_old W3 _ (Array.getElem?_eq_some_iff.1 HX3.out).1).trans HX3.out)
    have HB34 := Lib.hid (show Below W3.heap.size W3 W4 by rw [hW4]; exact below_alloc W3 _)
    obtain ⟨OB, hOB⟩ : ∃ OB, OB = W3.heap.size := ⟨_, rfl⟩
    rw [← hOB] at hp4 hs4 HB34 ⊢
    have HOB := Lib.hid hOB
    have HP4 := Lib.hid hp4
    have HS4 := Lib.hid hs4
    have HRO := Lib.hid (show RB < OB by have := (Array.getElem?_eq_some_iff.1 HX3.out).1; omega)
    clear hW4 hp4 hs4 hOB
    go_loopw [7] (fun i wr => ∃ (q : Nat) (vo : Option Addr) (vc : Nat) (css : List (List Value)), q ≤ n ∧ i = .int .i64 (q : Int) ∧ wr.heap[RB]? = some (.cells #[.int .i64 0, .int .i64 0, .int .i64 0, .bool false, .int .i64 0, .int .i64 0, .slice none 0 0, .slice none 0 0] 31 (0, 0)) ∧ wr.heap[OB]? = some (.cells #[.int .i64 5, .int .i64 0, .int .i64 0, .bool false, .int .i64 0, .int .i64 0, .slice none 0 0, .slice vo q vc] 31 (0, 0)) ∧ css.length = q ∧ wr.ownsRow (OB + 1) 31 8 (.slice vo q vc) q css.flatten ∧ Free (fun b => b = RB ∨ b = OB ∨ (Value.slice vo q vc).ownBlock = some b) wr (fun w' => RdTs w' ((a.take q).map fun x => .mk 4 0 0 zeroV x) css) ∧ OB + 1 ≤ wr.heap.size ∧ Below OB W3 wr) (fun i _ => n - (intOf i).toNat)
    case atStart => exact ⟨0, none, 0, [], Nat.zero_le _, rfl, HX4.out, HP4.out, rfl, World.ownsRow_nil .., fun w' _ => by simp [RdTs], by rw [HS4.out]; exact Nat.le_refl _, HB34.out⟩
    case round =>
      obtain ⟨q, vo, vc, css1, hq, rfl, hx, hp, hcl, hown, hel, hsz, hbel⟩ := hrel
      obtain ⟨wo, rfl⟩ : ∃ wo : World, wo = wr := ⟨_, rfl⟩
      have HXW := Lib.hid hx
      have HPW := Lib.hid hp
      have HCL := Lib.hid hcl
      have HO := Lib.hid hown
      have HE := Lib.hid hel
      have HZ := Lib.hid hsz
      have HBW := Lib.hid hbel
      have HBWw := Lib.hid (show Below w.heap.size w wo from HB3.out.trans (hbel.mono (by have := HB3.out.size; have := HOB.out; omega)))
      have hcp : wo.cell? ⟨OB, 7, none⟩ = some (.slice vo q vc) := by rw [cell_of_row wo _ 7 _ _ _ hp]; rfl
      have hfp : wo.frozen? ⟨OB, 7, none⟩ = false := frozen_of_row wo _ 7 _ _ hp
      clear hown hel hbel hsz hx hp hcl
      by_cases hlt : q < n
      · obtain ⟨x, hxa⟩ : ∃ x, a[q]? = some x := ⟨_, List.getElem?_eq_getElem (by rw [← HN.out]; exact hlt)⟩
        have hlti : (q : Int) < (n : Int) := by omega
        have hq0 : (0 : Int) ≤ (q : Int) := by omega
        have HXA := Lib.hid hxa
        have hbo := HOB.out
        have hv3 := HV2.out.to (Y := fun b => ((w.heap.size ≤ b ∧ b < W.heap.size) ∧ b < W2.heap.size) ∨ OB ≤ b) (agree_below HBW.out (by have := HZ.out; omega)) (fun i h1 h2 => by omega) (fun i h1 h2 => h2.elim id fun h => by omega)
        obtain ⟨xb, xo, xa, xc, rfl, hxc, css2, hfx⟩ := hv3.at hxa
        obtain ⟨lx, hlx⟩ : ∃ lx, lx = x.length := ⟨_, rfl⟩
        rw [← hlx] at hxc hfx
        have HFX := Lib.hid hfx
        have hxc2 := fun o => Lib.cell?_alloc_some (W := wo) o hxc
        have hcp2 := fun o => Lib.cell?_alloc_some (W := wo) o hcp
        have HOF := Lib.hid (show ∀ i, i < OB + 1 → (Value.slice vo q vc).ownBlock ≠ some i from fun i h e => by have := own_base HO.out i e; omega)
        have HOL := Lib.hid (own_lt HO.out)
        have HSA := Lib.hid (show (wo.alloc (.cells #[.int .i64 4, .int .i64 0, .int .i64 0, .bool false, .int .i64 0, .int .i64 0, .slice none 0 0, .slice xa lx xc] 31)).heap.size = wo.heap.size + 1 by simp)
        have HOA : Hid ((wo.alloc (.cells #[.int .i64 4, .int .i64 0, .int .i64 0, .bool false, .int .i64 0, .int .i64 0, .slice none 0 0, .slice xa lx xc] 31)).drew.ownsRow (OB + 1) 31 8 (.slice vo q vc) q css1.flatten) := Lib.hid (HO.out.alloc _)
        have HRL := Lib.hid ((rdS_lit wo #[.int .i64 4, .int .i64 0, .int .i64 0, .bool false, .int .i64 0, .int .i64 0, .slice none 0 0, .slice xa lx xc] 31 8 rfl).kept (below_drw _ _))
        clear hxa hv3 hfx hlx hbo
        go_upto_region 8 with (fail)
        go_region_law
          (refine step_append_k elmPred (by rfl) _ _ (by rfl) (OB + 1) (.slice vo q vc) q css1.flatten (by rfl) HOA.out _ [[.int .i64 4, .int .i64 0, .int .i64 0, .bool false, .int .i64 0, .int .i64 0, .slice none 0 0, .slice xa lx xc]] (by rfl) HRL.out (fun t ht => by rw [List.mem_singleton.1 ht]; exact ⟨rfl, by simp [Value.oneCell']⟩) (by simp; omega) (by have h1 : (wo.alloc (.cells #[.int .i64 4, .int .i64 0, .int .i64 0, .bool false, .int .i64 0, .int .i64 0, .slice none 0 0, .slice xa lx xc] 31)).drew.heap.size = wo.heap.size + 1 := HSA.out; rw [h1]; have := HZ.out; omega) (q + 1) rfl ?_; intro ao4 cap4 w4 hown4 hgrow4 hnew4; have HO4 := Lib.hid hown4; have HG4 : Hid (World.grownBy (wo.alloc (.cells #[.int .i64 4, .int .i64 0, .int .i64 0, .bool false, .int .i64 0, .int .i64 0, .slice none 0 0, .slice xa lx xc] 31)).drew w4 (Value.slice vo q vc).ownBlock) := Lib.hid hgrow4; have HN4 : Hid (∀ g, (Value.slice ao4 (q + 1) cap4).ownBlock = some g → (Value.slice vo q vc).ownBlock = some g ∨ g = (wo.alloc (.cells #[.int .i64 4, .int .i64 0, .int .i64 0, .bool false, .int .i64 0, .int .i64 0, .slice none 0 0, .slice xa lx xc] 31)).drew.heap.size) := Lib.hid hnew4; have hp4 : w4.heap[OB]? = some (.cells #[.int .i64 5, .int .i64 0, .int .i64 0, .bool false, .int .i64 0, .int .i64 0, .slice none 0 0, .slice vo q vc] 31 (0, 0)) := (HG4.out.block OB (by have h1 : (wo.alloc (.cells #[.int .i64 4, .int .i64 0, .int .i64 0, .bool false, .int .i64 0, .int .i64 0, .slice none 0 0, .slice xa lx xc] 31)).drew.heap.size = wo.heap.size + 1 := HSA.out; rw [h1]; have := HZ.out; omega) (fun e => HOF.out OB (by omega) e.symm)).trans ((heap_alloc_old wo _ (by have := HZ.out; omega)).trans HPW.out); have HP4W := Lib.hid hp4; have hc4 : w4.cell? ⟨OB, 7, none⟩ = some (.slice vo q vc) := (by rw [cell_of_row w4 OB 7 _ _ _ hp4]; rfl); have hf4 : w4.frozen? ⟨OB, 7, none⟩ = false := frozen_of_row w4 _ 7 _ _ hp4; clear hown4 hgrow4 hnew4 hp4)
        all_goals
          go_wp2_with fail
          go_roundw
          case rel =>
            have hz := HZ.out
            have hro := HRO.out
            have hsa : (wo.alloc (.cells #[.int .i64 4, .int .i64 0, .int .i64 0, .bool false, .int .i64 0, .int .i64 0, .slice none 0 0, .slice xa lx xc] 31)).drew.heap.size = wo.heap.size + 1 := HSA.out
            have hagx : Agree (fun b => b = OB ∨ (Value.slice vo q vc).ownBlock = some b) (wo.alloc (.cells #[.int .i64 4, .int .i64 0, .int .i64 0, .bool false, .int .i64 0, .int .i64 0, .slice none 0 0, .slice xa lx xc] 31)).drew (w4.setCell ⟨OB, 7, none⟩ (.slice ao4 (q + 1) cap4)) :=
              ((Agree.refl _ _).thenGrown HG4.out fun i _ h => .inr h).set ⟨OB, 7, none⟩ _ (.inl (.inl rfl))
            have hag6 : Agree (fun b => b = OB ∨ (Value.slice vo q vc).ownBlock = some b) wo (w4.setCell ⟨OB, 7, none⟩ (.slice ao4 (q + 1) cap4)) := (((Agree.refl _ wo).alloc (.cells #[.int .i64 4, .int .i64 0, .int .i64 0, .bool false, .int .i64 0, .int .i64 0, .slice none 0 0, .slice xa lx xc] 31)).drew).trans hagx
            have hag5 : Agree (fun b => b = RB ∨ b = OB ∨ (Value.slice vo q vc).ownBlock = some b) wo (w4.setCell ⟨OB, 7, none⟩ (.slice ao4 (q + 1) cap4)) := hag6.mono fun _ _ h => .inr h
            have hnb : ∀ b, (Value.slice ao4 (q + 1) cap4).ownBlock = some b → (Value.slice vo q vc).ownBlock = some b ∨ b = wo.heap.size + 1 := fun b h => (HN4.out b h).imp id fun h => by rw [h]; exact hsa
            have hnp : ∀ b, (Value.slice ao4 (q + 1) cap4).ownBlock = some b → OB + 1 ≤ b := fun b h => own_base HO4.out b h
            refine ⟨q + 1, ao4, cap4, css1 ++ [[.int .i64 4, .int .i64 0, .int .i64 0, .bool false, .int .i64 0, .int .i64 0, .slice none 0 0, .slice xa lx xc]], by omega, by go_num, ?_, ?_, ?_, ?_, ?_, ?_, ?_⟩
            · exact (heap_setCell_other w4 ⟨OB, 7, none⟩ RB _ (by show RB ≠ OB; omega)).trans ((HG4.out.block RB (by rw [hsa]; omega) (fun e => HOF.out RB (by omega) e.symm)).trans ((heap_alloc_old wo _ (by omega)).trans HXW.out))
            · exact heap_setCell_same w4 _ 7 _ _ _ HP4W.out
            · rw [List.length_append, HCL.out]; rfl
            · have h1 := ownsRow_agree HO4.out (agree_set (fun b => b = OB) w4 ⟨OB, 7, none⟩ (.slice ao4 (q + 1) cap4) rfl) (fun b hb h => by have := hnp b hb; omega)
              rw [List.flatten_append]
              exact h1
            · have e1 : ((a.take (q + 1)).map fun x => Pt.mk 4 0 0 zeroV x) = ((a.take q).map fun x => Pt.mk 4 0 0 zeroV x) ++ [Pt.mk 4 0 0 zeroV x] := by rw [List.take_add_one, HXA.out, List.map_append]; rfl
              rw [e1]
              intro w' ha
              have ha0 : Agree (fun b => b = RB ∨ b = OB ∨ (Value.slice vo q vc).ownBlock = some b) wo w' := hag5.then ha fun i hi h => by
                rcases h with h | h | h
                · exact .inl h
                · exact .inr (.inl h)
                · rcases hnb i h with h | h
                  · exact .inr (.inr h)
                  · omega
              refine rdTs_snoc ?_ (HE.out w' ha0)
              have hfx := HFX.out w' (ha0.mono fun i hi h => ?_)
              · unfold RdT1
                exact ⟨.slice none 0 0, .slice xa lx xc, css2, rfl, ⟨Rd.nil w', fun x h => by cases h⟩, hfx.1, hfx.2⟩
              · have h1 := HRB.out
                have h2 := HSZ.out
                have h3 := HS2.out
                rcases h with h | h | h
                · exact .inl ⟨⟨by omega, by omega⟩, by omega⟩
                · exact .inr (by omega)
                · exact .inr (by have := own_base HO.out i h; omega)
            · have := hag5.size; omega
            · exact HBW.out.trans (hag6.below (fun i hi h => by
                rcases h with h | h
                · omega
                · have := own_base HO.out i h; omega) (by omega))
          case measure => simp [intOf]; omega
      · have hqn : q = n := by omega
        have hlti : ¬ (q : Int) < (n : Int) := by omega
        have htk : a.take q = a := List.take_of_length_le (by rw [← HN.out, hqn]; exact Nat.le_refl _)
        have HE2 := Lib.hid (show Free (fun b => b = RB ∨ b = OB ∨ (Value.slice vo q vc).ownBlock = some b) wo (fun w' => RdTs w' (a.map fun x => .mk 4 0 0 zeroV x) css1) by have h := HE.out; rw [htk] at h; exact h)
        have hpw := HPW.out
        have hxw := HXW.out
        have pc0 : wo.cell? ⟨OB, 0, none⟩ = some (.int .i64 5) := by rw [cell_of_row wo OB 0 _ _ _ hpw]; rfl
        have pcf0 : wo.frozen? ⟨OB, 0, none⟩ = false := frozen_of_row wo OB 0 _ _ hpw
        have pc1 : wo.cell? ⟨OB, 1, none⟩ = some (.int .i64 0) := by rw [cell_of_row wo OB 1 _ _ _ hpw]; rfl
        have pcf1 : wo.frozen? ⟨OB, 1, none⟩ = false := frozen_of_row wo OB 1 _ _ hpw
        have pc2 : wo.cell? ⟨OB, 2, none⟩ = some (.int .i64 0) := by rw [cell_of_row wo OB 2 _ _ _ hpw]; rfl
        have pcf2 : wo.frozen? ⟨OB, 2, none⟩ = false := frozen_of_row wo OB 2 _ _ hpw
        have pc3 : wo.cell? ⟨OB, 3, none⟩ = some (.bool false) := by rw [cell_of_row wo OB 3 _ _ _ hpw]; rfl
        have pcf3 : wo.frozen? ⟨OB, 3, none⟩ = false := frozen_of_row wo OB 3 _ _ hpw
        have pc4 : wo.cell? ⟨OB, 4, none⟩ = some (.int .i64 0) := by rw [cell_of_row wo OB 4 _ _ _ hpw]; rfl
        have pcf4 : wo.frozen? ⟨OB, 4, none⟩ = false := frozen_of_row wo OB 4 _ _ hpw
        have pc5 : wo.cell? ⟨OB, 5, none⟩ = some (.int .i64 0) := by rw [cell_of_row wo OB 5 _ _ _ hpw]; rfl
        have pcf5 : wo.frozen? ⟨OB, 5, none⟩ = false := frozen_of_row wo OB 5 _ _ hpw
        have pc6 : wo.cell? ⟨OB, 6, none⟩ = some (.slice none 0 0) := by rw [cell_of_row wo OB 6 _ _ _ hpw]; rfl
        have pcf6 : wo.frozen? ⟨OB, 6, none⟩ = false := frozen_of_row wo OB 6 _ _ hpw
        have pc7 : wo.cell? ⟨OB, 7, none⟩ = some (.slice vo q vc) := by rw [cell_of_row wo OB 7 _ _ _ hpw]; rfl
        have pcf7 : wo.frozen? ⟨OB, 7, none⟩ = false := frozen_of_row wo OB 7 _ _ hpw
        have zc0 : wo.cell? ⟨RB, 0, none⟩ = some (.int .i64 0) := by rw [cell_of_row wo RB 0 _ _ _ hxw]; rfl
        have zcf0 : wo.frozen? ⟨RB, 0, none⟩ = false := frozen_of_row wo RB 0 _ _ hxw
        have zc1 : wo.cell? ⟨RB, 1, none⟩ = some (.int .i64 0) := by rw [cell_of_row wo RB 1 _ _ _ hxw]; rfl
        have zcf1 : wo.frozen? ⟨RB, 1, none⟩ = false := frozen_of_row wo RB 1 _ _ hxw
        have zc2 : wo.cell? ⟨RB, 2, none⟩ = some (.int .i64 0) := by rw [cell_of_row wo RB 2 _ _ _ hxw]; rfl
        have zcf2 : wo.frozen? ⟨RB, 2, none⟩ = false := frozen_of_row wo RB 2 _ _ hxw
        have zc3 : wo.cell? ⟨RB, 3, none⟩ = some (.bool false) := by rw [cell_of_row wo RB 3 _ _ _ hxw]; rfl
        have zcf3 : wo.frozen? ⟨RB, 3, none⟩ = false := frozen_of_row wo RB 3 _ _ hxw
        have zc4 : wo.cell? ⟨RB, 4, none⟩ = some (.int .i64 0) := by rw [cell_of_row wo RB 4 _ _ _ hxw]; rfl
        have zcf4 : wo.frozen? ⟨RB, 4, none⟩ = false := frozen_of_row wo RB 4 _ _ hxw
        have zc5 : wo.cell? ⟨RB, 5, none⟩ = some (.int .i64 0) := by rw [cell_of_row wo RB 5 _ _ _ hxw]; rfl
        have zcf5 : wo.frozen? ⟨RB, 5, none⟩ = false := frozen_of_row wo RB 5 _ _ hxw
        have zc6 : wo.cell? ⟨RB, 6, none⟩ = some (.slice none 0 0) := by rw [cell_of_row wo RB 6 _ _ _ hxw]; rfl
        have zcf6 : wo.frozen? ⟨RB, 6, none⟩ = false := frozen_of_row wo RB 6 _ _ hxw
        have zc7 : wo.cell? ⟨RB, 7, none⟩ = some (.slice none 0 0) := by rw [cell_of_row wo RB 7 _ _ _ hxw]; rfl
        have zcf7 : wo.frozen? ⟨RB, 7, none⟩ = false := frozen_of_row wo RB 7 _ _ hxw
        clear hpw hxw htk hqn hcp hfp
        go_wp2_with fail
        refine bodyPost_ret (results_cell_tmp rfl _ _ RB _ _ (0, 0) _ _ rfl rfl (eight_heap HXW.out) Try.underlying31 rfl infoPred8) rfl ?_
        have hst : ∀ i u (wx : World), Agree (fun b => b = RB) wo wx → Agree (fun b => b = RB) wo (wx.setCell ⟨RB, i, none⟩ u) := fun i u wx h => h.set ⟨RB, i, none⟩ u (.inl rfl)
        have hag8 := hst 7 (.slice vo q vc) _ (hst 6 (.slice none 0 0) _ (hst 5 (.int .i64 0) _ (hst 4 (.int .i64 0) _ (hst 3 (.bool false) _ (hst 2 (.int .i64 0) _ (hst 1 (.int .i64 0) _ (hst 0 (.int .i64 5) _ (Agree.refl _ wo))))))))
        have hro := HRO.out
        have hz := HZ.out
        refine ⟨?_, HBWw.out.trans (hag8.below (fun i hi h => by have := HRB.out; omega) HBWw.out.size)⟩
        rw [HT.out]
        refine ⟨cellsP 5 0 0 zeroV (.slice none 0 0) (.slice vo q vc), rfl, ?_⟩
        have hE := HE2.out wo (Agree.refl _ _)
        have hE9 := HE2.out _ (hag8.mono fun i _ h => .inl h)
        have hab : Above (OB + 1) wo _ := agree_above hag8 (fun i h => by omega)
        unfold RdT1
        exact ⟨.slice none 0 0, .slice vo q vc, css1, rfl, ⟨Rd.nil _, fun x h => by cases h⟩, ((rdSK_own HO.out HCL.out.symm (fun t ht => (rdTs_ones hE t ht).1)).above hab (Nat.le_refl _)).rd, hE9⟩

end Go.Proofs.Ytfmkalnnpddefaa
