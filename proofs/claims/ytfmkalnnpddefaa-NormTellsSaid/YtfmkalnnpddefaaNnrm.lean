/-
  Contract of norm.normal, by induction.
-/
import Derived.Test.YtfmkalnnpddefaaNsum
namespace Go.Proofs.Ytfmkalnnpddefaa
set_option linter.unusedVariables false
set_option linter.unusedSimpArgs false
open Go.RowKit

theorem one_n {Y : Nat → Prop} {wz : World} {cs : Array Value} {p' : Pt} (hY : ∀ b, Y b → b < wz.heap.size) (h8 : cs.size = 8) (h : Free Y wz (fun w' => RdT1 w' p' cs.toList)) :
    RdNF Y ((wz.alloc (.cells cs 31)).alloc (.cells #[.slice (some ⟨wz.heap.size, 0, none⟩) 1 1] 29)) (.slice (some ⟨wz.heap.size + 1, 0, none⟩) 1 1) [[p']] := by
  have hsz : (wz.alloc (.cells cs 31)).heap.size = wz.heap.size + 1 := by simp
  refine ⟨[.slice (some ⟨wz.heap.size, 0, none⟩) 1 1], fun w' ha => ?_, rfl, fun i s l hs hl => ?_⟩
  · have := rd_lit_agree (w := wz.alloc (.cells cs 31)) (cs := #[.slice (some ⟨wz.heap.size, 0, none⟩) 1 1]) (E := 29) ha (fun b hb => by have := hY b hb; omega)
    rw [hsz] at this
    exact this
  · match i, hs, hl with
    | i + 1, hs, hl => simp at hs
    | 0, hs, hl =>
      cases hs
      cases hl
      refine ⟨[cs.toList], fun w' ha => ⟨?_, ?_⟩⟩
      · have h1 : w'.heap[wz.heap.size]? = some (.cells cs 31 (0, 0)) := (ha.block wz.heap.size (by simp; omega) fun e => by have := hY _ e; omega).trans ((heap_alloc_old _ _ (by rw [hsz]; omega)).trans (heap_alloc_new wz _))
        refine ⟨some ⟨wz.heap.size, 0, none⟩, 1, rfl, ⟨(fun h => by cases h), Nat.le_refl _⟩, fun k t ht => ⟨wz.heap.size, 0, rfl, fun j u hu => ?_⟩⟩
        have hk : k = 0 := by have := (List.getElem?_eq_some_iff.1 ht).1; simp at this; omega
        subst hk
        simp only [List.getElem?_cons_zero, Option.some.injEq] at ht
        subst ht
        rw [cell_of_row w' wz.heap.size _ _ _ _ h1]
        simpa using hu
      · unfold RdTs
        exact ⟨h w' (((agree_alloc Y wz _).alloc _).trans ha), by unfold RdTs; trivial⟩

theorem rdT1F_op {X : Nat → Prop} {w : World} {k c o : Int} (o' : Int) {v : Vc} {l : List Pt} {s ls : Value} (h : RdT1F X w (.mk k c o v l) (cellsP k c o v s ls)) : RdT1F X w (.mk k c o' v l) (cellsP k c o' v s ls) := by
  unfold RdT1F at h ⊢
  obtain ⟨s', ls', css, he, h2, h3, h4⟩ := h
  simp only [cellsP, List.cons.injEq, true_and, and_true] at he
  obtain ⟨rfl, rfl⟩ := he
  exact ⟨s, ls, css, rfl, h2, h3, h4⟩
theorem prod_or_sum (k : Int) (nt : Bool) (c o : Int) (v : Vc) (l : List Pt) (h : k = 4 ∨ k = 5) : nrm (.mk k c o v l) nt = if (decide (k = 4) != nt) = true then prodN l nt [[]] else sumN l nt [] := by
  unfold nrm
  rcases h with rfl | rfl <;> simp

set_option maxRecDepth 100000 in
set_option maxHeartbeats 8000000 in
theorem normal_step (d : Nat) (ih : ∀ p, depT p ≤ d → cntT p ≤ 65536 → NrmOK p) (k c o : Int) (v : Vc) (l : List Pt) (hd : depL l ≤ d) (hd2 : d ≤ 900) (hcn : cntT (.mk k c o v l) ≤ 65536) : NrmOK (.mk k c o v l) := by
  intro nt cs L X w lb hrd hx hL hc hL2
  have HIH : Hid (∀ (i : Nat) (q : Pt), l[i]? = some q → NrmOK q) := Lib.hid fun i q hq => ih q (by have := depL_mem hq; omega) (by have := cntL_mem hq; unfold cntT at hcn; omega)
  have HPO : Hid (PredOK (.mk k c o v l)) := Lib.hid (fpred_any _ (by unfold depT; omega) hcn)
  have hl6 : l.length ≤ 1000000 := by unfold cntT at hcn; omega
  have HRD := Lib.hid hrd
  clear ih hd hcn
  unfold RdT1F at hrd
  obtain ⟨s, ls, css, rfl, hok, hls, hts⟩ := hrd
  obtain ⟨sa, sc, hes⟩ := rd_shape8 hok.now.1
  obtain ⟨ea, ec, hel⟩ := rdS_shape hls.now
  simp only at hes
  subst hes hel
  have hcl := rdTs_len hts.now
  obtain ⟨n, hN⟩ : ∃ n, n = l.length := ⟨_, rfl⟩
  rw [hcl, ← hN] at hls HRD ⊢
  rw [← hN] at hl6
  unfold nodesT at hc
  have HC := Lib.hid hc
  have HN := Lib.hid hN
  have HLS := Lib.hid hls
  have HTS := Lib.hid hts
  have HXL := Lib.hid hx
  have hL1 : 1 ≤ L := by omega
  have e1 : IntKind.i64.wrap (L - 1) = L - 1 := IntWalk.i64_in _ (by omega)
  have c0 : ∀ o, (w.alloc o).cell? ⟨lb, 0, none⟩ = some (.int .i64 L) := fun o => by rw [cell_of_row (w.alloc o) lb 0 _ _ _ (lft_alloc hL o)]; rfl
  have f0 : ∀ o, (w.alloc o).frozen? ⟨lb, 0, none⟩ = false := fun o => frozen_of_row (w.alloc o) lb 0 _ _ (lft_alloc hL o)
  have llt := lft_lt hL
  have HL := Lib.hid hL
  clear hc hls hts hok hL hN hcl hx
  obtain ⟨vu, vk, vn, vb⟩ := v
  unfold cellsP at HRD ⊢
  simp only at HRD HPO ⊢
  go_enter Try.func65, Try.ntmps65
  go_upto_region 2 with (fail)
  obtain ⟨W2, hW2⟩ : ∃ W2 : World, W2 = ((w.setCell ⟨lb, 0, none⟩ (.int .i64 (L - 1))).alloc (.cells #[.int .i64 k, .int .i64 c, .int .i64 o, .bool vu, .int .i64 vk, .int .i64 vn, .slice sa vb.length sc, .slice ea n ec] 31)) := ⟨_, rfl⟩
  rw [← hW2]
  have hss : (w.setCell ⟨lb, 0, none⟩ (.int .i64 (L - 1))).heap.size = w.heap.size := by simp [World.setCell]
  have hl2 : Lft W2 lb (L - 1) := by
    rw [hW2]
    exact (heap_alloc_old _ _ (by rw [hss]; exact llt)).trans (heap_setCell_same w lb 0 _ _ _ HL.out)
  have hx2 : W2.heap[w.heap.size]? = some (.cells #[.int .i64 k, .int .i64 c, .int .i64 o, .bool vu, .int .i64 vk, .int .i64 vn, .slice sa vb.length sc, .slice ea n ec] 31 (0, 0)) := by
    rw [hW2, ← hss]
    exact heap_alloc_new _ _
  have hg2 : w.grownBy W2 (some lb) := by rw [hW2]; exact grown_trans (grown_setCell w ⟨lb, 0, none⟩ _) (World.grownBy_alloc _ _ _)
  have HG2 := Lib.hid hg2
  have HR2 := Lib.hid (RdT1F.to (Y := fun b => X b ∨ w.heap.size ≤ b) (agree_grown hg2) (fun b _ h => by cases h; exact HXL.out) (fun b hb h => h.elim id fun h => by omega) _ HRD.out)
  have HTS2 := Lib.hid (RdTsF.to (Y := fun b => X b ∨ w.heap.size ≤ b) (agree_grown hg2) (fun b _ h => by cases h; exact HXL.out) (fun b hb h => h.elim id fun h => by omega) _ HTS.out)
  have HLS2 := Lib.hid (HLS.out.to (Y := fun b => X b ∨ w.heap.size ≤ b) (agree_grown hg2) (fun b _ h => by cases h; exact HXL.out) (fun b hb h => h.elim id fun h => by omega))
  obtain ⟨XB, hX⟩ : ∃ XB, XB = w.heap.size := ⟨_, rfl⟩
  have HXB := Lib.hid hX
  have HLT := Lib.hid llt
  have HSZ := Lib.hid (show w.heap.size < W2.heap.size from (Array.getElem?_eq_some_iff.1 hx2).1)
  rw [← hX] at hx2 ⊢
  have hcell : ∀ i u, (#[.int .i64 k, .int .i64 c, .int .i64 o, .bool vu, .int .i64 vk, .int .i64 vn, .slice sa vb.length sc, .slice ea n ec] : Array Value)[i]? = some u → W2.cell? ⟨XB, i, none⟩ = some u := fun i u h => by rw [cell_of_row W2 XB i _ _ _ hx2]; exact h
  have d0 : W2.cell? ⟨XB, 0, none⟩ = some (.int .i64 k) := hcell 0 _ rfl
  have d1 : W2.cell? ⟨XB, 1, none⟩ = some (.int .i64 c) := hcell 1 _ rfl
  have d2 : W2.cell? ⟨XB, 2, none⟩ = some (.int .i64 o) := hcell 2 _ rfl
  have d3 : W2.cell? ⟨XB, 3, none⟩ = some (.bool vu) := hcell 3 _ rfl
  have d4 : W2.cell? ⟨XB, 4, none⟩ = some (.int .i64 vk) := hcell 4 _ rfl
  have d5 : W2.cell? ⟨XB, 5, none⟩ = some (.int .i64 vn) := hcell 5 _ rfl
  have d6 : W2.cell? ⟨XB, 6, none⟩ = some (.slice sa vb.length sc) := hcell 6 _ rfl
  have d7 : W2.cell? ⟨XB, 7, none⟩ = some (.slice ea n ec) := hcell 7 _ rfl
  have dl : W2.cell? ⟨lb, 0, none⟩ = some (.int .i64 (L - 1)) := by rw [cell_of_row W2 lb 0 _ _ _ hl2]; rfl
  have hneg : decide (L - 1 < 0) = false := by rw [decide_eq_false_iff_not]; omega
  have HX2 := Lib.hid hx2
  have HL2 := Lib.hid hl2
  have HFIN := Lib.hid (show ∀ w', Agree (fun b => b = w.heap.size) W2 w' → ∃ L', L ≤ L' + (nodesT (.mk k c o ⟨vu, vk, vn, vb⟩ l) : Int) ∧ L' ≤ L ∧ Lft w' lb L' ∧ w.grownBy w' (some lb) from fun w' h =>
    ⟨L - 1, by unfold nodesT; omega, by omega, (h.block lb (lft_lt HL2.out) (by have := HLT.out; omega)).trans HL2.out, ⟨h.os.trans HG2.out.os, h.tape.trans HG2.out.tape, h.output.trans HG2.out.output, Nat.le_trans HG2.out.size h.size, fun i hi hn => (h.block i (Nat.lt_of_lt_of_le hi HG2.out.size) (by omega)).trans (HG2.out.block i hi hn)⟩⟩)
  have HFI2 := Lib.hid (show ∀ (L1 : Int) (w' : World) (m : Nat), L - 1 ≤ L1 + (m : Int) → m ≤ nodesL l → L1 ≤ L - 1 → Lft w' lb L1 → W2.grownBy w' (some lb) → ∃ L', L ≤ L' + (nodesT (.mk k c o ⟨vu, vk, vn, vb⟩ l) : Int) ∧ L' ≤ L ∧ Lft w' lb L' ∧ w.grownBy w' (some lb) from fun L1 w' m h1 h2 h3 h4 h5 =>
    ⟨L1, by unfold nodesT; omega, by omega, h4, grown_trans HG2.out h5⟩)
  have HRN := Lib.hid (show ∀ (r : Option (List (List Pt))) (e : Ending) (w' : World), RetN (fun b => X b ∨ w.heap.size ≤ b) W2 r e w' → RetN X w r e w' from fun r e w' h => by
    cases r with
    | none => exact h
    | some a =>
      obtain ⟨v, h1, h2⟩ := h
      exact ⟨v, h1, h2.mono fun b _ hb => ⟨.inl hb.1, by have := hb.2; have := HSZ.out; omega⟩⟩)
  have HON2 := Lib.hid (show ∀ (wz : World) (p' : Pt) (cs8 : Array Value), W2.heap.size ≤ wz.heap.size → cs8.size = 8 → Free (fun b => X b ∧ b < w.heap.size) wz (fun w' => RdT1 w' p' cs8.toList) →
      RetN X w (some [[p']]) (.returned (.tuple #[.slice (some ⟨wz.heap.size + 1, 0, none⟩) 1 1, .bool true])) ((wz.alloc (.cells cs8 31)).alloc (.cells #[.slice (some ⟨wz.heap.size, 0, none⟩) 1 1] 29)) from fun wz p' cs8 h1 h2 h3 =>
    ⟨_, rfl, one_n (fun b hb => by have := hb.2; have := HSZ.out; omega) h2 h3⟩)
  clear hW2 hss hl2 hx2 hX hcell c0 f0 llt HL hg2
  rcases (by omega : k = 1 ∨ k = 2 ∨ k = 3 ∨ k = 4 ∨ k = 5 ∨ k = 6 ∨ (k ≠ 1 ∧ k ≠ 2 ∧ k ≠ 3 ∧ k ≠ 4 ∧ k ≠ 5 ∧ k ≠ 6)) with rfl | rfl | rfl | rfl | rfl | rfl | ⟨h1, h2, h3, h4, h5, h6⟩
  · cases nt with
    | true =>
      have HA := Lib.hid (show RetN X w (nrm (.mk 1 c o ⟨vu, vk, vn, vb⟩ l) true) (.returned (.tuple #[.slice none 0 0, .bool true])) W2 by unfold nrm; exact ⟨_, rfl, [], fun w' _ => Rd.nil w', rfl, fun i s l h => by simp at h⟩)
      have HF := Lib.hid (HFIN.out W2 (Agree.refl _ _))
      go_wp2_with fail
      go_ret2
      exact ⟨HA.out, HF.out⟩
    | false =>
      have HA := Lib.hid (show RetN X w (nrm (.mk 1 c o ⟨vu, vk, vn, vb⟩ l) false) (.returned (.tuple #[.slice (some ⟨W2.heap.size, 0, none⟩) 1 1, .bool true])) (W2.alloc (.cells #[.slice none 0 0] 29)) by
        unfold nrm
        refine ⟨_, rfl, [.slice none 0 0], fun w' ha => rd_lit_agree ha (fun b hb => by have := hb.2; have := HSZ.out; omega), rfl, ?_⟩
        intro i s t hs ht
        match i, hs, ht with
        | 0, hs, ht => cases hs; cases ht; exact ⟨[], fun w' _ => ⟨RdS.nil w' 8, by unfold RdTs; trivial⟩⟩
        | i + 1, hs, ht => simp at hs)
      have HF := Lib.hid (HFIN.out _ (agree_alloc _ W2 (.cells #[.slice none 0 0] 29)))
      go_wp2_with fail
      go_ret2
      exact ⟨HA.out, HF.out⟩
  · cases nt with
    | false =>
      have HA := Lib.hid (HON2.out W2 _ #[.int .i64 2, .int .i64 c, .int .i64 o, .bool vu, .int .i64 vk, .int .i64 vn, .slice sa vb.length sc, .slice ea n ec] (Nat.le_refl _) rfl (RdT1F.free _ (RdT1F.to (agree_grown HG2.out) (fun b _ h => by cases h; exact HXL.out) (fun b hb h => h.1) _ HRD.out)))
      have HF := Lib.hid (HFIN.out _ (((agree_alloc _ W2 (.cells #[.int .i64 2, .int .i64 c, .int .i64 o, .bool vu, .int .i64 vk, .int .i64 vn, .slice sa vb.length sc, .slice ea n ec] 31))).alloc (.cells #[.slice (some ⟨W2.heap.size, 0, none⟩) 1 1] 29)))
      go_wp2_with fail
      go_ret2
      exact ⟨by unfold nrm; exact HA.out, HF.out⟩
    | true =>
      have f2 : W2.frozen? ⟨XB, 2, none⟩ = false := frozen_of_row W2 XB 2 _ _ HX2.out
      go_wp2_with (go_at_call 103; refine (otherOp_any _ _).mono ?_; rintro e w4 ⟨rfl, rfl⟩)
      have hsz3 : (W2.setCell ⟨XB, 2, none⟩ (.int .i64 (opN o))).heap.size = W2.heap.size := by simp [World.setCell]
      have hag3 : Agree (fun b => b = lb) w (W2.setCell ⟨XB, 2, none⟩ (.int .i64 (opN o))) := ((agree_grown HG2.out).mono fun b _ h => (Option.some.inj h).symm).set _ _ (.inr (by show w.heap.size ≤ XB; rw [HXB.out]; exact Nat.le_refl _))
      have HA := HON2.out (W2.setCell ⟨XB, 2, none⟩ (.int .i64 (opN o))) _ #[.int .i64 2, .int .i64 c, .int .i64 (opN o), .bool vu, .int .i64 vk, .int .i64 vn, .slice sa vb.length sc, .slice ea n ec] (by rw [hsz3]; exact Nat.le_refl _) rfl (RdT1F.free _ (RdT1F.to hag3 (fun b _ h => by cases h; exact HXL.out) (fun b hb h => h.1) _ (rdT1F_op (opN o) HRD.out)))
      rw [hsz3] at HA
      go_ret2
      exact ⟨by unfold nrm; exact HA, HFIN.out _ ((((Agree.refl _ _).set ⟨XB, 2, none⟩ _ (.inl (by show XB = _; rw [HXB.out]))).alloc _).alloc _)⟩
  · cases nt with
    | false =>
      have HA := Lib.hid (HON2.out W2 _ #[.int .i64 3, .int .i64 c, .int .i64 o, .bool vu, .int .i64 vk, .int .i64 vn, .slice sa vb.length sc, .slice ea n ec] (Nat.le_refl _) rfl (RdT1F.free _ (RdT1F.to (agree_grown HG2.out) (fun b _ h => by cases h; exact HXL.out) (fun b hb h => h.1) _ HRD.out)))
      have HF := Lib.hid (HFIN.out _ (((agree_alloc _ W2 (.cells #[.int .i64 3, .int .i64 c, .int .i64 o, .bool vu, .int .i64 vk, .int .i64 vn, .slice sa vb.length sc, .slice ea n ec] 31))).alloc (.cells #[.slice (some ⟨W2.heap.size, 0, none⟩) 1 1] 29)))
      go_wp2_with fail
      go_ret2
      exact ⟨by unfold nrm; exact HA.out, HF.out⟩
    | true =>
      have HCALL := Lib.hid (pnot_any _ HPO.out _ W2 HR2.out.now)
      go_wp2_with fail
      refine HCALL.out.mono ?_
      rintro e w3 ⟨cs', rfl, ha, hb⟩
      have HA := Lib.hid ha
      have HB := Lib.hid hb
      unfold RdA1 at ha
      obtain ⟨s', ls', css', rfl, hok', hls', _⟩ := ha
      obtain ⟨sa', sc', hes'⟩ := rdB_shape hok'.1
      obtain ⟨ea', ec', hel'⟩ := rdS_shape hls'.rd
      subst hes' hel'
      have hx3 := (hb.block XB (by rw [HXB.out]; exact HSZ.out)).trans HX2.out
      have z0 : w3.cell? ⟨XB, 0, none⟩ = some (.int .i64 3) := by rw [cell_of_row w3 XB 0 _ _ _ hx3]; rfl
      have z1 : w3.cell? ⟨XB, 1, none⟩ = some (.int .i64 c) := by rw [cell_of_row w3 XB 1 _ _ _ hx3]; rfl
      have z2 : w3.cell? ⟨XB, 2, none⟩ = some (.int .i64 o) := by rw [cell_of_row w3 XB 2 _ _ _ hx3]; rfl
      have z3 : w3.cell? ⟨XB, 3, none⟩ = some (.bool vu) := by rw [cell_of_row w3 XB 3 _ _ _ hx3]; rfl
      have z4 : w3.cell? ⟨XB, 4, none⟩ = some (.int .i64 vk) := by rw [cell_of_row w3 XB 4 _ _ _ hx3]; rfl
      have z5 : w3.cell? ⟨XB, 5, none⟩ = some (.int .i64 vn) := by rw [cell_of_row w3 XB 5 _ _ _ hx3]; rfl
      have z6 : w3.cell? ⟨XB, 6, none⟩ = some (.slice sa vb.length sc) := by rw [cell_of_row w3 XB 6 _ _ _ hx3]; rfl
      have z7 : w3.cell? ⟨XB, 7, none⟩ = some (.slice ea n ec) := by rw [cell_of_row w3 XB 7 _ _ _ hx3]; rfl
      have y0 : w3.frozen? ⟨XB, 0, none⟩ = false := frozen_of_row w3 XB 0 _ _ hx3
      have y1 : w3.frozen? ⟨XB, 1, none⟩ = false := frozen_of_row w3 XB 1 _ _ hx3
      have y2 : w3.frozen? ⟨XB, 2, none⟩ = false := frozen_of_row w3 XB 2 _ _ hx3
      have y3 : w3.frozen? ⟨XB, 3, none⟩ = false := frozen_of_row w3 XB 3 _ _ hx3
      have y4 : w3.frozen? ⟨XB, 4, none⟩ = false := frozen_of_row w3 XB 4 _ _ hx3
      have y5 : w3.frozen? ⟨XB, 5, none⟩ = false := frozen_of_row w3 XB 5 _ _ hx3
      have y6 : w3.frozen? ⟨XB, 6, none⟩ = false := frozen_of_row w3 XB 6 _ _ hx3
      have y7 : w3.frozen? ⟨XB, 7, none⟩ = false := frozen_of_row w3 XB 7 _ _ hx3
      clear hok' hls' hx3 d0 d1 d2 d3 d4 d5 d6 d7 hb
      have HAF := Lib.hid (show ∀ wz, Agree (fun b => b = XB) w3 wz → wz.heap.size = w3.heap.size → RetN X w (some [[.mk 6 0 0 zeroV [.mk 3 c o ⟨vu, vk, vn, vb⟩ l]]]) (.returned (.tuple #[.slice (some ⟨w3.heap.size + 1, 0, none⟩) 1 1, .bool true])) ((wz.alloc (.cells #[.int .i64 6, .int .i64 0, .int .i64 0, .bool false, .int .i64 0, .int .i64 0, .slice sa' (zeroV).b.length sc', .slice ea' css'.length ec'] 31)).alloc (.cells #[.slice (some ⟨w3.heap.size, 0, none⟩) 1 1] 29)) from fun wz h1 h2 => by
        have h3 := HON2.out wz (.mk 6 0 0 zeroV [.mk 3 c o ⟨vu, vk, vn, vb⟩ l]) #[.int .i64 6, .int .i64 0, .int .i64 0, .bool false, .int .i64 0, .int .i64 0, .slice sa' (zeroV).b.length sc', .slice ea' css'.length ec'] (by rw [h2]; exact HB.out.size) rfl (fun w4 h4 => RdA1.rd _ (RdA1.above (K0 := 0) (K := W2.heap.size) ?_ (Nat.zero_le _) _ HA.out))
        · rw [h2] at h3; exact h3
        · exact (agree_above h1 (fun i h => by rw [h, HXB.out]; exact HSZ.out)).trans h1.size (agree_above h4 fun i h => by have := h.2; have := HSZ.out; omega))
      unfold cellsP
      go_wp2_with fail
      go_ret2
      have hst : ∀ i u (wx : World), Agree (fun b => b = XB) w3 wx → Agree (fun b => b = XB) w3 (wx.setCell ⟨XB, i, none⟩ u) := fun i u wx h => h.set ⟨XB, i, none⟩ u (.inl rfl)
      have hag8 := hst 7 (.slice ea' css'.length ec') _ (hst 6 (.slice sa' (zeroV).b.length sc') _ (hst 5 (.int .i64 0) _ (hst 4 (.int .i64 0) _ (hst 3 (.bool false) _ (hst 2 (.int .i64 0) _ (hst 1 (.int .i64 0) _ (hst 0 (.int .i64 6) _ (Agree.refl _ w3))))))))
      refine ⟨by unfold nrm; exact HAF.out _ hag8 (by simp [World.setCell]), HFIN.out _ ?_⟩
      have h9 : Agree (fun b => b = w.heap.size) W2 w3 := (Agree.refl _ _).thenBelow HB.out
      exact ((h9.then hag8 fun b _ h => h.trans HXB.out).alloc _).alloc _
  · obtain ⟨r, hr⟩ : ∃ r, r = prodN l nt [[]] := ⟨_, rfl⟩
    obtain ⟨r2, hr2⟩ : ∃ r, r = sumN l nt [] := ⟨_, rfl⟩
    have HNR := Lib.hid (show nrm (.mk 4 c o ⟨vu, vk, vn, vb⟩ l) nt = if nt then r2 else r by rw [prod_or_sum 4 nt c o _ l (.inl rfl), ← hr, ← hr2]; cases nt <;> rfl)
    have HCP := Lib.hid (product_any nt l (by rw [← HN.out]; exact hl6) HIH.out _ css (L - 1) _ W2 lb ⟨HLS2.out, HTS2.out⟩ (.inl HXL.out) HL2.out (by have := HC.out; omega) (by omega))
    have HCS := Lib.hid (sum_any nt l (by rw [← HN.out]; exact hl6) HIH.out _ css (L - 1) _ W2 lb ⟨HLS2.out, HTS2.out⟩ (.inl HXL.out) HL2.out (by have := HC.out; omega) (by omega))
    rw [← hr] at HCP
    rw [← hr2] at HCS
    clear hr hr2
    cases nt with
    | false =>
      go_wp2_with fail
      refine HCP.out.mono ?_
      rintro e w3 ⟨hret, L3, g1, g2, g3, g4⟩
      have HF := Lib.hid (HFI2.out L3 w3 _ g1 (Nat.le_refl _) g2 g3 g4)
      have HRT := Lib.hid (HRN.out _ _ _ hret)
      clear g1 g2 g3 g4
      cases r with
      | none =>
        obtain rfl : e = .returned (.tuple #[.slice none 0 0, .bool false]) := hret
        go_wp2_with fail
        go_ret2
        exact ⟨by rw [HNR.out]; exact HRT.out, HF.out⟩
      | some a =>
        obtain ⟨v2, rfl, _⟩ : ∃ v, e = .returned (.tuple #[v, .bool true]) ∧ RdNF _ w3 v a := hret
        go_wp2_with fail
        go_ret2
        exact ⟨by rw [HNR.out]; exact HRT.out, HF.out⟩
    | true =>
      go_wp2_with fail
      refine HCS.out.mono ?_
      rintro e w3 ⟨hret, L3, g1, g2, g3, g4⟩
      have HF := Lib.hid (HFI2.out L3 w3 _ g1 (Nat.le_refl _) g2 g3 g4)
      have HRT := Lib.hid (HRN.out _ _ _ hret)
      clear g1 g2 g3 g4
      cases r2 with
      | none =>
        obtain rfl : e = .returned (.tuple #[.slice none 0 0, .bool false]) := hret
        go_wp2_with fail
        go_ret2
        exact ⟨by rw [HNR.out]; exact HRT.out, HF.out⟩
      | some a =>
        obtain ⟨v2, rfl, _⟩ : ∃ v, e = .returned (.tuple #[v, .bool true]) ∧ RdNF _ w3 v a := hret
        go_wp2_with fail
        go_ret2
        exact ⟨by rw [HNR.out]; exact HRT.out, HF.out⟩
  · obtain ⟨r, hr⟩ : ∃ r, r = prodN l nt [[]] := ⟨_, rfl⟩
    obtain ⟨r2, hr2⟩ : ∃ r, r = sumN l nt [] := ⟨_, rfl⟩
    have HNR := Lib.hid (show nrm (.mk 5 c o ⟨vu, vk, vn, vb⟩ l) nt = if nt then r else r2 by rw [prod_or_sum 5 nt c o _ l (.inr rfl), ← hr, ← hr2]; cases nt <;> rfl)
    have HCP := Lib.hid (product_any nt l (by rw [← HN.out]; exact hl6) HIH.out _ css (L - 1) _ W2 lb ⟨HLS2.out, HTS2.out⟩ (.inl HXL.out) HL2.out (by have := HC.out; omega) (by omega))
    have HCS := Lib.hid (sum_any nt l (by rw [← HN.out]; exact hl6) HIH.out _ css (L - 1) _ W2 lb ⟨HLS2.out, HTS2.out⟩ (.inl HXL.out) HL2.out (by have := HC.out; omega) (by omega))
    rw [← hr] at HCP
    rw [← hr2] at HCS
    clear hr hr2
    cases nt with
    | false =>
      go_wp2_with fail
      refine HCS.out.mono ?_
      rintro e w3 ⟨hret, L3, g1, g2, g3, g4⟩
      have HF := Lib.hid (HFI2.out L3 w3 _ g1 (Nat.le_refl _) g2 g3 g4)
      have HRT := Lib.hid (HRN.out _ _ _ hret)
      clear g1 g2 g3 g4
      cases r2 with
      | none =>
        obtain rfl : e = .returned (.tuple #[.slice none 0 0, .bool false]) := hret
        go_wp2_with fail
        go_ret2
        exact ⟨by rw [HNR.out]; exact HRT.out, HF.out⟩
      | some a =>
        obtain ⟨v2, rfl, _⟩ : ∃ v, e = .returned (.tuple #[v, .bool true]) ∧ RdNF _ w3 v a := hret
        go_wp2_with fail
        go_ret2
        exact ⟨by rw [HNR.out]; exact HRT.out, HF.out⟩
    | true =>
      go_wp2_with fail
      refine HCP.out.mono ?_
      rintro e w3 ⟨hret, L3, g1, g2, g3, g4⟩
      have HF := Lib.hid (HFI2.out L3 w3 _ g1 (Nat.le_refl _) g2 g3 g4)
      have HRT := Lib.hid (HRN.out _ _ _ hret)
      clear g1 g2 g3 g4
      cases r with
      | none =>
        obtain rfl : e = .returned (.tuple #[.slice none 0 0, .bool false]) := hret
        go_wp2_with fail
        go_ret2
        exact ⟨by rw [HNR.out]; exact HRT.out, HF.out⟩
      | some a =>
        obtain ⟨v2, rfl, _⟩ : ∃ v, e = .returned (.tuple #[v, .bool true]) ∧ RdNF _ w3 v a := hret
        go_wp2_with fail
        go_ret2
        exact ⟨by rw [HNR.out]; exact HRT.out, HF.out⟩
  · by_cases hn : n = 1
    · obtain ⟨q, hq⟩ : ∃ q, l = [q] := by
        have h1 := HN.out
        rw [hn] at h1
        match l, h1 with
        | [q], _ => exact ⟨q, rfl⟩
      subst hq
      obtain ⟨cs, hcs, hrd⟩ := HTS2.out.at (k := 0) (q := q) rfl
      have HNR := Lib.hid (show nrm (.mk 6 c o ⟨vu, vk, vn, vb⟩ [q]) nt = nrm q (!nt) by rw [nrm]; simp [nrmOne_one])
      have hnd : nodesL [q] = nodesT q := by simp [nodesL]
      have HCALL := Lib.hid (HIH.out 0 q rfl (!nt) cs (L - 1) _ W2 lb hrd (.inl HXL.out) HL2.out (by have := HC.out; omega) (by omega))
      have HND := Lib.hid (show nodesT q ≤ nodesL [q] by rw [hnd]; exact Nat.le_refl _)
      obtain ⟨r, hr⟩ : ∃ r, r = nrm q (!nt) := ⟨_, rfl⟩
      rw [← hr] at HCALL HNR
      obtain ⟨mq, hmq⟩ : ∃ mq, mq = nodesT q := ⟨_, rfl⟩
      rw [← hmq] at HCALL HND
      have hat := HLS2.out.now.at hcs
      have hrn := hrd.now
      clear hr hmq hnd hrd
      obtain ⟨pk, pc, po, pv, pl⟩ := q
      unfold RdT1 at hrn
      obtain ⟨es, els, ecss, rfl, hok, hels, hets⟩ := hrn
      obtain ⟨sa3, sc3, hes⟩ := rd_shape8 hok.1
      obtain ⟨ea3, ec3, hel⟩ := rdS_shape hels
      simp only at hes
      subst hes hel
      obtain ⟨b, off, rfl, hcell⟩ := hat
      have k0 : W2.cell? ⟨b, off + 0 * 8 + 0, none⟩ = some (.int .i64 pk) := hcell 0 _ rfl
      have k1 : W2.cell? ⟨b, off + 0 * 8 + 1, none⟩ = some (.int .i64 pc) := hcell 1 _ rfl
      have k2 : W2.cell? ⟨b, off + 0 * 8 + 2, none⟩ = some (.int .i64 po) := hcell 2 _ rfl
      have k3 : W2.cell? ⟨b, off + 0 * 8 + 3, none⟩ = some (.bool pv.u) := hcell 3 _ rfl
      have k4 : W2.cell? ⟨b, off + 0 * 8 + 4, none⟩ = some (.int .i64 pv.k) := hcell 4 _ rfl
      have k5 : W2.cell? ⟨b, off + 0 * 8 + 5, none⟩ = some (.int .i64 pv.n) := hcell 5 _ rfl
      have k6 : W2.cell? ⟨b, off + 0 * 8 + 6, none⟩ = some (.slice sa3 pv.b.length sc3) := hcell 6 _ rfl
      have k7 : W2.cell? ⟨b, off + 0 * 8 + 7, none⟩ = some (.slice ea3 ecss.length ec3) := hcell 7 _ rfl
      simp only [Nat.zero_mul, Nat.add_zero] at k0 k1 k2 k3 k4 k5 k6 k7
      obtain ⟨pu, pvk, pvn, pb⟩ := pv
      unfold cellsP at HCALL
      simp only at HCALL k0 k1 k2 k3 k4 k5 k6 k7
      clear hok hels hets hcell hcs
      have hq1 : ((n : Int) == 1) = true := by rw [beq_iff_eq]; omega
      have hn0 : 0 < n := by omega
      have hn0i : (0 : Int) < (n : Int) := by omega
      have HNN := Lib.hid hn
      clear hn
      go_wp2_with fail
      refine HCALL.out.mono ?_
      rintro e w3 ⟨hret, L3, g1, g2, g3, g4⟩
      have HF := Lib.hid (HFI2.out L3 w3 _ g1 HND.out g2 g3 g4)
      have HRT := Lib.hid (HRN.out _ _ _ hret)
      clear g1 g2 g3 g4
      cases r with
      | none =>
        obtain rfl : e = .returned (.tuple #[.slice none 0 0, .bool false]) := hret
        go_wp2_with fail
        go_ret2
        exact ⟨by rw [HNR.out]; exact HRT.out, HF.out⟩
      | some a =>
        obtain ⟨v2, rfl, _⟩ : ∃ v, e = .returned (.tuple #[v, .bool true]) ∧ RdNF _ w3 v a := hret
        go_wp2_with fail
        go_ret2
        exact ⟨by rw [HNR.out]; exact HRT.out, HF.out⟩
    · have hq : ((n : Int) == 1) = false := by rw [beq_eq_false_iff_ne]; omega
      have HA := Lib.hid (show RetN X w (nrm (.mk 6 c o ⟨vu, vk, vn, vb⟩ l) nt) (.returned (.tuple #[.slice none 0 0, .bool false])) W2 by
        unfold nrm
        simp only [show ¬ (6 : Int) = 1 by decide, show ¬ (6 : Int) = 2 by decide, show ¬ (6 : Int) = 3 by decide, if_false, if_true]
        rw [nrmOne_not nt (by rw [← HN.out]; exact hn)]
        rfl)
      clear hn
      have HF := Lib.hid (HFIN.out W2 (Agree.refl _ _))
      go_wp2_with fail
      go_ret2
      exact ⟨HA.out, HF.out⟩
  · have HA := Lib.hid (show RetN X w (nrm (.mk k c o ⟨vu, vk, vn, vb⟩ l) nt) (.returned (.tuple #[.slice none 0 0, .bool false])) W2 by unfold nrm; simp [h1, h2, h3, h4, h5, h6]; rfl)
    replace h1 : (k == 1) = false := by rw [beq_eq_false_iff_ne]; exact h1
    replace h2 : (k == 2) = false := by rw [beq_eq_false_iff_ne]; exact h2
    replace h3 : (k == 3) = false := by rw [beq_eq_false_iff_ne]; exact h3
    replace h4 : (k == 4) = false := by rw [beq_eq_false_iff_ne]; exact h4
    replace h5 : (k == 5) = false := by rw [beq_eq_false_iff_ne]; exact h5
    replace h6 : (k == 6) = false := by rw [beq_eq_false_iff_ne]; exact h6
    have HF := Lib.hid (HFIN.out W2 (Agree.refl _ _))
    go_wp2_with fail
    go_ret2
    exact ⟨HA.out, HF.out⟩

theorem normal_any : ∀ (d : Nat) (p : Pt), d ≤ 900 → depT p ≤ d → cntT p ≤ 65536 → NrmOK p := by
  intro d
  induction d with
  | zero =>
    intro p _ hp _
    obtain ⟨k, c, o, v, l⟩ := p
    unfold depT at hp
    omega
  | succ d ih =>
    intro p hd hp hc
    obtain ⟨k, c, o, v, l⟩ := p
    unfold depT at hp
    exact normal_step d (fun q h1 h2 => ih q (by omega) h1 h2) k c o v l (by omega) (by omega) hc

end Go.Proofs.Ytfmkalnnpddefaa
