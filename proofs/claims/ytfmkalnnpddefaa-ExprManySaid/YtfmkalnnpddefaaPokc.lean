/-
  Contracts of pred.ok, by induction, and of pred.Ok.
-/
import Derived.Test.YtfmkalnnpddefaaPokd
namespace Go.Proofs.Ytfmkalnnpddefaa
set_option linter.unusedVariables false
set_option linter.unusedSimpArgs false
open Go.RowKit


theorem okS_le {cols : List Co} {p : Pt} {D L x : Int} (hD : 0 ≤ D) (h : okS cols p D L = some x) : 0 ≤ x ∧ x ≤ L := by
  rw [okS_eq cols p D L hD] at h
  split at h
  · rename_i hh
    have := Option.some.inj h
    omega
  · cases h
theorem okSl_fail {cols : List Co} {l : List Pt} {q : Nat} {p : Pt} {D L L1 : Int} (hp : l[q]? = some p) (h1 : okSl cols (l.take q) D L = some L1) (h2 : okS cols p D L1 = none) : okSl cols l D L = none := by
  have e : l = l.take q ++ (p :: l.drop (q + 1)) := by
    conv => lhs; rw [← List.take_append_drop q l]
    rw [List.drop_eq_getElem?_toList_append, hp]; rfl
  rw [e, okSl_append, h1]
  simp only
  rw [okSl, h2]
theorem okSl_next {cols : List Co} {l : List Pt} {q : Nat} {p : Pt} {D L L1 L2 : Int} (hp : l[q]? = some p) (h1 : okSl cols (l.take q) D L = some L1) (h2 : okS cols p D L1 = some L2) : okSl cols (l.take (q + 1)) D L = some L2 := by
  rw [List.take_add_one, hp, okSl_append, h1]
  simp only [Option.toList]
  rw [okSl, h2]
  simp only
  rw [okSl]
theorem nodesL_mem {l : List Pt} {k : Nat} {q : Pt} (h : l[k]? = some q) : nodesT q ≤ nodesL l := by
  have h1 := nodesL_take h
  have h2 := nodesL_le l (k + 1)
  omega
/-- ok, called with such columns, such a predicate, such a depth, and so many left. -/
def OkOK (cols : List Co) (sv : Value) (p : Pt) : Prop :=
  ∀ (cs : List Value) (D L : Int) (w0 w : World) (lb : Nat), RdT1 w0 p cs → RdC w0 sv cols → w0.heap.size ≤ lb → Below w0.heap.size w0 w → Lft w lb L → 0 ≤ D → D ≤ 1000000 → 0 ≤ L → L ≤ 1000000 → nodesT p ≤ 1000000 →
    Calls Try.prog 59 #[.agg #[sv], .agg cs.toArray, .int .i64 D, .pointer (some ⟨lb, 0, none⟩)] w fun e w' => e = .returned (.bool (okS cols p D L).isSome) ∧ ∃ L', Lft w' lb L' ∧ (∀ x, okS cols p D L = some x → L' = x) ∧ w.grownBy w' (some lb)

set_option maxRecDepth 100000 in
set_option maxHeartbeats 8000000 in
theorem ok_ok (cols : List Co) (sv : Value) : ∀ (d : Nat) (p : Pt), depT p ≤ d → OkOK cols sv p := by
  intro d
  induction d with
  | zero =>
    intro p hp
    obtain ⟨k, c, o, v, l⟩ := p
    unfold depT at hp
    omega
  | succ d ih =>
    intro p hp
    obtain ⟨k, c, o, v, l⟩ := p
    have HIH : Hid (∀ (i : Nat) (q : Pt), l[i]? = some q → OkOK cols sv q) := Lib.hid fun i q hq => ih q (by have := depL_mem hq; unfold depT at hp; omega)
    clear ih
    intro cs D L w0 w lb hrd hv hlb hb hL hD hD2 hL0 hL2 hnd
    unfold RdT1 at hrd
    obtain ⟨s, ls, css, rfl, hok, hls, hts⟩ := hrd
    obtain ⟨va, vc, hes⟩ := rd_shape8 hok.1
    obtain ⟨ea, ec, hel⟩ := rdS_shape hls
    obtain ⟨sa, sc, hsv⟩ := rdC_shape hv
    simp only at hes
    subst hes hel hsv
    have hcl := rdTs_len hts
    obtain ⟨n, hN⟩ : ∃ n, n = l.length := ⟨_, rfl⟩
    obtain ⟨sn, hsn⟩ : ∃ sn, sn = cols.length := ⟨_, rfl⟩
    rw [hcl, ← hN] at hls ⊢
    rw [← hsn] at hv HIH ⊢
    have hn : n ≤ 1000000 := by
      have := nodesL_len l
      unfold nodesT at hnd
      omega
    have HND : Hid (nodesL l ≤ 1000000) := Lib.hid (by unfold nodesT at hnd; omega)
    obtain ⟨vu, vk, vn, vb⟩ := v
    obtain ⟨vl, hvl⟩ : ∃ vl, vl = vb.length := ⟨_, rfl⟩
    unfold cellsP
    simp only at hok ⊢
    rw [← hvl] at hok ⊢
    have hLn : -1000000 ≤ L - (n : Int) ∧ L - (n : Int) ≤ 1000000 := by omega
    have e1 : IntKind.i64.wrap (L - (n : Int)) = L - (n : Int) := IntWalk.i64_in _ (by omega)
    have HN := Lib.hid hN
    have HLS := Lib.hid hls
    have HTS := Lib.hid hts
    have HOK := Lib.hid hok
    have HV := Lib.hid hv
    have HB := Lib.hid hb
    have HL := Lib.hid hL
    have c0 : ∀ o, (w.alloc o).cell? ⟨lb, 0, none⟩ = some (.int .i64 L) := fun o => by rw [cell_of_row (w.alloc o) lb 0 _ _ _ (lft_alloc hL o)]; rfl
    have c1 : ∀ o o', ((w.alloc o).alloc o').cell? ⟨lb, 0, none⟩ = some (.int .i64 L) := fun o o' => by rw [cell_of_row ((w.alloc o).alloc o') lb 0 _ _ _ (lft_alloc (lft_alloc hL o) o')]; rfl
    have f0 : ∀ o o', ((w.alloc o).alloc o').frozen? ⟨lb, 0, none⟩ = false := fun o o' => frozen_of_row ((w.alloc o).alloc o') lb 0 _ _ (lft_alloc (lft_alloc hL o) o')
    have llt := lft_lt hL
    clear hls hts hok hv hb hL hN hcl hp hnd hsn hvl hLn
    go_enter Try.func59, Try.ntmps59
    go_wp2_with fail
    go_region
    obtain ⟨W2, hW2⟩ : ∃ W2 : World, W2 = (((w.setCell ⟨lb, 0, none⟩ (.int .i64 (L - (n : Int)))).alloc (.cells #[.slice sa sn sc] 24)).alloc (.cells #[.int .i64 k, .int .i64 c, .int .i64 o, .bool vu, .int .i64 vk, .int .i64 vn, .slice va vl vc, .slice ea n ec] 31)).drew := ⟨_, rfl⟩
    rw [← hW2]
    have hss : (w.setCell ⟨lb, 0, none⟩ (.int .i64 (L - (n : Int)))).heap.size = w.heap.size := by simp [World.setCell]
    have hs2 : ((w.setCell ⟨lb, 0, none⟩ (.int .i64 (L - (n : Int)))).alloc (.cells #[.slice sa sn sc] 24)).heap.size = w.heap.size + 1 := by rw [World.size_alloc, hss]
    have hl2 : Lft W2 lb (L - (n : Int)) := by
      rw [hW2]
      exact (heap_alloc_old _ _ (by rw [hs2]; omega)).trans ((heap_alloc_old _ _ (by rw [hss]; exact llt)).trans (heap_setCell_same w lb 0 _ _ _ HL.out))
    have hx2 : W2.heap[w.heap.size]? = some (.cells #[.slice sa sn sc] 24 (0, 0)) := by
      rw [hW2, ← hss]
      exact (heap_alloc_old _ _ (by rw [hs2, hss]; omega)).trans (heap_alloc_new _ _)
    have hy2 : W2.heap[w.heap.size + 1]? = some (.cells #[.int .i64 k, .int .i64 c, .int .i64 o, .bool vu, .int .i64 vk, .int .i64 vn, .slice va vl vc, .slice ea n ec] 31 (0, 0)) := by
      rw [hW2, ← hs2]
      exact heap_alloc_new _ _
    have HB2 := Lib.hid (show Below w0.heap.size w0 W2 by rw [hW2]; exact (((HB.out.setCell (p := ⟨lb, 0, none⟩) hlb _).alloc (by rw [hss]; exact HB.out.size) _).alloc (by rw [hs2]; have := HB.out.size; omega) _).trans (below_drw _ _))
    have HG2 := Lib.hid (show w.grownBy W2 (some lb) by rw [hW2]; exact grown_trans (grown_trans (grown_trans (grown_setCell w ⟨lb, 0, none⟩ _) (World.grownBy_alloc _ _ _)) (World.grownBy_alloc _ _ _)) (grown_drewN _ _ 1))
    obtain ⟨SB, hSB⟩ : ∃ SB, SB = w.heap.size := ⟨_, rfl⟩
    obtain ⟨PB, hPB⟩ : ∃ PB, PB = SB + 1 := ⟨_, rfl⟩
    rw [← hSB] at hx2 hy2 ⊢
    rw [← hPB] at hy2 ⊢
    have HSL := Lib.hid (show SB ≠ lb ∧ PB ≠ lb ∧ PB ≠ SB by omega)
    have HX2 := Lib.hid hx2
    have HY2 := Lib.hid hy2
    have HL2 := Lib.hid hl2
    have cs0 : W2.cell? ⟨SB, 0, none⟩ = some (.slice sa sn sc) := by rw [cell_of_row W2 SB 0 _ _ _ hx2]; rfl
    have p0 : W2.cell? ⟨PB, 0, none⟩ = some (.int .i64 k) := by rw [cell_of_row W2 PB 0 _ _ _ hy2]; rfl
    have p1 : W2.cell? ⟨PB, 1, none⟩ = some (.int .i64 c) := by rw [cell_of_row W2 PB 1 _ _ _ hy2]; rfl
    have p2 : W2.cell? ⟨PB, 2, none⟩ = some (.int .i64 o) := by rw [cell_of_row W2 PB 2 _ _ _ hy2]; rfl
    have p3 : W2.cell? ⟨PB, 3, none⟩ = some (.bool vu) := by rw [cell_of_row W2 PB 3 _ _ _ hy2]; rfl
    have p4 : W2.cell? ⟨PB, 4, none⟩ = some (.int .i64 vk) := by rw [cell_of_row W2 PB 4 _ _ _ hy2]; rfl
    have p5 : W2.cell? ⟨PB, 5, none⟩ = some (.int .i64 vn) := by rw [cell_of_row W2 PB 5 _ _ _ hy2]; rfl
    have p6 : W2.cell? ⟨PB, 6, none⟩ = some (.slice va vl vc) := by rw [cell_of_row W2 PB 6 _ _ _ hy2]; rfl
    have p7 : W2.cell? ⟨PB, 7, none⟩ = some (.slice ea n ec) := by rw [cell_of_row W2 PB 7 _ _ _ hy2]; rfl
    have dl : W2.cell? ⟨lb, 0, none⟩ = some (.int .i64 (L - (n : Int))) := by rw [cell_of_row W2 lb 0 _ _ _ hl2]; rfl
    clear hW2 hss hs2 hl2 hx2 hy2 hSB hPB c0 c1 f0 llt HL
    have HFIN := Lib.hid (show ∀ w', okS cols (.mk k c o ⟨vu, vk, vn, vb⟩ l) D L = none → Below W2.heap.size W2 w' → ∃ L', Lft w' lb L' ∧ (∀ x, okS cols (.mk k c o ⟨vu, vk, vn, vb⟩ l) D L = some x → L' = x) ∧ w.grownBy w' (some lb) from fun w' hn h =>
      ⟨L - (n : Int), (h.block lb (lft_lt HL2.out)).trans HL2.out, (fun x hx => by rw [hn] at hx; cases hx), grown_trans HG2.out ⟨h.os, h.tape, h.output, h.size, fun i hi _ => h.block i hi⟩⟩)
    by_cases hneg : L - (n : Int) < 0
    · have HN1 := Lib.hid (show okS cols (.mk k c o ⟨vu, vk, vn, vb⟩ l) D L = none by unfold okS; rw [← HN.out, if_pos hneg])
      have hd : decide (L - (n : Int) < 0) = true := by rw [decide_eq_true_eq]; exact hneg
      clear hneg
      go_wp2_with fail
      go_ret
      exact ⟨by rw [HN1.out] <;> rfl, HFIN.out _ HN1.out (Below.refl _ _)⟩
    have hd : decide (L - (n : Int) < 0) = false := by rw [decide_eq_false_iff_not]; exact hneg
    by_cases hD0 : D = 0
    · have HN1 := Lib.hid (show okS cols (.mk k c o ⟨vu, vk, vn, vb⟩ l) D L = none by unfold okS; rw [← HN.out, if_neg hneg, if_pos hD0])
      clear hneg
      subst hD0
      go_wp2_with fail
      go_ret
      exact ⟨by rw [HN1.out] <;> rfl, HFIN.out _ HN1.out (Below.refl _ _)⟩
    have hDb : (D == 0) = false := by rw [beq_eq_false_iff_ne]; exact hD0
    have HC := Lib.hid (shapeOk_any cols _ k c o ⟨vu, vk, vn, vb⟩ _ ea n ec W2 (RdC.kept HV.out HB2.out) (HOK.out.kept HB2.out))
    unfold aggP at HC
    simp only at HC
    cases hsh : shapeB cols k c o ⟨vu, vk, vn, vb⟩ n
    · have HN1 := Lib.hid (show okS cols (.mk k c o ⟨vu, vk, vn, vb⟩ l) D L = none by unfold okS; rw [← HN.out, if_neg hneg, if_neg hD0, hsh]; rfl)
      rw [hsh] at HC
      clear hsh hneg hD0
      go_wp2_with fail
      refine HC.out.mono ?_
      rintro e W3 ⟨rfl, hb3⟩
      have HF := Lib.hid (HFIN.out _ HN1.out hb3)
      clear hb3 cs0 p0 p1 p2 p3 p4 p5 p6 p7 dl
      go_wp2_with fail
      go_ret
      exact ⟨by rw [HN1.out] <;> rfl, HF.out⟩
    have HEQ := Lib.hid (show okS cols (.mk k c o ⟨vu, vk, vn, vb⟩ l) D L = okSl cols l (D - 1) (L - (n : Int)) by
      unfold okS
      rw [← HN.out, if_neg hneg, if_neg hD0, hsh, if_pos rfl])
    rw [hsh] at HC
    have hD1 : (1 : Int) ≤ D := by omega
    have hLn : 0 ≤ L - (n : Int) ∧ L - (n : Int) ≤ 1000000 := by omega
    have HLN := Lib.hid hLn
    clear hsh hneg hD0 HFIN hLn
    go_wp2_with fail
    refine HC.out.mono ?_
    rintro e W3 ⟨rfl, hb3⟩
    have hx3 := (hb3.block SB (Array.getElem?_eq_some_iff.1 HX2.out).1).trans HX2.out
    have hy3 := (hb3.block PB (Array.getElem?_eq_some_iff.1 HY2.out).1).trans HY2.out
    have hl3 : Lft W3 lb (L - (n : Int)) := (hb3.block lb (lft_lt HL2.out)).trans HL2.out
    have HX3 := Lib.hid hx3
    have HL3 := Lib.hid hl3
    have HB3 := Lib.hid (HB2.out.trans (hb3.mono HB2.out.size))
    have HG3 := Lib.hid (grown_trans HG2.out (show W2.grownBy W3 (some lb) from ⟨hb3.os, hb3.tape, hb3.output, hb3.size, fun i hi _ => hb3.block i hi⟩))
    clear cs0 p0 p1 p2 p3 p4 p5 p6 p7 dl HX2 HY2 HL2 HB2 HG2 HC hb3
    have p7 : W3.cell? ⟨PB, 7, none⟩ = some (.slice ea n ec) := by rw [cell_of_row W3 PB 7 _ _ _ hy3]; rfl
    clear hx3 hy3 hl3
    go_wp2_with fail
    clear p7
    go_loopw [36] (fun i wr => ∃ q : Nat, ∃ L1, q ≤ n ∧ i = .int .i64 (q : Int) ∧ okSl cols (l.take q) (D - 1) (L - (n : Int)) = some L1 ∧ Lft wr lb L1 ∧ W3.grownBy wr (some lb)) (fun i _ => n - (intOf i).toNat)
    case atStart => exact ⟨0, L - (n : Int), Nat.zero_le _, rfl, by rw [List.take_zero, okSl], HL3.out, World.grownBy_refl' _ _⟩
    case round =>
      obtain ⟨q, L1, hq, rfl, hok1, hlf, hg⟩ := hrel
      have HOK1 := Lib.hid hok1
      have HLF := Lib.hid hlf
      have HG := Lib.hid hg
      have HBR := Lib.hid (HB3.out.grown hg HB3.out.size (fun k e => by cases e; exact hlb))
      have hxr := (hg.block SB (Array.getElem?_eq_some_iff.1 HX3.out).1 (fun e => by cases e; exact HSL.out.1 rfl)).trans HX3.out
      have csr : wr.cell? ⟨SB, 0, none⟩ = some (.slice sa sn sc) := by rw [cell_of_row wr SB 0 _ _ _ hxr]; rfl
      replace csr := fun o => Lib.cell?_alloc_some (W := wr) o csr
      clear hok1 hlf hg hxr
      by_cases hlt : q < n
      · obtain ⟨p, hp⟩ : ∃ p, l[q]? = some p := ⟨_, List.getElem?_eq_getElem (by rw [← HN.out]; exact hlt)⟩
        obtain ⟨cs, hcs, hrd⟩ := rdTs_at HTS.out hp
        have HRD := Lib.hid hrd
        have HP := Lib.hid (HIH.out q p hp)
        have HPQ := Lib.hid hp
        have HND1 := Lib.hid (nodesL_mem hp)
        have HL1 : Hid (0 ≤ L1 ∧ L1 ≤ 1000000) := Lib.hid (by
          have h1 := okSl_eq cols (l.take q) (D - 1) (L - (n : Int)) (by omega) HLN.out.1
          rw [HOK1.out] at h1
          split at h1
          · have := Option.some.inj h1
            have := HLN.out
            omega
          · cases h1)
        clear hp
        obtain ⟨x, hx⟩ : ∃ x, x = okS cols p (D - 1) L1 := ⟨_, rfl⟩
        have HX := Lib.hid hx
        have HEV : ∀ w', Below w0.heap.size w0 w' → Lft w' lb L1 → Hid (Calls Try.prog 59 #[.agg #[.slice sa sn sc], .agg cs.toArray, .int .i64 (D - 1), .pointer (some ⟨lb, 0, none⟩)] w' fun e w'' => e = .returned (.bool x.isSome) ∧ ∃ L', Lft w'' lb L' ∧ (∀ y, x = some y → L' = y) ∧ w'.grownBy w'' (some lb)) := by
          intro w' h1 h2
          rw [hx]
          exact Lib.hid (HP.out cs (D - 1) L1 w0 w' lb HRD.out HV.out hlb h1 h2 (by omega) (by omega) HL1.out.1 HL1.out.2 (by have := HND.out; have := HND1.out; omega))
        clear hx HP
        obtain ⟨pk, pc, po, pv, pl⟩ := p
        unfold RdT1 at hrd
        obtain ⟨es, els, ecss, rfl, hok, hels, hets⟩ := hrd
        obtain ⟨sa2, sc2, hes⟩ := rd_shape8 hok.1
        obtain ⟨ea2, ec2, hel⟩ := rdS_shape hels
        simp only at hes
        subst hes hel
        obtain ⟨b, off, rfl, hcell⟩ := (HLS.out.kept HBR.out).at hcs
        have k0 := hcell 0 _ rfl
        have k1 := hcell 1 _ rfl
        have k2 := hcell 2 _ rfl
        have k3 := hcell 3 _ rfl
        have k4 := hcell 4 _ rfl
        have k5 := hcell 5 _ rfl
        have k6 := hcell 6 _ rfl
        have k7 := hcell 7 _ rfl
        simp only [Nat.add_zero] at k0
        obtain ⟨pu, pvk, pvn, pb⟩ := pv
        unfold cellsP at HEV
        simp only at HEV k0 k1 k2 k3 k4 k5 k6 k7
        clear hok hels hets hcell hcs
        have HCALL := fun o => HEV (wr.alloc o) (HBR.out.alloc HBR.out.size o) (lft_alloc HLF.out o)
        clear HEV
        cases x with
        | none =>
          have HA := Lib.hid (show okS cols (.mk k c o ⟨vu, vk, vn, vb⟩ l) D L = none from HEQ.out.trans (okSl_fail HPQ.out HOK1.out HX.out.symm))
          go_wp2_with fail
          refine (HCALL _).out.mono ?_
          rintro e w2 ⟨rfl, L2, d3, _, d4⟩
          have HF := Lib.hid (show Lft w2 lb L2 ∧ w.grownBy w2 (some lb) from ⟨d3, grown_trans (grown_trans (grown_trans HG3.out HG.out) (World.grownBy_alloc wr _ _)) d4⟩)
          clear d3 d4
          go_wp2_with fail
          go_ret
          exact ⟨by rw [HA.out] <;> rfl, L2, HF.out.1, (fun y hy => by rw [HA.out] at hy; cases hy), HF.out.2⟩
        | some L9 =>
          go_wp2_with fail
          refine (HCALL _).out.mono ?_
          rintro e w2 ⟨rfl, L2, d3, d5, d4⟩
          have hL29 := d5 L9 rfl
          subst hL29
          have HF := Lib.hid (show okSl cols (l.take (q + 1)) (D - 1) (L - (n : Int)) = some L2 ∧ Lft w2 lb L2 ∧ W3.grownBy w2 (some lb) from ⟨okSl_next HPQ.out HOK1.out HX.out.symm, d3, grown_trans (grown_trans HG.out (World.grownBy_alloc wr _ _)) d4⟩)
          clear d3 d4 d5
          go_wp2_with fail
          go_roundw
          case rel => exact ⟨q + 1, L2, by omega, by go_num, HF.out⟩
          case measure => simp [intOf]; omega
      · have hqn : q = n := by omega
        have htk : l.take q = l := List.take_of_length_le (by rw [← HN.out]; omega)
        have HA := Lib.hid (show okS cols (.mk k c o ⟨vu, vk, vn, vb⟩ l) D L = some L1 by
          have h1 := HOK1.out
          rw [htk] at h1
          exact HEQ.out.trans h1)
        have HF := Lib.hid (show Lft wr lb L1 ∧ w.grownBy wr (some lb) from ⟨HLF.out, grown_trans HG3.out HG.out⟩)
        clear htk hqn
        go_wp2_with fail
        go_ret
        exact ⟨by rw [HA.out] <;> rfl, L1, HF.out.1, (fun y hy => by rw [HA.out] at hy; exact Option.some.inj hy), HF.out.2⟩

set_option maxRecDepth 100000 in
set_option maxHeartbeats 8000000 in
/-- Whether a predicate is one. -/
theorem predOk_any (cols : List Co) (sv : Value) (cs : List Value) (p : Pt) (w : World) (hv : RdC w sv cols) (hp : RdT1 w p cs) (hn : nodesT p ≤ 1000000) :
    Calls Try.prog 19 #[.agg #[sv], .agg cs.toArray] w fun e w' => e = .returned (.bool (predOkB cols p)) ∧ Below w.heap.size w w' := by
  have HO := Lib.hid (ok_ok cols sv _ p (Nat.le_refl _))
  have HP := Lib.hid hp
  have HV := Lib.hid hv
  have HR := Lib.hid (okS_start cols p)
  obtain ⟨r, hr⟩ : ∃ r, r = predOkB cols p := ⟨_, rfl⟩
  rw [← hr] at HR ⊢
  obtain ⟨k, c, o, v, l⟩ := p
  unfold RdT1 at hp
  obtain ⟨s, ls, css, rfl, hok, hls, hts⟩ := hp
  obtain ⟨va, vc, hes⟩ := rd_shape8 hok.1
  obtain ⟨ea, ec, hel⟩ := rdS_shape hls
  obtain ⟨sa, sc, hsv⟩ := rdC_shape hv
  simp only at hes
  subst hes hel hsv
  obtain ⟨sn, hsn⟩ : ∃ sn, sn = cols.length := ⟨_, rfl⟩
  rw [← hsn] at HV HO ⊢
  clear hok hls hts hv hr hsn
  obtain ⟨vu, vk, vn, vb⟩ := v
  obtain ⟨vl, hvl⟩ : ∃ vl, vl = vb.length := ⟨_, rfl⟩
  obtain ⟨n, hnn⟩ : ∃ n, n = css.length := ⟨_, rfl⟩
  unfold cellsP at HP ⊢
  simp only at HP ⊢
  rw [← hvl, ← hnn] at HP ⊢
  clear hvl hnn
  have hsz : ((w.alloc (.cells #[.slice sa sn sc] 24)).alloc (.cells #[.int .i64 k, .int .i64 c, .int .i64 o, .bool vu, .int .i64 vk, .int .i64 vn, .slice va vl vc, .slice ea n ec] 31)).heap.size = w.heap.size + 1 + 1 := by simp
  have hz := heap_alloc_new ((w.alloc (.cells #[.slice sa sn sc] 24)).alloc (.cells #[.int .i64 k, .int .i64 c, .int .i64 o, .bool vu, .int .i64 vk, .int .i64 vn, .slice va vl vc, .slice ea n ec] 31)) (.cells #[.int .i64 63] 3)
  rw [hsz] at hz
  have hb3 : Below w.heap.size w (((w.alloc (.cells #[.slice sa sn sc] 24)).alloc (.cells #[.int .i64 k, .int .i64 c, .int .i64 o, .bool vu, .int .i64 vk, .int .i64 vn, .slice va vl vc, .slice ea n ec] 31)).alloc (.cells #[.int .i64 63] 3)) := below_lay (below2 w _ _) _
  have HB3 := Lib.hid hb3
  have HC := Lib.hid (HO.out _ 5 63 w _ (w.heap.size + 1 + 1) HP.out HV.out (by omega) hb3 hz (by decide) (by decide) (by decide) (by decide) hn)
  rw [HR.out] at HC
  clear hz hb3 hsz
  go_enter Try.func19, Try.ntmps19
  go_wp2_with fail
  refine HC.out.mono ?_
  rintro e w3 ⟨rfl, L3, g1, g2, g4⟩
  have HF := Lib.hid (show Below w.heap.size w w3 from HB3.out.grown g4 HB3.out.size (fun k e => by cases e; omega))
  clear g1 g2 g4
  go_wp2_with fail
  go_ret
  exact ⟨rfl, HF.out⟩

end Go.Proofs.Ytfmkalnnpddefaa
