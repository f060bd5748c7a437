/-
  Contracts of pred's cmpOk, shapeOk.
-/
import Derived.Test.YtfmkalnnpddefaaPoka
import Derived.Test.YtfmkalnnpddefaaAppk
namespace Go.Proofs.Ytfmkalnnpddefaa
set_option linter.unusedVariables false
set_option linter.unusedSimpArgs false
open Go.RowKit

set_option maxRecDepth 100000 in
set_option maxHeartbeats 8000000 in
theorem cmpOk_any (cols : List Co) (sv : Value) (k c o : Int) (v : Vc) (s ls : Value) (w : World) (hv : RdC w sv cols) (hok : OkV w (v, s)) :
    Calls Try.prog 159 #[.agg #[sv], aggP k c o v s ls] w fun e w' => e = .returned (.bool (cmpOkB cols c o v)) ∧ Below w.heap.size w w' := by
  obtain ⟨sa, sc, rfl⟩ := rdC_shape hv
  obtain ⟨va, vc, hes⟩ := rd_shape8 hok.1
  simp only at hes
  subst hes
  have HOK := Lib.hid hok
  obtain ⟨vu, vk, vn, vb⟩ := v
  obtain ⟨sn, hsn⟩ : ∃ sn, sn = cols.length := ⟨_, rfl⟩
  obtain ⟨vl, hvl⟩ : ∃ vl, vl = vb.length := ⟨_, rfl⟩
  unfold aggP
  simp only at HOK ⊢
  rw [← hsn] at hv ⊢
  rw [← hvl] at HOK ⊢
  have HV := Lib.hid hv
  have HSN := Lib.hid hsn
  clear hok hv hsn hvl
  have HB0 := Lib.hid (below2 w (.cells #[.slice sa sn sc] 24) (.cells #[.int .i64 k, .int .i64 c, .int .i64 o, .bool vu, .int .i64 vk, .int .i64 vn, .slice va vl vc, ls] 31))
  have HX0 := Lib.hid ((heap_alloc_old (w.alloc (.cells #[.slice sa sn sc] 24)) (.cells #[.int .i64 k, .int .i64 c, .int .i64 o, .bool vu, .int .i64 vk, .int .i64 vn, .slice va vl vc, ls] 31) (r := w.heap.size) (by simp)).trans (heap_alloc_new w _))
  have HY0 := Lib.hid (heap2 w (.cells #[.slice sa sn sc] 24) (.cells #[.int .i64 k, .int .i64 c, .int .i64 o, .bool vu, .int .i64 vk, .int .i64 vn, .slice va vl vc, ls] 31))
  go_enter Try.func159, Try.ntmps159
  go_upto_region 1 with (fail)
  obtain ⟨W, hW⟩ : ∃ W : World, W = (w.alloc (.cells #[.slice sa sn sc] 24)).alloc (.cells #[.int .i64 k, .int .i64 c, .int .i64 o, .bool vu, .int .i64 vk, .int .i64 vn, .slice va vl vc, ls] 31) := ⟨_, rfl⟩
  rw [← hW] at HB0 HX0 HY0 ⊢
  obtain ⟨SB, hA⟩ : ∃ SB, SB = w.heap.size := ⟨_, rfl⟩
  rw [← hA] at HX0 HY0 ⊢
  obtain ⟨PB, hB⟩ : ∃ PB, PB = SB + 1 := ⟨_, rfl⟩
  rw [← hB] at HY0 ⊢
  have HAB := Lib.hid (show PB ≠ SB by omega)
  clear hW hA hB
  have HVW := Lib.hid (RdC.kept HV.out HB0.out)
  have HC := Lib.hid (isCol_any cols _ c W HVW.out)
  have cs0 : W.cell? ⟨SB, 0, none⟩ = some (.slice sa sn sc) := by rw [cell_of_row W SB 0 _ _ _ HX0.out]; rfl
  have p0 : W.cell? ⟨PB, 0, none⟩ = some (.int .i64 k) := by rw [cell_of_row W PB 0 _ _ _ HY0.out]; rfl
  have p1 : W.cell? ⟨PB, 1, none⟩ = some (.int .i64 c) := by rw [cell_of_row W PB 1 _ _ _ HY0.out]; rfl
  have p2 : W.cell? ⟨PB, 2, none⟩ = some (.int .i64 o) := by rw [cell_of_row W PB 2 _ _ _ HY0.out]; rfl
  have p3 : W.cell? ⟨PB, 3, none⟩ = some (.bool vu) := by rw [cell_of_row W PB 3 _ _ _ HY0.out]; rfl
  have p4 : W.cell? ⟨PB, 4, none⟩ = some (.int .i64 vk) := by rw [cell_of_row W PB 4 _ _ _ HY0.out]; rfl
  have p5 : W.cell? ⟨PB, 5, none⟩ = some (.int .i64 vn) := by rw [cell_of_row W PB 5 _ _ _ HY0.out]; rfl
  have p6 : W.cell? ⟨PB, 6, none⟩ = some (.slice va vl vc) := by rw [cell_of_row W PB 6 _ _ _ HY0.out]; rfl
  have p7 : W.cell? ⟨PB, 7, none⟩ = some (ls) := by rw [cell_of_row W PB 7 _ _ _ HY0.out]; rfl
  by_cases hcol : isColB cols c = true
  · rw [hcol] at HC
    have hq : ∃ q : Nat, c = (q : Int) ∧ q < cols.length := by
      unfold isColB at hcol
      rw [Bool.and_eq_true, decide_eq_true_eq, decide_eq_true_eq] at hcol
      exact ⟨c.toNat, by omega, by omega⟩
    obtain ⟨q, rfl, hq⟩ := hq
    obtain ⟨co, hco⟩ : ∃ co, cols[q]? = some co := ⟨_, List.getElem?_eq_getElem hq⟩
    have HA := Lib.hid (show cmpOkB cols (q : Int) o ⟨vu, vk, vn, vb⟩ = (decide (1 ≤ o) && decide (o ≤ 6) && fitsT ⟨.empty, co.k, false⟩ ⟨vu, vk, vn, vb⟩) by
      unfold cmpOkB
      rw [if_neg (by omega), show ((q : Int)).toNat = q by omega, hco])
    have hqi : (q : Int) < (sn : Int) := by have := HSN.out; omega
    have hqn : q < sn := by have := HSN.out; omega
    clear hcol hq
    have ho1 : decide (o < 1) = !decide (1 ≤ o) := by rw [← decide_not]; exact decide_eq_decide.2 (by omega)
    have ho2 : decide (6 < o) = !decide (o ≤ 6) := by rw [← decide_not]; exact decide_eq_decide.2 (by omega)
    have HO1 := Lib.hid ho1
    have HO2 := Lib.hid ho2
    clear ho1 ho2
    go_wp2_with fail
    refine HC.out.mono ?_
    rintro e W2 ⟨rfl, hb2⟩
    have HX1 := Lib.hid ((hb2.block SB (Array.getElem?_eq_some_iff.1 HX0.out).1).trans HX0.out)
    have HY1 := Lib.hid ((hb2.block PB (Array.getElem?_eq_some_iff.1 HY0.out).1).trans HY0.out)
    have HB1 := Lib.hid (below_then HB0.out hb2)
    clear hb2 cs0 p0 p1 p2 p3 p4 p5 p6 p7
    have cs0 : W2.cell? ⟨SB, 0, none⟩ = some (.slice sa sn sc) := by rw [cell_of_row W2 SB 0 _ _ _ HX1.out]; rfl
    have p0 : W2.cell? ⟨PB, 0, none⟩ = some (.int .i64 k) := by rw [cell_of_row W2 PB 0 _ _ _ HY1.out]; rfl
    have p1 : W2.cell? ⟨PB, 1, none⟩ = some (.int .i64 (q : Int)) := by rw [cell_of_row W2 PB 1 _ _ _ HY1.out]; rfl
    have p2 : W2.cell? ⟨PB, 2, none⟩ = some (.int .i64 o) := by rw [cell_of_row W2 PB 2 _ _ _ HY1.out]; rfl
    have p3 : W2.cell? ⟨PB, 3, none⟩ = some (.bool vu) := by rw [cell_of_row W2 PB 3 _ _ _ HY1.out]; rfl
    have p4 : W2.cell? ⟨PB, 4, none⟩ = some (.int .i64 vk) := by rw [cell_of_row W2 PB 4 _ _ _ HY1.out]; rfl
    have p5 : W2.cell? ⟨PB, 5, none⟩ = some (.int .i64 vn) := by rw [cell_of_row W2 PB 5 _ _ _ HY1.out]; rfl
    have p6 : W2.cell? ⟨PB, 6, none⟩ = some (.slice va vl vc) := by rw [cell_of_row W2 PB 6 _ _ _ HY1.out]; rfl
    have p7 : W2.cell? ⟨PB, 7, none⟩ = some (ls) := by rw [cell_of_row W2 PB 7 _ _ _ HY1.out]; rfl
    cases hp1 : decide (1 ≤ o)
    · have hlt : decide (o < 1) = true := by rw [HO1.out, hp1]; rfl
      have HR := Lib.hid (show cmpOkB cols (q : Int) o ⟨vu, vk, vn, vb⟩ = false by rw [HA.out, hp1]; rfl)
      clear hp1
      go_wp2_with fail
      go_ret
      exact ⟨by rw [HR.out] <;> rfl, HB1.out⟩
    · have hlt : decide (o < 1) = false := by rw [HO1.out, hp1]; rfl
      cases hp2 : decide (o ≤ 6)
      · have hlt2 : decide (6 < o) = true := by rw [HO2.out, hp2]; rfl
        have HR := Lib.hid (show cmpOkB cols (q : Int) o ⟨vu, vk, vn, vb⟩ = false by rw [HA.out, hp1, hp2]; rfl)
        clear hp1 hp2
        go_wp2_with fail
        go_ret
        exact ⟨by rw [HR.out] <;> rfl, HB1.out⟩
      · have hlt2 : decide (6 < o) = false := by rw [HO2.out, hp2]; rfl
        have HR := Lib.hid (show cmpOkB cols (q : Int) o ⟨vu, vk, vn, vb⟩ = fitsT ⟨.empty, co.k, false⟩ ⟨vu, vk, vn, vb⟩ by rw [HA.out, hp1, hp2]; rfl)
        clear hp1 hp2
        obtain ⟨b1, f1, hsa, k0, k1, k2⟩ := (RdC.kept HV.out HB1.out).at hco
        subst hsa
        clear k0 k2 hco
        go_upto_region 4 with (fail)
        clear k1
        have HB3 := Lib.hid (below_lay HB1.out (.cells #[.string ⟨#[]⟩, .int .i64 co.k, .bool false] 102))
        have hx3 := (heap_alloc_old W2 (.cells #[.string ⟨#[]⟩, .int .i64 co.k, .bool false] 102) (Array.getElem?_eq_some_iff.1 HX1.out).1).trans HX1.out
        have hy3 := (heap_alloc_old W2 (.cells #[.string ⟨#[]⟩, .int .i64 co.k, .bool false] 102) (Array.getElem?_eq_some_iff.1 HY1.out).1).trans HY1.out
        have hz3 := heap_alloc_new W2 (.cells #[.string ⟨#[]⟩, .int .i64 co.k, .bool false] 102)
        obtain ⟨CB, hCB⟩ : ∃ CB, CB = W2.heap.size := ⟨_, rfl⟩
        obtain ⟨W3, hW3⟩ : ∃ W3 : World, W3 = W2.alloc (.cells #[.string ⟨#[]⟩, .int .i64 co.k, .bool false] 102) := ⟨_, rfl⟩
        rw [← hW3] at HB3 hx3 hy3 hz3 ⊢
        rw [← hCB] at hz3 ⊢
        clear hW3 hCB cs0 p0 p1 p2 p3 p4 p5 p6 p7
        have cs0 : W3.cell? ⟨SB, 0, none⟩ = some (.slice (some ⟨b1, f1, none⟩) sn sc) := by rw [cell_of_row W3 SB 0 _ _ _ hx3]; rfl
        have p0 : W3.cell? ⟨PB, 0, none⟩ = some (.int .i64 k) := by rw [cell_of_row W3 PB 0 _ _ _ hy3]; rfl
        have p1 : W3.cell? ⟨PB, 1, none⟩ = some (.int .i64 (q : Int)) := by rw [cell_of_row W3 PB 1 _ _ _ hy3]; rfl
        have p2 : W3.cell? ⟨PB, 2, none⟩ = some (.int .i64 o) := by rw [cell_of_row W3 PB 2 _ _ _ hy3]; rfl
        have p3 : W3.cell? ⟨PB, 3, none⟩ = some (.bool vu) := by rw [cell_of_row W3 PB 3 _ _ _ hy3]; rfl
        have p4 : W3.cell? ⟨PB, 4, none⟩ = some (.int .i64 vk) := by rw [cell_of_row W3 PB 4 _ _ _ hy3]; rfl
        have p5 : W3.cell? ⟨PB, 5, none⟩ = some (.int .i64 vn) := by rw [cell_of_row W3 PB 5 _ _ _ hy3]; rfl
        have p6 : W3.cell? ⟨PB, 6, none⟩ = some (.slice va vl vc) := by rw [cell_of_row W3 PB 6 _ _ _ hy3]; rfl
        have p7 : W3.cell? ⟨PB, 7, none⟩ = some (ls) := by rw [cell_of_row W3 PB 7 _ _ _ hy3]; rfl
        have z0 : W3.cell? ⟨CB, 0, none⟩ = some (.string ⟨#[]⟩) := by rw [cell_of_row W3 CB 0 _ _ _ hz3]; rfl
        have z1 : W3.cell? ⟨CB, 1, none⟩ = some (.int .i64 co.k) := by rw [cell_of_row W3 CB 1 _ _ _ hz3]; rfl
        have z2 : W3.cell? ⟨CB, 2, none⟩ = some (.bool false) := by rw [cell_of_row W3 CB 2 _ _ _ hz3]; rfl
        clear hx3 hy3 hz3
        replace p3 := fun o => Lib.cell?_alloc_some (W := W3) o p3
        replace p4 := fun o => Lib.cell?_alloc_some (W := W3) o p4
        replace p5 := fun o => Lib.cell?_alloc_some (W := W3) o p5
        replace p6 := fun o => Lib.cell?_alloc_some (W := W3) o p6
        have hrc : RdC ((W3.alloc (.cells #[.string ⟨#[]⟩, .int .i64 co.k, .bool false] 102)).alloc (.cells #[.bool vu, .int .i64 vk, .int .i64 vn, .slice va vl vc] 28)) (.slice (some ⟨W3.heap.size, 0, none⟩) 1 1) [⟨⟨#[]⟩, co.k, false⟩] := (rdS_lit W3 #[.string ⟨#[]⟩, .int .i64 co.k, .bool false] _ 3 rfl).kept (below_alloc _ _)
        have hb5 : Below w.heap.size w ((W3.alloc (.cells #[.string ⟨#[]⟩, .int .i64 co.k, .bool false] 102)).alloc (.cells #[.bool vu, .int .i64 vk, .int .i64 vn, .slice va vl vc] 28)) := below_lay (below_lay HB3.out _) _
        have hrv : RdRow ((W3.alloc (.cells #[.string ⟨#[]⟩, .int .i64 co.k, .bool false] 102)).alloc (.cells #[.bool vu, .int .i64 vk, .int .i64 vn, .slice va vl vc] 28)) (.slice (some ⟨W3.heap.size + 1, 0, none⟩) 1 1) [⟨vu, vk, vn, vb⟩] := by
          have h := rdS_lit (W3.alloc (.cells #[.string ⟨#[]⟩, .int .i64 co.k, .bool false] 102)) #[.bool vu, .int .i64 vk, .int .i64 vn, .slice va vl vc] 28 4 rfl
          rw [show (W3.alloc (.cells #[.string ⟨#[]⟩, .int .i64 co.k, .bool false] 102)).heap.size = W3.heap.size + 1 by simp] at h
          exact ⟨[(⟨vu, vk, vn, vb⟩, .slice va vl vc)], rfl, h, fun t ht => by rw [List.mem_singleton.1 ht]; exact HOK.out.kept hb5⟩
        have HFC := Lib.hid (fitsRow_any _ _ _ _ _ hrc hrv (by simp) (by simp))
        have HB5 := Lib.hid hb5
        clear hrc hrv hb5
        go_wp2_with fail
        refine HFC.out.mono ?_
        rintro e W5 ⟨rfl, hb6⟩
        have HB6 := Lib.hid (below_then HB5.out hb6)
        have HE := Lib.hid (show fitsR [⟨⟨#[]⟩, co.k, false⟩] [⟨vu, vk, vn, vb⟩] = fitsT ⟨.empty, co.k, false⟩ ⟨vu, vk, vn, vb⟩ by unfold fitsR; rw [fitsR, Bool.and_true]; rfl)
        obtain ⟨r, hr⟩ : ∃ r, r = fitsR [⟨⟨#[]⟩, co.k, false⟩] [⟨vu, vk, vn, vb⟩] := ⟨_, rfl⟩
        rw [← hr] at HE ⊢
        clear hb6 hr
        go_wp2_with fail
        go_ret
        exact ⟨by rw [HR.out, ← HE.out] <;> rfl, HB6.out⟩
  · have hc2 : isColB cols c = false := by simpa using hcol
    rw [hc2] at HC
    have HA := Lib.hid (show cmpOkB cols c o ⟨vu, vk, vn, vb⟩ = false by
      unfold isColB at hc2
      unfold cmpOkB
      by_cases h : c < 0
      · rw [if_pos h]
      · rw [if_neg h]
        rw [decide_eq_true (show 0 ≤ c by omega), Bool.true_and, decide_eq_false_iff_not] at hc2
        rw [List.getElem?_eq_none (by omega)])
    clear hcol hc2
    go_wp2_with fail
    refine HC.out.mono ?_
    rintro e W2 ⟨rfl, hb2⟩
    have HB1 := Lib.hid (below_then HB0.out hb2)
    clear hb2 cs0 p0 p1 p2 p3 p4 p5 p6 p7
    go_wp2_with fail
    go_ret
    exact ⟨by rw [HA.out] <;> rfl, HB1.out⟩

end Go.Proofs.Ytfmkalnnpddefaa
