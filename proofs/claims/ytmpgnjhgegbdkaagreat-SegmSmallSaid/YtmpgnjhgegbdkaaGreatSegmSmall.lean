/-
  The walk of SegmSmall.
-/
import Derived.Test.YtmpgnjhgegbdkaaGreatSgaw
import Derived.Test.YtmpgnjhgegbdkaaGreatSgsm
namespace Go.Proofs.YtmpgnjhgegbdkaaGreat
set_option linter.unusedVariables false
set_option linter.unusedSimpArgs false
open Go.RowKit

set_option maxRecDepth 100000 in
set_option maxHeartbeats 8000000 in
theorem walk_SegmSmall (a0 a1 : Int) (w : World) (w0 : (Lit.int .i64 a0).wf = true) (w1 : (Lit.int .i64 a1).wf = true) :
    Calls Tryz.prog 4 #[.int .i64 a0, .int .i64 a1] w fun e w' => e = .returned (.bool true) ∧ Below w.heap.size w w' := by
  have HV64 := Lib.hid (show I64 a1 from by
    have h1 : IntKind.i64.min = -9223372036854775808 := rfl
    have h2 : IntKind.i64.max = 9223372036854775807 := rfl
    simp only [Lit.wf, Bool.and_eq_true, decide_eq_true_eq] at w1
    unfold I64
    omega)
  clear w0 w1
  have HAW := Lib.hid zOy
  obtain ⟨c, hcn, hc31⟩ : ∃ c : Nat, bits .and .i64 a0 31 = (c : Int) ∧ c ≤ 31 := ⟨(a0 % 32).toNat, by rw [zEj a0 5 (by decide) 31 rfl]; omega, by omega⟩
  obtain ⟨n, hn⟩ : ∃ n, n = c + 30 := ⟨_, rfl⟩
  have hadd : IntKind.i64.wrap ((c : Int) + 30) = (n : Int) := by rw [IntWalk.i64_in _ (by omega)]; omega
  have HNC := Lib.hid hn
  have hn61 : n ≤ 61 := by omega
  have hn30 : 30 ≤ n := by omega
  clear hn
  go_enter Tryz.func4, Tryz.ntmps4
  go_upto_region 2 with (fail)
  obtain ⟨W, hW⟩ : ∃ W : World, W = (w.alloc (.cells #[.string ⟨#[107, 101, 121]⟩, .int .i64 1, .bool false, .string ⟨#[97]⟩, .int .i64 1, .bool false, .string ⟨#[98]⟩, .int .i64 2, .bool true] 46)).alloc (.cells #[.slice (some ⟨w.heap.size, 0, none⟩) 3 3] 24) := ⟨_, rfl⟩
  rw [← hW]
  have h0 : W.heap[w.heap.size]? = some (.cells #[.string ⟨#[107, 101, 121]⟩, .int .i64 1, .bool false, .string ⟨#[97]⟩, .int .i64 1, .bool false, .string ⟨#[98]⟩, .int .i64 2, .bool true] 46 (0, 0)) := by rw [hW]; exact (heap_alloc_old _ _ (by simp)).trans (zFr w _ _ rfl)
  have h1 : W.heap[w.heap.size + 1]? = some (.cells #[.slice (some ⟨w.heap.size, 0, none⟩) 3 3] 24 (0, 0)) := by rw [hW]; exact zFr _ _ _ (by simp)
  have HB0 := Lib.hid (show Below w.heap.size w W by rw [hW]; exact zAa (zAd w _) (zAd _ _))
  obtain ⟨b0, hb0⟩ : ∃ b0, b0 = w.heap.size := ⟨_, rfl⟩
  rw [← hb0] at h0 h1 ⊢
  obtain ⟨SB, hSB⟩ : ∃ SB, SB = b0 + 1 := ⟨_, rfl⟩
  rw [← hSB] at h1 ⊢
  have HSV := Lib.hid (show RdC W (.slice (some ⟨b0, 0, none⟩) 3 3) smC from zLm h0 _ rfl (by intro t ht; simp only [smC, List.map_cons, List.map_nil, List.mem_cons, List.not_mem_nil, or_false] at ht; rcases ht with rfl | rfl | rfl <;> rfl) 3 rfl)
  have HSBX := Lib.hid h1
  have HSBL := Lib.hid (show SB < W.heap.size from (Array.getElem?_eq_some_iff.1 h1).1)
  have HBW := Lib.hid hb0
  clear hW h0 h1 hb0 hSB
  go_wp2_with fail
  go_loopw [6, 7] (fun o i wr => ∃ (q : Nat) (sls : List Value) (L : List (List (Vc × Value))) (ao : Option Addr) (cap : Nat), q ≤ n ∧ i = .int .i64 (q : Int) ∧ o = .slice ao q cap ∧ L.length = q ∧ L.map (fun l => l.map Prod.fst) = rowsS a1 q ∧ RowsB W.heap.size wr (.slice ao q cap) sls L ∧ Below W.heap.size W wr) (fun _ i _ => n - (intOf i).toNat)
  case atStart => exact ⟨0, [], [], none, 0, Nat.zero_le _, rfl, rfl, rfl, rfl, zSz _ _, Below.refl _ _⟩
  case round =>
    obtain ⟨q, sls, L, ao, cap, hq, rfl, rfl, hll, hlm, hrb, hb⟩ := hrel
    have HLL := Lib.hid hll
    have HLM := Lib.hid hlm
    have HRB := Lib.hid hrb
    have HB := Lib.hid hb
    have hsb := (hb.block SB HSBL.out).trans HSBX.out
    have cs0 : wr.cell? ⟨SB, 0, none⟩ = some (.slice (some ⟨b0, 0, none⟩) 3 3) := by rw [cell_of_row wr SB 0 _ _ _ hsb]; rfl
    clear hll hlm hrb hb hsb
    by_cases hlt : q < n
    · have hlti : (q : Int) < (n : Int) := by omega
      rcases Nat.mod_two_eq_zero_or_one q with hq2 | hq2
      · have hbit : bits .and .i64 (q : Int) 1 = 0 := by rw [zEj (q : Int) 1 (by decide) 1 rfl]; omega
        have hwq : wordS q = [110, 111, 114, 116, 104] := by unfold wordS; rw [if_pos hq2]
        have cW : (wr.alloc (.cells #[.string ⟨#[110, 111, 114, 116, 104]⟩, .string ⟨#[115, 111, 117, 116, 104]⟩] 9)).cell? ⟨wr.heap.size, 0, none⟩ = some (.string ⟨#[110, 111, 114, 116, 104]⟩) := by rw [cell_of_row _ wr.heap.size 0 _ _ _ (heap_alloc_new wr _)]; rfl
        obtain ⟨ucap, w2, hcv, hur, hub, hus⟩ := conv_word (wr.alloc (.cells #[.string ⟨#[110, 111, 114, 116, 104]⟩, .string ⟨#[115, 111, 117, 116, 104]⟩] 9)) ⟨#[110, 111, 114, 116, 104]⟩ [110, 111, 114, 116, 104] rfl
        simp only [List.length_cons, List.length_nil, Nat.zero_add] at hcv hur
        obtain ⟨g1, hg1⟩ : ∃ g1, g1 = (wr.alloc (.cells #[.string ⟨#[110, 111, 114, 116, 104]⟩, .string ⟨#[115, 111, 117, 116, 104]⟩] 9)).heap.size := ⟨_, rfl⟩
        rw [← hg1] at hcv hur hus
        have hg1r : g1 = wr.heap.size + 1 := by rw [hg1]; simp
        have hba := zAd wr (.cells #[.string ⟨#[110, 111, 114, 116, 104]⟩, .string ⟨#[115, 111, 117, 116, 104]⟩] 9)
        have HB3 := Lib.hid (show Below wr.heap.size wr (w2.alloc (.cells #[.bool false, .int .i64 1, .int .i64 (q : Int), .slice none 0 0, .bool false, .int .i64 1, .int .i64 a1, .slice none 0 0, .bool false, .int .i64 2, .int .i64 0, .slice (some ⟨g1, 0, none⟩) 5 ucap] 31)) from zAa (zAa hba hub) (zAd w2 _))
        have HRS := Lib.hid (show (w2.alloc (.cells #[.bool false, .int .i64 1, .int .i64 (q : Int), .slice none 0 0, .bool false, .int .i64 1, .int .i64 a1, .slice none 0 0, .bool false, .int .i64 2, .int .i64 0, .slice (some ⟨g1, 0, none⟩) 5 ucap] 31)).heap.size = w2.heap.size + 1 by simp)
        have HROW3 := Lib.hid (show (w2.alloc (.cells #[.bool false, .int .i64 1, .int .i64 (q : Int), .slice none 0 0, .bool false, .int .i64 1, .int .i64 a1, .slice none 0 0, .bool false, .int .i64 2, .int .i64 0, .slice (some ⟨g1, 0, none⟩) 5 ucap] 31)).ownsRow wr.heap.size 31 4 (.slice (some ⟨w2.heap.size, 0, none⟩) 3 3) 3 (([((⟨false, 1, (q : Nat), []⟩ : Vc), Value.slice none 0 0), (⟨false, 1, a1, []⟩, .slice none 0 0), (⟨false, 2, 0, [110, 111, 114, 116, 104]⟩, .slice (some ⟨g1, 0, none⟩) 5 ucap)]).map cellsV).flatten from World.ownsRow_lit w2 #[.bool false, .int .i64 1, .int .i64 (q : Int), .slice none 0 0, .bool false, .int .i64 1, .int .i64 a1, .slice none 0 0, .bool false, .int .i64 2, .int .i64 0, .slice (some ⟨g1, 0, none⟩) 5 ucap] 3 (by omega) (by decide) rfl)
        have HV3 := Lib.hid (show ∀ t ∈ [((⟨false, 1, (q : Nat), []⟩ : Vc), Value.slice none 0 0), (⟨false, 1, a1, []⟩, .slice none 0 0), (⟨false, 2, 0, [110, 111, 114, 116, 104]⟩, .slice (some ⟨g1, 0, none⟩) 5 ucap)], RdB wr.heap.size (w2.alloc (.cells #[.bool false, .int .i64 1, .int .i64 (q : Int), .slice none 0 0, .bool false, .int .i64 1, .int .i64 a1, .slice none 0 0, .bool false, .int .i64 2, .int .i64 0, .slice (some ⟨g1, 0, none⟩) 5 ucap] 31)) t.2 t.1.b ∧ (∀ x ∈ t.1.b, x < 256) ∧ FarV w2.heap.size t from fun t ht => by
          simp only [List.mem_cons, List.not_mem_nil, or_false] at ht
          rcases ht with rfl | rfl | rfl
          · exact ⟨⟨none, 0, rfl, ⟨fun _ => rfl, Nat.le_refl _⟩, fun h => absurd h (by simp)⟩, fun x hx => (by cases hx), fun h => absurd rfl h⟩
          · exact ⟨⟨none, 0, rfl, ⟨fun _ => rfl, Nat.le_refl _⟩, fun h => absurd h (by simp)⟩, fun x hx => (by cases hx), fun h => absurd rfl h⟩
          · refine ⟨RdB.move hur (by omega) (fun a n c _ _ _ hlt => heap_alloc_old w2 _ hlt), (show ∀ x ∈ ([110, 111, 114, 116, 104] : List Nat), x < 256 by decide), fun _ a n c he => ?_⟩
            simp only [Value.slice.injEq, Option.some.injEq] at he
            obtain ⟨rfl, _, _⟩ := he
            show g1 ≠ w2.heap.size
            omega)
        have HPL := Lib.hid (show (L ++ [[((⟨false, 1, (q : Nat), []⟩ : Vc), Value.slice none 0 0), (⟨false, 1, a1, []⟩, .slice none 0 0), (⟨false, 2, 0, [110, 111, 114, 116, 104]⟩, .slice (some ⟨g1, 0, none⟩) 5 ucap)]]).map (fun l => l.map Prod.fst) = rowsS a1 (q + 1) by
          rw [List.map_append, HLM.out, rowsS_succ, rowS, hwq]
          rfl)
        have HRD := Lib.hid (show RdS ((w2.alloc (.cells #[.bool false, .int .i64 1, .int .i64 (q : Int), .slice none 0 0, .bool false, .int .i64 1, .int .i64 a1, .slice none 0 0, .bool false, .int .i64 2, .int .i64 0, .slice (some ⟨g1, 0, none⟩) 5 ucap] 31)).alloc (.cells #[.slice (some ⟨w2.heap.size, 0, none⟩) 3 3] 27)) 1 (.slice (some ⟨w2.heap.size + 1, 0, none⟩) 1 1) [[.slice (some ⟨w2.heap.size, 0, none⟩) 3 3]] by
          have h := zBd (w2.alloc (.cells #[.bool false, .int .i64 1, .int .i64 (q : Int), .slice none 0 0, .bool false, .int .i64 1, .int .i64 a1, .slice none 0 0, .bool false, .int .i64 2, .int .i64 0, .slice (some ⟨g1, 0, none⟩) 5 ucap] 31)) #[.slice (some ⟨w2.heap.size, 0, none⟩) 3 3] 27 1 rfl
          rw [HRS.out] at h
          exact h)
        have HON := Lib.hid (show Ones 1 [[Value.slice (some ⟨w2.heap.size, 0, none⟩) 3 3]] from fun t ht => by rw [List.mem_singleton.1 ht]; exact ⟨rfl, fun u hu => by rw [List.mem_singleton.1 hu]; rfl⟩)
        have HOWN := Lib.hid (show ((w2.alloc (.cells #[.bool false, .int .i64 1, .int .i64 (q : Int), .slice none 0 0, .bool false, .int .i64 1, .int .i64 a1, .slice none 0 0, .bool false, .int .i64 2, .int .i64 0, .slice (some ⟨g1, 0, none⟩) 5 ucap] 31)).alloc (.cells #[.slice (some ⟨w2.heap.size, 0, none⟩) 3 3] 27)).ownsRow W.heap.size 27 1 (.slice ao q cap) q sls from by
          have h := (HRB.out.kept HB3.out).own
          rw [HLL.out] at h
          exact h.alloc _)
        have HSZ := Lib.hid (show W.heap.size ≤ ((w2.alloc (.cells #[.bool false, .int .i64 1, .int .i64 (q : Int), .slice none 0 0, .bool false, .int .i64 1, .int .i64 a1, .slice none 0 0, .bool false, .int .i64 2, .int .i64 0, .slice (some ⟨g1, 0, none⟩) 5 ucap] 31)).alloc (.cells #[.slice (some ⟨w2.heap.size, 0, none⟩) 3 3] 27)).heap.size from by have := HB.out.size; have := HB3.out.size; simp at this ⊢; omega)
        clear hur hub hus hg1 hg1r hba hwq hq2
        go_wp2_with (at_builtin; go_must (refine zAe zVm rfl _ _ rfl W.heap.size _ _ _ rfl HOWN.out _ [[.slice (some ⟨w2.heap.size, 0, none⟩) 3 3]] rfl HRD.out HON.out (by simp; omega) HSZ.out (q + 1) rfl ?_); intro ao4 cap4 w4 hown4 hgrow4 hnew4; have HO4 := Lib.hid hown4; have HG4 := Lib.hid hgrow4; have HN4 := Lib.hid hnew4; clear hown4 hgrow4 hnew4)
        go_roundw
        case rel =>
          refine ⟨q + 1, sls ++ [.slice (some ⟨w2.heap.size, 0, none⟩) 3 3], L ++ [[((⟨false, 1, (q : Nat), []⟩ : Vc), Value.slice none 0 0), (⟨false, 1, a1, []⟩, .slice none 0 0), (⟨false, 2, 0, [110, 111, 114, 116, 104]⟩, .slice (some ⟨g1, 0, none⟩) 5 ucap)]], ao4, cap4, by omega, by go_num, rfl, by rw [List.length_append, HLL.out]; rfl, HPL.out, ?_, ?_⟩
          · exact RowsB.add HRB.out HB.out.size HB3.out rfl HROW3.out HV3.out HG4.out HN4.out (by rw [HLL.out]; exact HO4.out)
          · exact (zAa HB.out HB3.out).alloc (Nat.le_trans HB.out.size HB3.out.size) _ |>.grown HG4.out HSZ.out (zAf HOWN.out)
        case measure => simp [intOf]; omega
      · have hbit : bits .and .i64 (q : Int) 1 = 1 := by rw [zEj (q : Int) 1 (by decide) 1 rfl]; omega
        have hwq : wordS q = [115, 111, 117, 116, 104] := by unfold wordS; rw [if_neg (by omega)]
        have cW : (wr.alloc (.cells #[.string ⟨#[110, 111, 114, 116, 104]⟩, .string ⟨#[115, 111, 117, 116, 104]⟩] 9)).cell? ⟨wr.heap.size, 1, none⟩ = some (.string ⟨#[115, 111, 117, 116, 104]⟩) := by rw [cell_of_row _ wr.heap.size 1 _ _ _ (heap_alloc_new wr _)]; rfl
        obtain ⟨ucap, w2, hcv, hur, hub, hus⟩ := conv_word (wr.alloc (.cells #[.string ⟨#[110, 111, 114, 116, 104]⟩, .string ⟨#[115, 111, 117, 116, 104]⟩] 9)) ⟨#[115, 111, 117, 116, 104]⟩ [115, 111, 117, 116, 104] rfl
        simp only [List.length_cons, List.length_nil, Nat.zero_add] at hcv hur
        obtain ⟨g1, hg1⟩ : ∃ g1, g1 = (wr.alloc (.cells #[.string ⟨#[110, 111, 114, 116, 104]⟩, .string ⟨#[115, 111, 117, 116, 104]⟩] 9)).heap.size := ⟨_, rfl⟩
        rw [← hg1] at hcv hur hus
        have hg1r : g1 = wr.heap.size + 1 := by rw [hg1]; simp
        have hba := zAd wr (.cells #[.string ⟨#[110, 111, 114, 116, 104]⟩, .string ⟨#[115, 111, 117, 116, 104]⟩] 9)
        have HB3 := Lib.hid (show Below wr.heap.size wr (w2.alloc (.cells #[.bool false, .int .i64 1, .int .i64 (q : Int), .slice none 0 0, .bool false, .int .i64 1, .int .i64 a1, .slice none 0 0, .bool false, .int .i64 2, .int .i64 0, .slice (some ⟨g1, 0, none⟩) 5 ucap] 31)) from zAa (zAa hba hub) (zAd w2 _))
        have HRS := Lib.hid (show (w2.alloc (.cells #[.bool false, .int .i64 1, .int .i64 (q : Int), .slice none 0 0, .bool false, .int .i64 1, .int .i64 a1, .slice none 0 0, .bool false, .int .i64 2, .int .i64 0, .slice (some ⟨g1, 0, none⟩) 5 ucap] 31)).heap.size = w2.heap.size + 1 by simp)
        have HROW3 := Lib.hid (show (w2.alloc (.cells #[.bool false, .int .i64 1, .int .i64 (q : Int), .slice none 0 0, .bool false, .int .i64 1, .int .i64 a1, .slice none 0 0, .bool false, .int .i64 2, .int .i64 0, .slice (some ⟨g1, 0, none⟩) 5 ucap] 31)).ownsRow wr.heap.size 31 4 (.slice (some ⟨w2.heap.size, 0, none⟩) 3 3) 3 (([((⟨false, 1, (q : Nat), []⟩ : Vc), Value.slice none 0 0), (⟨false, 1, a1, []⟩, .slice none 0 0), (⟨false, 2, 0, [115, 111, 117, 116, 104]⟩, .slice (some ⟨g1, 0, none⟩) 5 ucap)]).map cellsV).flatten from World.ownsRow_lit w2 #[.bool false, .int .i64 1, .int .i64 (q : Int), .slice none 0 0, .bool false, .int .i64 1, .int .i64 a1, .slice none 0 0, .bool false, .int .i64 2, .int .i64 0, .slice (some ⟨g1, 0, none⟩) 5 ucap] 3 (by omega) (by decide) rfl)
        have HV3 := Lib.hid (show ∀ t ∈ [((⟨false, 1, (q : Nat), []⟩ : Vc), Value.slice none 0 0), (⟨false, 1, a1, []⟩, .slice none 0 0), (⟨false, 2, 0, [115, 111, 117, 116, 104]⟩, .slice (some ⟨g1, 0, none⟩) 5 ucap)], RdB wr.heap.size (w2.alloc (.cells #[.bool false, .int .i64 1, .int .i64 (q : Int), .slice none 0 0, .bool false, .int .i64 1, .int .i64 a1, .slice none 0 0, .bool false, .int .i64 2, .int .i64 0, .slice (some ⟨g1, 0, none⟩) 5 ucap] 31)) t.2 t.1.b ∧ (∀ x ∈ t.1.b, x < 256) ∧ FarV w2.heap.size t from fun t ht => by
          simp only [List.mem_cons, List.not_mem_nil, or_false] at ht
          rcases ht with rfl | rfl | rfl
          · exact ⟨⟨none, 0, rfl, ⟨fun _ => rfl, Nat.le_refl _⟩, fun h => absurd h (by simp)⟩, fun x hx => (by cases hx), fun h => absurd rfl h⟩
          · exact ⟨⟨none, 0, rfl, ⟨fun _ => rfl, Nat.le_refl _⟩, fun h => absurd h (by simp)⟩, fun x hx => (by cases hx), fun h => absurd rfl h⟩
          · refine ⟨RdB.move hur (by omega) (fun a n c _ _ _ hlt => heap_alloc_old w2 _ hlt), (show ∀ x ∈ ([115, 111, 117, 116, 104] : List Nat), x < 256 by decide), fun _ a n c he => ?_⟩
            simp only [Value.slice.injEq, Option.some.injEq] at he
            obtain ⟨rfl, _, _⟩ := he
            show g1 ≠ w2.heap.size
            omega)
        have HPL := Lib.hid (show (L ++ [[((⟨false, 1, (q : Nat), []⟩ : Vc), Value.slice none 0 0), (⟨false, 1, a1, []⟩, .slice none 0 0), (⟨false, 2, 0, [115, 111, 117, 116, 104]⟩, .slice (some ⟨g1, 0, none⟩) 5 ucap)]]).map (fun l => l.map Prod.fst) = rowsS a1 (q + 1) by
          rw [List.map_append, HLM.out, rowsS_succ, rowS, hwq]
          rfl)
        have HRD := Lib.hid (show RdS ((w2.alloc (.cells #[.bool false, .int .i64 1, .int .i64 (q : Int), .slice none 0 0, .bool false, .int .i64 1, .int .i64 a1, .slice none 0 0, .bool false, .int .i64 2, .int .i64 0, .slice (some ⟨g1, 0, none⟩) 5 ucap] 31)).alloc (.cells #[.slice (some ⟨w2.heap.size, 0, none⟩) 3 3] 27)) 1 (.slice (some ⟨w2.heap.size + 1, 0, none⟩) 1 1) [[.slice (some ⟨w2.heap.size, 0, none⟩) 3 3]] by
          have h := zBd (w2.alloc (.cells #[.bool false, .int .i64 1, .int .i64 (q : Int), .slice none 0 0, .bool false, .int .i64 1, .int .i64 a1, .slice none 0 0, .bool false, .int .i64 2, .int .i64 0, .slice (some ⟨g1, 0, none⟩) 5 ucap] 31)) #[.slice (some ⟨w2.heap.size, 0, none⟩) 3 3] 27 1 rfl
          rw [HRS.out] at h
          exact h)
        have HON := Lib.hid (show Ones 1 [[Value.slice (some ⟨w2.heap.size, 0, none⟩) 3 3]] from fun t ht => by rw [List.mem_singleton.1 ht]; exact ⟨rfl, fun u hu => by rw [List.mem_singleton.1 hu]; rfl⟩)
        have HOWN := Lib.hid (show ((w2.alloc (.cells #[.bool false, .int .i64 1, .int .i64 (q : Int), .slice none 0 0, .bool false, .int .i64 1, .int .i64 a1, .slice none 0 0, .bool false, .int .i64 2, .int .i64 0, .slice (some ⟨g1, 0, none⟩) 5 ucap] 31)).alloc (.cells #[.slice (some ⟨w2.heap.size, 0, none⟩) 3 3] 27)).ownsRow W.heap.size 27 1 (.slice ao q cap) q sls from by
          have h := (HRB.out.kept HB3.out).own
          rw [HLL.out] at h
          exact h.alloc _)
        have HSZ := Lib.hid (show W.heap.size ≤ ((w2.alloc (.cells #[.bool false, .int .i64 1, .int .i64 (q : Int), .slice none 0 0, .bool false, .int .i64 1, .int .i64 a1, .slice none 0 0, .bool false, .int .i64 2, .int .i64 0, .slice (some ⟨g1, 0, none⟩) 5 ucap] 31)).alloc (.cells #[.slice (some ⟨w2.heap.size, 0, none⟩) 3 3] 27)).heap.size from by have := HB.out.size; have := HB3.out.size; simp at this ⊢; omega)
        clear hur hub hus hg1 hg1r hba hwq hq2
        go_wp2_with (at_builtin; go_must (refine zAe zVm rfl _ _ rfl W.heap.size _ _ _ rfl HOWN.out _ [[.slice (some ⟨w2.heap.size, 0, none⟩) 3 3]] rfl HRD.out HON.out (by simp; omega) HSZ.out (q + 1) rfl ?_); intro ao4 cap4 w4 hown4 hgrow4 hnew4; have HO4 := Lib.hid hown4; have HG4 := Lib.hid hgrow4; have HN4 := Lib.hid hnew4; clear hown4 hgrow4 hnew4)
        go_roundw
        case rel =>
          refine ⟨q + 1, sls ++ [.slice (some ⟨w2.heap.size, 0, none⟩) 3 3], L ++ [[((⟨false, 1, (q : Nat), []⟩ : Vc), Value.slice none 0 0), (⟨false, 1, a1, []⟩, .slice none 0 0), (⟨false, 2, 0, [115, 111, 117, 116, 104]⟩, .slice (some ⟨g1, 0, none⟩) 5 ucap)]], ao4, cap4, by omega, by go_num, rfl, by rw [List.length_append, HLL.out]; rfl, HPL.out, ?_, ?_⟩
          · exact RowsB.add HRB.out HB.out.size HB3.out rfl HROW3.out HV3.out HG4.out HN4.out (by rw [HLL.out]; exact HO4.out)
          · exact (zAa HB.out HB3.out).alloc (Nat.le_trans HB.out.size HB3.out.size) _ |>.grown HG4.out HSZ.out (zAf HOWN.out)
        case measure => simp [intOf]; omega
    · have hqn : q = n := by omega
      subst hqn
      have hlti : ¬ (q : Int) < (q : Int) := by omega
      have HL := Lib.hid (show ∀ l ∈ L, ∃ i, i < q ∧ l.map Prod.fst = rowS a1 i from fun l hl => by
        have h : l.map Prod.fst ∈ L.map (fun l => l.map Prod.fst) := List.mem_map_of_mem hl
        rw [HLM.out] at h
        obtain ⟨i, hi, he⟩ := List.mem_map.1 h
        exact ⟨i, List.mem_range.1 hi, he.symm⟩)
      have HMK := Lib.hid (zHo smC smC_sch L (by rw [HLL.out]; omega) (fun l hl => by
        obtain ⟨i, _, he⟩ := HL.out l hl
        have := congrArg List.length he
        rw [List.length_map] at this
        rw [this]
        show 3 ≤ 1000
        decide) (fun l hl t ht => by
        obtain ⟨i, hi, he⟩ := HL.out l hl
        exact (rowS_small a1 HV64.out i (by omega) t.1 (by rw [← he]; exact List.mem_map_of_mem ht)).1) (fun l hl t ht => by
        obtain ⟨i, hi, he⟩ := HL.out l hl
        have := (rowS_small a1 HV64.out i (by omega) t.1 (by rw [← he]; exact List.mem_map_of_mem ht)).2.2
        omega) (.slice (some ⟨b0, 0, none⟩) 3 3) (.slice ao q cap) wr (RdC.kept HSV.out HB.out) HRB.out.rdA.rd)
      rw [HLM.out] at HMK
      have HRB2 := Lib.hid (rowsS_B a1 q (by omega) (by omega))
      have HRC := Lib.hid (rowsS_c a1 HV64.out q (by omega) (by omega))
      have hlen := segS_len a1 c hc31
      rw [← HNC.out] at hlen
      obtain ⟨sn, hsn⟩ : ∃ sn, sn = (segT smC (rowsS a1 q)).length := ⟨_, rfl⟩
      rw [← hsn] at hlen
      have hleni : (sn : Int) ≤ 30 + (q : Int) + 20 + (q : Int) / 8 + 20 := by omega
      have HSN := Lib.hid hsn
      clear hsn hcn hadd
      go_wp2_with fail
      refine HMK.out.mono ?_
      rintro e w5 ⟨h | h, hb5⟩
      case inr => exact absurd (HRB2.out.symm.trans h.1) (by decide)
      obtain ⟨_, g, rfl, hseg⟩ := h
      have HSEG := Lib.hid hseg
      have HB5 := Lib.hid (zAa HB0.out (zAa HB.out hb5))
      clear hseg hb5 cs0
      go_wp2_with fail
      refine (zKx HRC.out (by decide) (by decide) w5 HSEG.out).mono ?_
      rintro e w6 ⟨v6, rfl, ho6, hb6⟩
      obtain ⟨a6, c6, rfl⟩ := ho6.shape
      rw [← HSN.out]
      have HB6 := Lib.hid (zAa HB5.out hb6)
      clear ho6 hb6
      go_wp2_with fail
      refine (HAW.out _).mono ?_
      rintro e w7 ⟨rfl, hb7⟩
      have HB7 := Lib.hid (zAa HB6.out hb7)
      clear hb7
      go_wp2_with fail
      go_ret
      rw [HBW.out]
      first | exact ⟨rfl, HB7.out⟩ | (rw [HBW.out]; exact ⟨rfl, HB7.out⟩)

end Go.Proofs.YtmpgnjhgegbdkaaGreat
