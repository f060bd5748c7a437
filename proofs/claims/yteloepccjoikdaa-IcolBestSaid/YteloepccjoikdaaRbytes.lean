/-
  Contract of the Reader's Bytes, where there are such bytes.
-/
import Derived.Test.YteloepccjoikdaaCbytes
namespace Go.Proofs.Yteloepccjoikdaa
set_option linter.unusedVariables false
open Go.RowKit

theorem grown_of_below {w w' : World} (h : Below w.heap.size w w') (row : Option Nat) : w.grownBy w' row := ⟨h.os, h.tape, h.output, h.size, fun k hk _ => h.block k hk⟩

/-- The call hands back a slice of its own, and has set the Reader at r on. -/
def RetBytes (r : Nat) (xs left : List Nat) (bad : Bool) (w : World) (e : Ending) (w' : World) : Prop :=
  ∃ ao cap, e = .returned (.slice ao (xs.map u8v).length cap) ∧ w'.ownsRow w.heap.size 5 1 (.slice ao (xs.map u8v).length cap) (xs.map u8v).length (xs.map u8v) ∧ IsR w' r left bad ∧ w.grownBy w' (some r)

set_option maxRecDepth 100000 in
set_option maxHeartbeats 2000000 in
theorem rbytes_yes (r : Nat) (left : List Nat) (bad : Bool) (w : World) (most : Int) (h : IsR w r left bad) (h256 : ∀ x ∈ left, x < 256) (hbig : left.length ≤ 140737488355328) (u n : Nat) (hn : nextC left = some (u, n)) (hn1 : 0 < n) (hn2 : n ≤ left.length)
    (hm0 : 0 ≤ most) (hm1 : (u : Int) ≤ most) (hm2 : most ≤ 9223372036854775807) (hu : n + u ≤ left.length) :
    Calls Try.prog 179 #[.pointer (some ⟨r, 0, none⟩), .int .i64 most] w (RetBytes r ((left.drop n).take u) (left.drop (n + u)) bad w) := by
  obtain ⟨v, hv, hr⟩ := h
  obtain ⟨c0, c1, f0, f1⟩ := isR_cells hv
  have hr2 := hr
  obtain ⟨ao, cap, hvs, hrr⟩ := hr2
  clear hrr
  rw [List.length_map] at hvs
  subst hvs
  have HN := Lib.hid hn
  obtain ⟨len, hlen⟩ : ∃ len, len = left.length := ⟨_, rfl⟩
  have hrk := hr
  rw [← hlen] at c0 hbig hn2 hu hv hr
  have HV := Lib.hid hv
  have HR := Lib.hid hr
  have HLEN := Lib.hid hlen
  clear hv hr hn hlen hrk
  obtain ⟨b, off, rfl, hcell⟩ := (rd_cells HR.out).2 (by omega)
  have HAP := Lib.hid (isR_apart HV.out (hcell 0 (by omega)))
  have hcl := rd_cap HR.out
  clear hcell
  have hne : ((n : Int) == 0) = false := by rw [beq_eq_false_iff_ne]; omega
  have hrlt : r < w.heap.size := (show IsR w r left bad from ⟨_, HV.out, HR.out⟩).lt
  have HRL := Lib.hid hrlt
  have HXL := Lib.hid (show (((left.drop n).take u).map u8v).length = u by rw [List.length_map, List.length_take, List.length_drop, ← HLEN.out]; omega)
  clear hrlt
  by_cases hcn : cap = n
  · obtain rfl : u = 0 := by omega
    have hln : len = n := by omega
    subst hcn
    subst hln
    go_enter Try.func179, Try.ntmps179
    go_wp2_with fail
    refine (next_any _ _ _ left w HR.out h256 hbig).mono ?_
    rw [HN.out]
    rintro e w1 ⟨rfl, rfl⟩
    go_wp2_with fail
    refine (bclone_any _ [] w (rd_empty _ _ _) (by simp)).mono ?_
    rintro e w1 ⟨ao1, cap1, rfl, hown, hb⟩
    have hV1 := (hb.block r HRL.out).trans HV.out
    obtain ⟨d0, d1, g0, g1⟩ := isR_cells hV1
    have HV1 := Lib.hid hV1
    have HO := Lib.hid hown
    have HB := Lib.hid hb
    clear hown hb hV1 c0 c1 f0 f1
    go_wp2_with fail
    go_ret
    have hdr : left.drop len = [] := List.drop_of_length_le (by rw [← HLEN.out]; omega)
    rw [Nat.add_zero, hdr]
    refine ⟨ao1, cap1, rfl, ?_, ⟨_, heap_setCell_same w1 r 0 _ _ _ HV1.out, rd_empty _ _ _⟩, grown_trans (grown_of_below HB.out _) (grown_setCell _ _ _)⟩
    exact HO.out.kept (grown_setCell w1 ⟨r, 0, none⟩ _) (by
      rcases HO.out.2 with ⟨h, _⟩ | ⟨g', cap', cur, h, hbg, _⟩
      · left; rw [h]; rfl
      · right; rw [h]; intro he; cases he; have := HRL.out; omega)
  · have hd := rd_take (rd_drop HR.out hn2) (show u ≤ len - n by omega)
    rw [← List.map_drop, ← List.map_take] at hd
    have HD := Lib.hid hd
    clear hd
    go_enter Try.func179, Try.ntmps179
    go_wp2_with fail
    refine (next_any _ _ _ left w HR.out h256 hbig).mono ?_
    rw [HN.out]
    rintro e w1 ⟨rfl, rfl⟩
    go_wp2_with fail
    refine (bclone_any _ ((left.drop n).take u) w HD.out (by rw [List.length_take]; omega)).mono ?_
    rintro e w1 ⟨ao1, cap1, rfl, hown, hb⟩
    rw [HXL.out] at hown ⊢
    have hV1 := (hb.block r HRL.out).trans HV.out
    obtain ⟨d0, d1, g0, g1⟩ := isR_cells hV1
    have HV1 := Lib.hid hV1
    have HO := Lib.hid hown
    have HB := Lib.hid hb
    clear hown hb hV1 c0 c1 f0 f1
    go_wp2_with fail
    · go_ret
      have hz : len - (n + u) = 0 := by omega
      refine ⟨ao1, cap1, by rw [HXL.out]; rfl, ?_, ⟨_, heap_setCell_same w1 r 0 _ _ _ HV1.out, ?_⟩, grown_trans (grown_of_below HB.out _) (grown_setCell _ _ _)⟩
      · rw [HXL.out]
        exact HO.out.kept (grown_setCell w1 ⟨r, 0, none⟩ _) (by
          rcases HO.out.2 with ⟨h, _⟩ | ⟨g', cap', cur, h, hbg, _⟩
          · left; rw [h]; rfl
          · right; rw [h]; intro he; cases he; have := HRL.out; omega)
      · rw [hz, List.drop_of_length_le (by rw [← HLEN.out]; omega)]
        exact rd_empty _ _ _
    · go_ret
      refine ⟨ao1, cap1, by rw [HXL.out]; rfl, ?_, ⟨_, heap_setCell_same w1 r 0 _ _ _ HV1.out, ?_⟩, grown_trans (grown_of_below HB.out _) (grown_setCell _ _ _)⟩
      · rw [HXL.out]
        exact HO.out.kept (grown_setCell w1 ⟨r, 0, none⟩ _) (by
          rcases HO.out.2 with ⟨h, _⟩ | ⟨g', cap', cur, h, hbg, _⟩
          · left; rw [h]; rfl
          · right; rw [h]; intro he; cases he; have := HRL.out; omega)
      · have hd := (rd_drop HR.out hu).kept HB.out
        rw [← List.map_drop] at hd
        refine rd_set hd fun b' off' c' n' hv' hp => ?_
        simp only [Value.slice.injEq, Option.some.injEq, Addr.mk.injEq] at hv'
        rw [← hv'.1.1]
        exact HAP.out

end Go.Proofs.Yteloepccjoikdaa
