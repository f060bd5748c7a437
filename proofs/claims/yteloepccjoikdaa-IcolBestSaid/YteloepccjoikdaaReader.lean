/-
  Contracts of code.Bytes and of code's Reader.
-/
import Derived.Test.YteloepccjoikdaaNext
import Derived.Laws.NewBlocks
namespace Go.Proofs.Yteloepccjoikdaa
set_option linter.unusedVariables false
open Go.RowKit

/-- Block r is a Reader: what is left of its bytes, and whether one could not be read. -/
def IsR (w : World) (r : Nat) (left : List Nat) (bad : Bool) : Prop :=
  ∃ v, w.heap[r]? = some (.cells #[v, .bool bad] 166 (0, 0)) ∧ Rd w v (left.map u8v)

theorem IsR.lt {w : World} {r : Nat} {left : List Nat} {bad : Bool} (h : IsR w r left bad) : r < w.heap.size := by
  obtain ⟨v, hv, _⟩ := h
  rcases Nat.lt_or_ge r w.heap.size with h | h
  · exact h
  · rw [Array.getElem?_eq_none h] at hv; cases hv

theorem IsR.kept {w w' : World} {r : Nat} {left : List Nat} {bad : Bool} (h : IsR w r left bad) (hb : Below w.heap.size w w') : IsR w' r left bad := by
  have hlt := h.lt
  obtain ⟨v, hv, hr⟩ := h
  exact ⟨v, (hb.block r hlt).trans hv, hr.kept hb⟩

set_option maxHeartbeats 1000000 in
theorem read_any (v : Value) (bs : List Nat) (w : World) (hr : Rd w v (bs.map u8v)) (hbig : bs.length ≤ 140737488355328) :
    Calls Try.prog 65 #[v] w fun e w' => ∃ r, e = .returned (.pointer (some ⟨r, 0, none⟩)) ∧ w.heap.size ≤ r ∧ IsR w' r bs false ∧ Below w.heap.size w w' := by
  go_enter Try.func65, Try.ntmps65
  go_wp2_with fail
  refine (bclone_any v bs w hr hbig).mono ?_
  rintro e w1 ⟨ao, cap, rfl, hown, hb⟩
  have HR1 := Lib.hid (Rd.of_owns hown)
  have HB1 := Lib.hid hb
  clear hown hb hr
  go_wp2_with fail
  go_ret
  have HR2 : Rd w1 (.slice ao bs.length cap) (bs.map u8v) := by have := HR1.out; rwa [List.length_map] at this
  exact ⟨w1.heap.size, rfl, HB1.out.size, ⟨_, heap_alloc_new w1 _, HR2.kept (below_alloc w1 _)⟩, below_lay HB1.out _⟩

theorem rd_cap {w : World} {ao : Option Addr} {len cap : Nat} {xs : List Value} (h : Rd w (.slice ao len cap) xs) : len ≤ cap := by
  obtain ⟨ao', cap', hv, hcap, _⟩ := h
  simp only [Value.slice.injEq] at hv
  obtain ⟨_, hl, rfl⟩ := hv
  rw [hl]; exact hcap.2

/-- What the walk is told of a Reader's two cells. -/
theorem isR_cells {w : World} {r : Nat} {v : Value} {bad : Bool} (h : w.heap[r]? = some (.cells #[v, .bool bad] 166 (0, 0))) :
    w.cell? ⟨r, 0, none⟩ = some v ∧ w.cell? ⟨r, 1, none⟩ = some (.bool bad) ∧ w.frozen? ⟨r, 0, none⟩ = false ∧ w.frozen? ⟨r, 1, none⟩ = false :=
  ⟨by rw [cell_of_row w r 0 _ _ _ h]; rfl, by rw [cell_of_row w r 1 _ _ _ h]; rfl, frozen_of_row w r 0 _ _ h, frozen_of_row w r 1 _ _ h⟩

theorem rd_set {w : World} {v : Value} {xs : List Value} {r : Nat} {j : Nat} {u : Value} (h : Rd w v xs) (hne : ∀ b off c n, v = .slice (some ⟨b, off, none⟩) n c → 0 < n → b ≠ r) : Rd (w.setCell ⟨r, j, none⟩ u) v xs := by
  obtain ⟨ao, cap, hv, hn, hc⟩ := h
  refine ⟨ao, cap, hv, hn, fun hp => ?_⟩
  obtain ⟨b, off, ha, hcell⟩ := hc hp
  refine ⟨b, off, ha, fun i hi => ?_⟩
  rw [← hcell i hi]
  refine World.cell?_of_block ?_
  exact heap_setCell_other w ⟨r, j, none⟩ b u (hne b off cap _ (by rw [hv, ha]) hp)

theorem isR_apart {w : World} {r b off : Nat} {bad : Bool} {x : Int} {k : IntKind} {ao : Option Addr} {len cap : Nat} (h : w.heap[r]? = some (.cells #[.slice ao len cap, .bool bad] 166 (0, 0)))
    (hc : w.cell? ⟨b, off + 0, none⟩ = some (.int k x)) : b ≠ r := by
  intro hbr
  subst hbr
  rw [cell_of_row w b (off + 0) _ _ _ h] at hc
  match off, hc with
  | 0, hc => simp at hc
  | 1, hc => simp at hc
  | n + 2, hc => simp at hc

set_option maxHeartbeats 1000000 in
theorem fail_any (r : Nat) (left : List Nat) (bad : Bool) (w : World) (h : IsR w r left bad) :
    Calls Try.prog 172 #[.pointer (some ⟨r, 0, none⟩)] w fun e w' => e = .returned (.tuple #[]) ∧ IsR w' r [] true ∧ w.grownBy w' (some r) := by
  obtain ⟨v, hv, hr⟩ := h
  obtain ⟨c0, c1, f0, f1⟩ := isR_cells hv
  have HV := Lib.hid hv
  clear hv hr
  go_enter Try.func172, Try.ntmps172
  go_wp2
  go_end0
  refine ⟨rfl, ⟨.slice none 0 0, ?_, Rd.nil _⟩, grown_trans (grown_setCell _ _ _) (grown_setCell _ _ _)⟩
  have h1 := heap_setCell_same w r 0 _ _ (.slice none 0 0) HV.out
  have h2 := heap_setCell_same (w.setCell ⟨r, 0, none⟩ (.slice none 0 0)) r 1 _ _ (.bool true) h1
  simpa using h2

set_option maxHeartbeats 1000000 in
theorem ok_any (r : Nat) (left : List Nat) (bad : Bool) (w : World) (h : IsR w r left bad) :
    Calls Try.prog 121 #[.pointer (some ⟨r, 0, none⟩)] w fun e w' => e = .returned (.bool (!bad)) ∧ w = w' := by
  obtain ⟨v, hv, hr⟩ := h
  obtain ⟨c0, c1, f0, f1⟩ := isR_cells hv
  clear hv hr
  go_enter Try.func121, Try.ntmps121
  go_wp2
  go_ret
  exact ⟨rfl, rfl⟩

set_option maxHeartbeats 1000000 in
theorem rest_any (r : Nat) (left : List Nat) (bad : Bool) (w : World) (h : IsR w r left bad) (hbig : left.length ≤ 140737488355328) :
    Calls Try.prog 122 #[.pointer (some ⟨r, 0, none⟩)] w (RetOwn w.heap.size 5 (left.map u8v) w) := by
  obtain ⟨v, hv, hr⟩ := h
  obtain ⟨c0, c1, f0, f1⟩ := isR_cells hv
  clear hv
  go_enter Try.func122, Try.ntmps122
  go_wp2_with fail
  refine (bclone_any v left w hr hbig).mono ?_
  rintro e w1 ⟨ao, cap, rfl, hown, hb⟩
  have HO := Lib.hid hown
  have HB := Lib.hid hb
  clear hown hb hr
  go_wp2_with fail
  go_ret
  exact ⟨ao, cap, by simp, HO.out, HB.out⟩

set_option maxHeartbeats 1000000 in
theorem rnum_any (r : Nat) (left : List Nat) (bad : Bool) (w : World) (h : IsR w r left bad) (h256 : ∀ x ∈ left, x < 256) (hbig : left.length ≤ 140737488355328) (u n : Nat) (hn : nextC left = some (u, n)) (hn1 : 0 < n) (hn2 : n ≤ left.length) :
    Calls Try.prog 120 #[.pointer (some ⟨r, 0, none⟩)] w fun e w' => e = .returned (.int .u64 (u : Nat)) ∧ IsR w' r (left.drop n) bad ∧ w.grownBy w' (some r) := by
  obtain ⟨v, hv, hr⟩ := h
  obtain ⟨c0, c1, f0, f1⟩ := isR_cells hv
  have HV := Lib.hid hv
  have HR := Lib.hid hr
  have hr2 := hr
  obtain ⟨ao, cap, hvs, hrr⟩ := hr2
  clear hrr
  rw [List.length_map] at hvs
  subst hvs
  have HN := Lib.hid hn
  obtain ⟨len, hlen⟩ : ∃ len, len = left.length := ⟨_, rfl⟩
  rw [← hlen] at c0 hbig hn2 HR HV
  have HLEN := Lib.hid hlen
  clear hv hr hn hlen
  obtain ⟨b, off, rfl, hcell⟩ := (rd_cells HR.out).2 (by omega)
  have HAP := Lib.hid (isR_apart HV.out (hcell 0 (by omega)))
  clear hcell
  go_enter Try.func120, Try.ntmps120
  go_wp2_with fail
  refine (next_any _ len cap left w HR.out h256 hbig).mono ?_
  rw [HN.out]
  rintro e w1 ⟨rfl, rfl⟩
  have hne : ((n : Int) == 0) = false := by rw [beq_eq_false_iff_ne]; omega
  go_wp2_with fail
  · go_ret
    have hz : len - n = 0 := by have := rd_cap HR.out; omega
    refine ⟨rfl, ⟨_, heap_setCell_same w r 0 _ _ _ HV.out, ?_⟩, grown_setCell _ _ _⟩
    rw [hz, List.drop_of_length_le (by rw [← HLEN.out]; omega)]
    exact rd_empty _ _ _
  · go_ret
    refine ⟨rfl, ⟨_, heap_setCell_same w r 0 _ _ _ HV.out, ?_⟩, grown_setCell _ _ _⟩
    have hd := rd_drop HR.out hn2
    rw [← List.map_drop] at hd
    refine rd_set hd fun b' off' c' n' hv' hp => ?_
    simp only [Value.slice.injEq, Option.some.injEq, Addr.mk.injEq] at hv'
    rw [← hv'.1.1]
    exact HAP.out

set_option maxHeartbeats 1000000 in
theorem rnum_no (r : Nat) (left : List Nat) (bad : Bool) (w : World) (h : IsR w r left bad) (h256 : ∀ x ∈ left, x < 256) (hbig : left.length ≤ 140737488355328) (hn : nextC left = none) :
    Calls Try.prog 120 #[.pointer (some ⟨r, 0, none⟩)] w fun e w' => e = .returned (.int .u64 0) ∧ IsR w' r [] true ∧ w.grownBy w' (some r) := by
  have HI := Lib.hid h
  obtain ⟨v, hv, hr⟩ := h
  obtain ⟨c0, c1, f0, f1⟩ := isR_cells hv
  have HR := Lib.hid hr
  have hr2 := hr
  obtain ⟨ao, cap, hvs, hrr⟩ := hr2
  clear hrr
  rw [List.length_map] at hvs
  subst hvs
  have HN := Lib.hid hn
  clear hv hr hn
  go_enter Try.func120, Try.ntmps120
  go_wp2_with fail
  refine (next_any ao left.length cap left w HR.out h256 hbig).mono ?_
  rw [HN.out]
  rintro e w1 ⟨rfl, rfl⟩
  go_wp2_with fail
  refine (fail_any r left bad w HI.out).mono ?_
  rintro e w2 ⟨rfl, hi, hg⟩
  have HI2 := Lib.hid hi
  have HG2 := Lib.hid hg
  clear hi hg
  go_wp2_with fail
  go_ret
  exact ⟨rfl, HI2.out, HG2.out⟩

end Go.Proofs.Yteloepccjoikdaa
