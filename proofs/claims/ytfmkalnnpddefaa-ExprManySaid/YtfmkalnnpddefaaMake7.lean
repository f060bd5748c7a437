/-
  Contract of layer 7's make7 of the law.
-/
import Derived.Test.YtfmkalnnpddefaaPokc
import Derived.Test.YtfmkalnnpddefaaNkeym
namespace Go.Proofs.Ytfmkalnnpddefaa
set_option linter.unusedVariables false
set_option linter.unusedSimpArgs false
open Go.RowKit


def trC : List Value := [.int .i64 1, .int .i64 0, .int .i64 0, .bool false, .int .i64 0, .int .i64 0, .slice none 0 0, .slice none 0 0]
def zpC : List Value := [.int .i64 0, .int .i64 0, .int .i64 0, .bool false, .int .i64 0, .int .i64 0, .slice none 0 0, .slice none 0 0]
/-- n predicates, the first q of them laid. -/
def row7 (n q : Nat) : List (List Value) := (List.range n).map fun i => if i < q then trC else zpC
theorem row7_len (n q : Nat) : (row7 n q).length = n := by unfold row7; rw [List.length_map, List.length_range]
theorem row7_each (n q : Nat) : ∀ t ∈ row7 n q, t.length = 8 := fun t ht => by
  unfold row7 at ht
  obtain ⟨i, _, rfl⟩ := List.mem_map.1 ht
  split <;> rfl
theorem made_flat (z : Array Value) (sz : Nat) (hz : z.size = sz) (h0 : 0 < sz) (n : Nat) : (madeCells z (n * sz)).toList = (List.replicate n z.toList).flatten := by
  have hl : ∀ t ∈ List.replicate n z.toList, t.length = sz := fun t ht => by rw [(List.mem_replicate.1 ht).2]; simpa using hz
  refine List.ext_getElem? fun i => ?_
  by_cases hi : i < n * sz
  · have e := flatten_at (List.replicate n z.toList) sz hl (i / sz) z.toList (i % sz) (z[i % sz]'(by rw [hz]; exact Nat.mod_lt _ h0)) (by
      rw [List.getElem?_replicate, if_pos (Nat.div_lt_of_lt_mul (by rw [Nat.mul_comm]; exact hi))]) (by
      rw [Array.getElem?_toList, Array.getElem?_eq_getElem (by rw [hz]; exact Nat.mod_lt _ h0)])
    rw [show i / sz * sz + i % sz = i by rw [Nat.mul_comm]; exact Nat.div_add_mod i sz] at e
    rw [e]
    have hm : i % sz < z.size := by rw [hz]; exact Nat.mod_lt _ h0
    unfold madeCells
    rw [Array.toList_map, List.getElem?_map, Array.toList_range, List.getElem?_range hi]
    simp only [Option.map_some]
    subst hz
    rw [getElem!_pos z (i % z.size) hm]
  · rw [List.getElem?_eq_none (by unfold madeCells; simp; omega), List.getElem?_eq_none (by rw [flatten_len _ sz hl, List.length_replicate]; omega)]
theorem row7_zero (n : Nat) (h : n ≤ 7) : (madeCells (Value.agg #[.int .i64 0, .int .i64 0, .int .i64 0, .bool false, .int .i64 0, .int .i64 0, .slice none 0 0, .slice none 0 0]).cells (n * 8)).toList = (row7 n 0).flatten := by
  rw [show (Value.agg #[.int .i64 0, .int .i64 0, .int .i64 0, .bool false, .int .i64 0, .int .i64 0, .slice none 0 0, .slice none 0 0]).cells = zpC.toArray from rfl, made_flat _ 8 rfl (by decide)]
  have e : row7 n 0 = List.replicate n zpC := by
    unfold row7
    refine List.ext_getElem (by simp) fun i h1 h2 => ?_
    simp
  rw [e]
theorem row7_set (n q : Nat) (h : n ≤ 7) (hq : q < n) : ((row7 n q).flatten).set (q * 8) (.int .i64 1) = (row7 n (q + 1)).flatten := by
  rcases (by omega : n = 0 ∨ n = 1 ∨ n = 2 ∨ n = 3 ∨ n = 4 ∨ n = 5 ∨ n = 6 ∨ n = 7) with rfl | rfl | rfl | rfl | rfl | rfl | rfl | rfl
  all_goals
    rcases (by omega : q = 0 ∨ q = 1 ∨ q = 2 ∨ q = 3 ∨ q = 4 ∨ q = 5 ∨ q = 6) with rfl | rfl | rfl | rfl | rfl | rfl | rfl
  all_goals first | rfl | omega
theorem row7_full (w : World) : ∀ n : Nat, RdTs w (List.replicate n trT) (List.replicate n trC)
  | 0 => by rw [List.replicate_zero, List.replicate_zero]; unfold RdTs; trivial
  | n + 1 => by
    rw [List.replicate_succ, List.replicate_succ]
    unfold RdTs
    refine ⟨?_, row7_full w n⟩
    unfold trT RdT1
    exact ⟨_, _, [], rfl, ⟨Rd.nil w, fun x h => by cases h⟩, RdS.nil w 8, by unfold RdTs; trivial⟩
theorem row7_eq (n : Nat) : row7 n n = List.replicate n trC := by
  unfold row7
  refine List.ext_getElem (by simp) fun i h1 h2 => ?_
  rw [List.length_map, List.length_range] at h1
  simp [h1]

set_option maxRecDepth 100000 in
set_option maxHeartbeats 8000000 in
theorem make7_any (n : Nat) (hn : n ≤ 7) (w : World) :
    Calls Try.prog 20 #[.int .i64 (n : Int)] w fun e w' => ∃ ao cap, e = .returned (.slice ao n cap) ∧ RdS w' 8 (.slice ao n cap) (List.replicate n trC) ∧ RdTs w' (List.replicate n trT) (List.replicate n trC) ∧ Below w.heap.size w w' := by
  obtain ⟨i0, hi, hz0, hz1, hz2⟩ := info_parts infoPred
  go_enter Try.func20, Try.ntmps20
  go_wp2_with (at_make; go_must (refine wpList_make_full _ rfl _ _ 29 rfl w.heap.size 31 i0 _ 8 Try.underlying29 hi hz0 hz1 .i64 .i64 _ _ n rfl rfl rfl rfl (by rw [hz2]; omega) (by unfold maxLen; omega) (Nat.le_refl _) ?_); intro w1 hown1 hgrow1)
  rw [row7_zero n hn] at hown1
  have HO1 := Lib.hid hown1
  have HB1 := Lib.hid (show Below w.heap.size w w1 from ⟨hgrow1.os, hgrow1.tape, hgrow1.output, hgrow1.size, fun i hi => hgrow1.block i hi (by simp)⟩)
  obtain ⟨G, hG⟩ : ∃ G, G = w.heap.size := ⟨_, rfl⟩
  have HGG := Lib.hid hG
  rw [← hG] at HO1 ⊢
  clear hown1 hgrow1 hG hi hz0 hz1 hz2
  go_wp2_with fail
  go_loopw [9] (fun i wr => ∃ q : Nat, q ≤ n ∧ i = .int .i64 (q : Int) ∧ wr.ownsRow G 31 8 (.slice (some ⟨G, 0, none⟩) n n) n (row7 n q).flatten ∧ Below w.heap.size w wr) (fun i _ => n - (intOf i).toNat)
  case atStart => exact ⟨0, Nat.zero_le _, rfl, HO1.out, HB1.out⟩
  case round =>
    obtain ⟨q, hq, rfl, hown, hbel⟩ := hrel
    have HO := Lib.hid hown
    have HB := Lib.hid hbel
    by_cases hlt : q < n
    · have hcell : ∃ u, wr.cell? ⟨G, q * 8, none⟩ = some u := by
        have hlt2 : q * 8 < ((row7 n q).flatten).length := by rw [flatten_len _ 8 (row7_each n q), row7_len]; omega
        exact ⟨_, (hown.cellAt (q * 8) (by omega)).trans (List.getElem?_eq_getElem hlt2)⟩
      obtain ⟨u0, c0⟩ := hcell
      have f0 := hown.frozenAt (q * 8)
      have hqi : (q : Int) < (n : Int) := by omega
      clear hown hbel
      go_wp2_with fail
      go_roundw
      case rel =>
        have hst := (HO.out.stored (q * 8) (.int .i64 1)).1
        rw [row7_set n q hn hlt] at hst
        exact ⟨q + 1, by omega, by go_num, hst, HB.out.setCell (p := ⟨G, q * 8, none⟩) (by show _ ≤ G; rw [HGG.out]; omega) _⟩
      case measure => simp [intOf]; omega
    · have hqn : q = n := by omega
      clear hown hbel
      have hqi : ¬ (q : Int) < (n : Int) := by omega
      have HQ := Lib.hid hqn
      clear hqn
      go_wp2_with fail
      go_ret
      refine ⟨_, _, rfl, ?_, row7_full _ n, HB.out⟩
      have h := rdS_own HO.out (row7_len n q).symm (row7_each n q)
      rw [HQ.out, row7_eq] at h
      exact h

end Go.Proofs.Ytfmkalnnpddefaa
