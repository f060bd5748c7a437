/-
  Contract of stam's State.
-/
import Derived.Test.YtnjeoolbnanmiaaBase
namespace Go.Proofs.Ytnjeoolbnanmiaa
set_option linter.unusedVariables false
open Go.RowKit

/-- A transaction of any numbers. -/
structure Ti where
  i : Int
  s : Int
  b : Int
  e : Int

def Ti.cells (t : Ti) : List Value := [.int .i64 t.i, .int .i64 t.s, .int .i64 t.b, .int .i64 t.e]
def Ti.agg (t : Ti) : Value := .agg #[.int .i64 t.i, .int .i64 t.s, .int .i64 t.b, .int .i64 t.e]
def Ti.zero : Ti := ⟨0, 0, 0, 0⟩

/-- v is a slice that reads as these transactions. -/
def RdT (w : World) (v : Value) (l : List Ti) : Prop :=
  ∃ ao cap, v = .slice ao l.length cap ∧ ∀ k t, l[k]? = some t → ∃ b off, ao = some ⟨b, off, none⟩ ∧ ∀ j, j < 4 → w.cell? ⟨b, off + k * 4 + j, none⟩ = t.cells[j]?

theorem RdT.kept {w w' : World} {v : Value} {l : List Ti} (h : RdT w v l) (hb : Below w.heap.size w w') : RdT w' v l := by
  obtain ⟨ao, cap, hv, hc⟩ := h
  refine ⟨ao, cap, hv, fun k t ht => ?_⟩
  obtain ⟨b, off, ha, hcell⟩ := hc k t ht
  refine ⟨b, off, ha, fun j hj => ?_⟩
  have h1 := hcell j hj
  have h2 : ∃ u, t.cells[j]? = some u := ⟨_, List.getElem?_eq_getElem (by simp [Ti.cells]; omega)⟩
  obtain ⟨u, hu⟩ := h2
  rw [hu] at h1 ⊢
  exact (hb.cell (p := ⟨b, off + k * 4 + j, none⟩) (World.block_lt_of_cell? _ _ h1)).trans h1

/-- The first of that ID. -/
def firstI (l : List Ti) (id : Int) : Option Nat := l.findIdx? (fun t => t.i == id)
/-- Its place; -1 of none. -/
def idxI (l : List Ti) (id : Int) : Int := match firstI l id with | some k => (k : Int) | none => -1
def stateT (l : List Ti) (id : Int) : Ti := (l.find? (fun t => t.i == id)).getD Ti.zero

set_option maxRecDepth 100000 in
set_option maxHeartbeats 1000000 in
theorem state1_any (t : Ti) (c : Nat) (id : Int) (w : World) (hc : w.cell? ⟨c, 0, none⟩ = some (.int .i64 id)) :
    Calls Try.prog 51 #[t.agg, .pointer (some ⟨c, 0, none⟩)] w fun e w' => e = .returned (.bool (t.i == id)) ∧ Below w.heap.size w w' := by
  have lc := World.block_lt_of_cell? w _ hc
  obtain ⟨i, s, b, e⟩ := t
  unfold Ti.agg
  simp only
  have hc2 : (w.alloc (.cells #[.int .i64 i, .int .i64 s, .int .i64 b, .int .i64 e] 26)).cell? ⟨c, 0, none⟩ = some (.int .i64 id) := Lib.cell?_alloc_some _ hc
  go_enter Try.func51, Try.ntmps51
  go_wp2_with fail
  go_ret
  exact ⟨rfl, below_alloc w _⟩

set_option maxRecDepth 100000 in
set_option maxHeartbeats 1000000 in
theorem index_any (v : Value) (l : List Ti) (c : Nat) (id : Int) (w : World) (hr : RdT w v l) (hl : l.length ≤ 1000000) (hc : w.cell? ⟨c, 0, none⟩ = some (.int .i64 id)) :
    Calls Try.prog 50 #[v, .func (.func 51) #[] #[.pointer (some ⟨c, 0, none⟩)]] w fun e w' =>
      e = .returned (.int .i64 (idxI l id)) ∧ Below w.heap.size w w' := by
  have HR := Lib.hid hr
  obtain ⟨ao, cap, rfl, _⟩ := hr
  obtain ⟨n, hn⟩ : ∃ n, n = l.length := ⟨_, rfl⟩
  rw [← hn] at HR hl ⊢
  have HN := Lib.hid hn
  have HC := Lib.hid hc
  clear hn hc
  go_enter Try.func50, Try.ntmps50
  go_wp2_with fail
  go_loopw [8] (fun i wr => ∃ k : Nat, k ≤ n ∧ i = .int .i64 (k : Int) ∧ (∀ m t, m < k → l[m]? = some t → (t.i == id) = false) ∧ Below w.heap.size w wr) (fun i _ => n - (intOf i).toNat)
  case atStart => exact ⟨0, Nat.zero_le _, rfl, (fun m t h => by omega), Below.refl _ _⟩
  case round =>
    obtain ⟨k, hk, rfl, hall, hbel⟩ := hrel
    have HA := Lib.hid hall
    have HB := Lib.hid hbel
    clear hall hbel
    by_cases hlt : k < n
    · obtain ⟨t, ht⟩ : ∃ t, l[k]? = some t := ⟨_, List.getElem?_eq_getElem (by rw [← HN.out]; exact hlt)⟩
      obtain ⟨ao', cap', hv, hc⟩ := HR.out.kept HB.out
      simp only [Value.slice.injEq] at hv
      have hao := hv.1
      clear hv
      subst hao
      obtain ⟨b, off, rfl, hcell⟩ := hc k t ht
      have k0 : wr.cell? ⟨b, off + k * 4, none⟩ = some (.int .i64 t.i) := hcell 0 (by decide)
      have k1 : wr.cell? ⟨b, off + k * 4 + 1, none⟩ = some (.int .i64 t.s) := hcell 1 (by decide)
      have k2 : wr.cell? ⟨b, off + k * 4 + 2, none⟩ = some (.int .i64 t.b) := hcell 2 (by decide)
      have k3 : wr.cell? ⟨b, off + k * 4 + 3, none⟩ = some (.int .i64 t.e) := hcell 3 (by decide)
      have hcw := (HB.out.cell (p := ⟨c, 0, none⟩) (World.block_lt_of_cell? _ _ HC.out)).trans HC.out
      have HCW := Lib.hid hcw
      have HT := Lib.hid ht
      clear hc hcell ht hcw
      cases he : (t.i == id)
      · have HE := Lib.hid he
        clear he
        go_wp2_with (go_at_call 51; go_must (refine (state1_any t c id _ HCW.out).mono ?_); rw [HE.out]; rintro e w2 ⟨rfl, hb⟩; have HB2 := Lib.hid (below_then HB.out hb))
        go_roundw
        case rel =>
          refine ⟨k + 1, by omega, by go_num, fun m t' hm ht' => ?_, HB2.out⟩
          by_cases h : m = k
          · subst h
            rw [HT.out] at ht'
            simp only [Option.some.injEq] at ht'
            rw [← ht']; exact HE.out
          · exact HA.out m t' (by omega) ht'
        case measure => simp [intOf]; omega
      · have HE := Lib.hid he
        have HF := Lib.hid (show firstI l id = some k by
          unfold firstI
          rw [List.findIdx?_eq_some_iff_getElem]
          have hkl : k < l.length := by rw [← HN.out]; exact hlt
          refine ⟨hkl, ?_, fun j hj => ?_⟩
          · have := HT.out
            rw [List.getElem?_eq_getElem hkl] at this
            simp only [Option.some.injEq] at this
            rw [this]; exact he
          · have := HA.out j _ hj (List.getElem?_eq_getElem (by omega))
            simpa using this)
        clear he
        go_wp2_with (go_at_call 51; go_must (refine (state1_any t c id _ HCW.out).mono ?_); rw [HE.out]; rintro e w2 ⟨rfl, hb⟩; have HB2 := Lib.hid (below_then HB.out hb))
        go_ret
        exact ⟨congrArg (fun z => Ending.returned (.int .i64 z)) (show (k : Int) = idxI l id by unfold idxI; rw [HF.out]), HB2.out⟩
    · have HF := Lib.hid (show firstI l id = none by
        unfold firstI
        rw [List.findIdx?_eq_none_iff]
        intro x hx
        obtain ⟨m, hm, hmx⟩ := List.getElem_of_mem hx
        exact HA.out m x (by rw [← HN.out] at hm; omega) (by rw [List.getElem?_eq_getElem hm, hmx]))
      go_wp2_with fail
      go_ret
      exact ⟨congrArg (fun z => Ending.returned (.int .i64 z)) (show (-1 : Int) = idxI l id by unfold idxI; rw [HF.out]), HB.out⟩

/-- Four cells of a block, written one behind the other: what stands there. -/
theorem four_heap {w : World} {X : Nat} {a b c d a' b' c' d' : Value} {T : TypeId} (h : w.heap[X]? = some (.cells #[a, b, c, d] T (0, 0))) :
    ((((w.setCell ⟨X, 0, none⟩ a').setCell ⟨X, 1, none⟩ b').setCell ⟨X, 2, none⟩ c').setCell ⟨X, 3, none⟩ d').heap[X]? = some (.cells #[a', b', c', d'] T (0, 0)) := by
  have h0 := heap_setCell_same w X 0 _ _ a' h
  have h1 := heap_setCell_same (w.setCell ⟨X, 0, none⟩ a') X 1 _ _ b' h0
  have h2 := heap_setCell_same _ X 2 _ _ c' h1
  have h3 := heap_setCell_same _ X 3 _ _ d' h2
  rw [h3]
  simp

theorem infoTx4 : (Try.prog.info? 26).map (·.size) = some 4 := by kernel_rfl

set_option maxRecDepth 100000 in
set_option maxHeartbeats 1000000 in
theorem state_any (v : Value) (l : List Ti) (id : Int) (w : World) (hr : RdT w v l) (hl : l.length ≤ 1000000) :
    Calls Try.prog 16 #[.int .i64 id, v] w fun e w' => e = .returned (stateT l id).agg ∧ Below w.heap.size w w' := by
  have HR := Lib.hid hr
  obtain ⟨ao, cap, rfl, _⟩ := hr
  have hsz : (w.alloc (.cells #[.int .i64 id] 3)).heap.size = w.heap.size + 1 := by simp
  have hz0 := heap_alloc_new (w.alloc (.cells #[.int .i64 id] 3)) (.cells #[.int .i64 0, .int .i64 0, .int .i64 0, .int .i64 0] 26)
  rw [hsz] at hz0
  have hc0 : ((w.alloc (.cells #[.int .i64 id] 3)).alloc (.cells #[.int .i64 0, .int .i64 0, .int .i64 0, .int .i64 0] 26)).cell? ⟨w.heap.size, 0, none⟩ = some (.int .i64 id) :=
    Lib.cell?_alloc_some _ (by rw [cell_of_row _ w.heap.size 0 _ _ _ (heap_alloc_new w (.cells #[.int .i64 id] 3))]; rfl)
  have HBA := Lib.hid (below_lay (below_alloc w (.cells #[.int .i64 id] 3)) (.cells #[.int .i64 0, .int .i64 0, .int .i64 0, .int .i64 0] 26))
  obtain ⟨X, hX⟩ : ∃ X, X = w.heap.size + 1 := ⟨_, rfl⟩
  have HXW := Lib.hid (show w.heap.size ≤ X by omega)
  have HZ0 := Lib.hid hz0
  have HC0 := Lib.hid hc0
  have HX := Lib.hid hX
  clear hsz hz0 hc0 hX
  obtain ⟨n, hn⟩ : ∃ n, n = l.length := ⟨_, rfl⟩
  rw [← hn] at HR hl ⊢
  have HN := Lib.hid hn
  clear hn
  go_enter Try.func16, Try.ntmps16
  go_wp2_with fail
  refine (index_any _ l w.heap.size id _ (HR.out.kept HBA.out) (by rw [← HN.out]; exact hl) HC0.out).mono ?_
  rintro e w3 ⟨rfl, hb⟩
  have hz : w3.heap[X]? = some (.cells #[.int .i64 0, .int .i64 0, .int .i64 0, .int .i64 0] 26 (0, 0)) := by
    rw [HX.out]; exact (hb.block (w.heap.size + 1) (by simp)).trans HZ0.out
  rw [← HX.out]
  have c0 : w3.cell? ⟨X, 0, none⟩ = some (.int .i64 0) := by rw [cell_of_row w3 X 0 _ _ _ hz]; rfl
  have c1 : w3.cell? ⟨X, 1, none⟩ = some (.int .i64 0) := by rw [cell_of_row w3 X 1 _ _ _ hz]; rfl
  have c2 : w3.cell? ⟨X, 2, none⟩ = some (.int .i64 0) := by rw [cell_of_row w3 X 2 _ _ _ hz]; rfl
  have c3 : w3.cell? ⟨X, 3, none⟩ = some (.int .i64 0) := by rw [cell_of_row w3 X 3 _ _ _ hz]; rfl
  have f0 : w3.frozen? ⟨X, 0, none⟩ = false := frozen_of_row w3 X 0 _ _ hz
  have f1 : w3.frozen? ⟨X, 1, none⟩ = false := frozen_of_row w3 X 1 _ _ hz
  have f2 : w3.frozen? ⟨X, 2, none⟩ = false := frozen_of_row w3 X 2 _ _ hz
  have f3 : w3.frozen? ⟨X, 3, none⟩ = false := frozen_of_row w3 X 3 _ _ hz
  have HR3 := Lib.hid ((HR.out.kept HBA.out).kept hb)
  have HB3 := Lib.hid (below_then HBA.out hb)
  have HZ := Lib.hid hz
  clear hb hz HZ0 HC0
  rcases hf : firstI l id with _ | k
  · have hi : idxI l id = -1 := by unfold idxI; rw [hf]
    have HS := Lib.hid (show stateT l id = Ti.zero by
      unfold firstI at hf
      unfold stateT
      rw [List.findIdx?_eq_none_iff] at hf
      rw [List.find?_eq_none.2 (fun x hx => by rw [hf x hx]; simp)]
      rfl)
    rw [hi]
    clear hf hi
    go_wp2_with fail
    (try simp only [Exit.inBlock, Exit.then])
    refine bodyPost_ret (results_cell_row rfl _ _ X _ _ (0, 0) _ rfl (four_heap HZ.out) Try.underlying26 rfl infoTx4) rfl ?_
    refine ⟨by rw [HS.out]; rfl, HB3.out.trans ?_⟩
    exact (((((Below.refl w.heap.size w3).setCell (p := ⟨X, 0, none⟩) HXW.out _).setCell (p := ⟨X, 1, none⟩) HXW.out _).setCell (p := ⟨X, 2, none⟩) HXW.out _).setCell (p := ⟨X, 3, none⟩) HXW.out _)
  · have hi : idxI l id = (k : Int) := by unfold idxI; rw [hf]
    unfold firstI at hf
    rw [List.findIdx?_eq_some_iff_getElem] at hf
    obtain ⟨hkl, hp, hall⟩ := hf
    obtain ⟨t, ht⟩ : ∃ t, t = l[k] := ⟨_, rfl⟩
    have HS := Lib.hid (show stateT l id = t by
      unfold stateT
      have hfi : l.find? (fun t => t.i == id) = some l[k] := List.find?_eq_some_iff_getElem.2 ⟨hp, k, hkl, rfl, fun j hj => by have := hall j hj; simpa using this⟩
      rw [hfi, ht]
      rfl)
    have hkn : k < n := by rw [HN.out]; exact hkl
    obtain ⟨ao', cap', hv, hc⟩ := HR3.out
    simp only [Value.slice.injEq] at hv
    have hao := hv.1
    clear hv
    subst hao
    obtain ⟨b, off, rfl, hcell⟩ := hc k t (by rw [ht, List.getElem?_eq_getElem hkl])
    have k0 : w3.cell? ⟨b, off + k * 4, none⟩ = some (.int .i64 t.i) := hcell 0 (by decide)
    have k1 : w3.cell? ⟨b, off + k * 4 + 1, none⟩ = some (.int .i64 t.s) := hcell 1 (by decide)
    have k2 : w3.cell? ⟨b, off + k * 4 + 2, none⟩ = some (.int .i64 t.b) := hcell 2 (by decide)
    have k3 : w3.cell? ⟨b, off + k * 4 + 3, none⟩ = some (.int .i64 t.e) := hcell 3 (by decide)
    rw [hi]
    clear hi hp hall ht hkl hc hcell HR3
    go_wp2_with fail
    (try simp only [Exit.inBlock, Exit.then])
    refine bodyPost_ret (results_cell_row rfl _ _ X _ _ (0, 0) _ rfl (four_heap HZ.out) Try.underlying26 rfl infoTx4) rfl ?_
    refine ⟨by rw [HS.out]; rfl, HB3.out.trans ?_⟩
    exact (((((Below.refl w.heap.size w3).setCell (p := ⟨X, 0, none⟩) HXW.out _).setCell (p := ⟨X, 1, none⟩) HXW.out _).setCell (p := ⟨X, 2, none⟩) HXW.out _).setCell (p := ⟨X, 3, none⟩) HXW.out _)

end Go.Proofs.Ytnjeoolbnanmiaa
