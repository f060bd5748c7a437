/-
  Contracts of package txns, further: is, Prepare, Commit, Abort.
-/
import Derived.Test.YtdelcaijehcaeaaTx
namespace Go.Proofs.Ytdelcaijehcaeaa
set_option linter.unusedVariables false
open Go.RowKit

def findT (l : List Tx) (id : Int) : Option Tx := if 1 ≤ id ∧ id ≤ (l.length : Int) then l[(id - 1).toNat]? else none

def isT (l : List Tx) (id : Int) (st : Nat) : Bool := match findT l id with | some t => t.s == st | none => false

/-- What a walk is told of the k-th transaction of a book. -/
theorem tx_cells {B g now : Nat} {l : List Tx} {w : World} {v : Value} {k : Nat} {t : Tx} (hown : w.ownsRow B 47 4 v l.length (flat l)) (hk : l[k]? = some t) :
    ∃ gg cap, v = .slice (some ⟨gg, 0, none⟩) l.length cap ∧ ∀ j, j < 4 → w.cell? ⟨gg, k * 4 + j, none⟩ = t.cells[j]? ∧ w.frozen? ⟨gg, k * 4 + j, none⟩ = false := by
  have hkl : k < l.length := (List.getElem?_eq_some_iff.1 hk).1
  have hown2 := hown
  rcases hown.2 with ⟨rfl, h0⟩ | ⟨gg, cap, cur, rfl, _⟩
  · omega
  · refine ⟨gg, cap, rfl, fun j hj => ⟨?_, hown2.frozenAt _⟩⟩
    rw [hown2.cellAt (k * 4 + j) (by omega), flat_at l k t hk j hj]

set_option maxRecDepth 100000 in
set_option maxHeartbeats 1000000 in
theorem is_any (B g now : Nat) (l : List Tx) (w : World) (id : Int) (st : Nat) (h : IsBk B w g now l) (hl : l.length ≤ 1000000) (h1 : -9223372036854775808 ≤ id) (h2 : id ≤ 9223372036854775807) :
    Calls Try.prog 61 #[.pointer (some ⟨g, 0, none⟩), .int .i64 id, .int .i64 (st : Int)] w fun e w' => e = .returned (.bool (isT l id st)) ∧ w = w' := by
  obtain ⟨hBg, hBw, v, hg, hown, hne⟩ := h
  obtain ⟨c0, c1, f0, f1⟩ := bk_cells hg
  clear hg
  by_cases hid : 1 ≤ id
  · by_cases hid2 : id ≤ (l.length : Int)
    · obtain ⟨K, rfl⟩ : ∃ K : Nat, id = (K : Int) + 1 := ⟨(id - 1).toNat, by omega⟩
      have hKl : K < l.length := by omega
      obtain ⟨t, ht⟩ : ∃ t, l[K]? = some t := ⟨_, List.getElem?_eq_getElem hKl⟩
      obtain ⟨gg, cap, rfl, hc⟩ := tx_cells (B := B) (g := g) (now := now) hown ht
      have d1 := (hc 1 (by decide)).1
      have hans : isT l ((K : Int) + 1) st = (t.s == st) := by
        unfold isT findT
        rw [if_pos ⟨hid, hid2⟩, show ((K : Int) + 1 - 1).toNat = K from by omega, ht]
      have HA := Lib.hid hans
      obtain ⟨n, hn⟩ : ∃ n, n = l.length := ⟨_, rfl⟩
      rw [← hn] at c1 hKl hid2 hl
      obtain ⟨s, hs⟩ : ∃ s, s = t.s := ⟨_, rfl⟩
      have d2 : w.cell? ⟨gg, K * 4 + 1, none⟩ = some (.int .i64 (s : Int)) := by rw [d1, hs]; rfl
      have HS := Lib.hid hs
      clear hc d1 hans hown ht hn hs hne
      by_cases hss : s = st
      · have hb : ((s : Int) == (st : Int)) = true := by rw [beq_iff_eq]; omega
        clear hss
        go_enter Try.func61, Try.ntmps61
        go_wp2
        go_ret
        refine ⟨?_, rfl⟩
        rw [HA.out, ← HS.out]
        rw [beq_iff_eq] at hb
        have e1 : (s == st) = true := by rw [beq_iff_eq]; omega
        rw [e1]; rfl
      · have hb : ((s : Int) == (st : Int)) = false := by rw [beq_eq_false_iff_ne]; omega
        go_enter Try.func61, Try.ntmps61
        go_wp2
        go_ret
        refine ⟨?_, rfl⟩
        rw [HA.out, ← HS.out]
        have e1 : (s == st) = false := by rw [beq_eq_false_iff_ne]; exact hss
        rw [e1]; rfl
    · obtain ⟨ao, cap, rfl⟩ := own_shape hown
      have HA := Lib.hid (show isT l id st = false by unfold isT findT; rw [if_neg (by omega)])
      have hb : decide (id ≤ (l.length : Int)) = false := by simp; omega
      clear hown hne
      go_enter Try.func61, Try.ntmps61
      go_wp2
      go_ret
      exact ⟨by rw [HA.out]; rfl, rfl⟩
  · have HA := Lib.hid (show isT l id st = false by unfold isT findT; rw [if_neg (by omega)])
    have hb : decide ((1 : Int) ≤ id) = false := by simp; omega
    clear hown hne
    go_enter Try.func61, Try.ntmps61
    go_wp2
    go_ret
    exact ⟨by rw [HA.out]; rfl, rfl⟩

end Go.Proofs.Ytdelcaijehcaeaa
