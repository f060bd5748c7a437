/-
  Contracts of package txns, further: Prepare, Commit, Abort.
-/
import Derived.Test.YtdelcaijehcaeaaTxb
namespace Go.Proofs.Ytdelcaijehcaeaa
set_option linter.unusedVariables false
open Go.RowKit

def updT (l : List Tx) (id : Int) (f : Tx → Tx) : List Tx := match l[(id - 1).toNat]? with | some t => l.set (id - 1).toNat (f t) | none => l

theorem bk_set {B g now K j : Nat} {l : List Tx} {w : World} {t t' : Tx} {u v : Value} {gg n cap : Nat} (h : IsBk B w g now l) (hv : w.heap[g]? = some (.cells #[u, .slice (some ⟨gg, 0, none⟩) n cap] 53 (0, 0))) (hk : l[K]? = some t) (hj : j < 4) (ht : t'.cells = t.cells.set j v) :
    IsBk B (w.setCell ⟨gg, K * 4 + j, none⟩ v) g now (l.set K t') ∧ Below B w (w.setCell ⟨gg, K * 4 + j, none⟩ v) ∧ (w.setCell ⟨gg, K * 4 + j, none⟩ v).heap[g]? = some (.cells #[u, .slice (some ⟨gg, 0, none⟩) n cap] 53 (0, 0)) := by
  obtain ⟨hBg, hBw, v0, hg, hown, hne⟩ := h
  rw [hv] at hg
  simp only [Option.some.injEq, Obj.cells.injEq, Array.mk.injEq, List.cons.injEq, and_true] at hg
  obtain ⟨hu, hv0⟩ := hg
  subst hv0
  have hgg : gg ≠ g := by intro h; apply hne; rw [h]; rfl
  have hBgg := own_base hown gg rfl
  have hn : n = l.length := by
    rcases hown.2 with ⟨h, _⟩ | ⟨g', cap', cur, h, _⟩
    · cases h
    · simp only [Value.slice.injEq] at h; exact h.2.1
  subst hn
  have hst := hown.stored (K * 4 + j) v
  have hhe : (w.setCell ⟨gg, K * 4 + j, none⟩ v).heap[g]? = some (.cells #[u, .slice (some ⟨gg, 0, none⟩) l.length cap] 53 (0, 0)) := by
    rw [heap_setCell_other w ⟨gg, K * 4 + j, none⟩ g v (fun h => hgg h.symm)]; exact hv
  refine ⟨⟨hBg, by simpa [World.setCell] using hBw, _, by rw [hhe, hu], ?_, hne⟩, (Below.refl B w).setCell hBgg v, hhe⟩
  rw [List.length_set, ← flat_set l K t t' hk j hj v ht]
  exact hst.1

theorem bk_now {B g now now' : Nat} {l : List Tx} {w : World} {v : Value} (h : IsBk B w g now l) (hv : w.heap[g]? = some (.cells #[.int .i64 (now : Int), v] 53 (0, 0))) :
    IsBk B (w.setCell ⟨g, 0, none⟩ (.int .i64 (now' : Int))) g now' l ∧ Below B w (w.setCell ⟨g, 0, none⟩ (.int .i64 (now' : Int))) ∧ (w.setCell ⟨g, 0, none⟩ (.int .i64 (now' : Int))).heap[g]? = some (.cells #[.int .i64 (now' : Int), v] 53 (0, 0)) := by
  obtain ⟨hBg, hBw, v0, hg, hown, hne⟩ := h
  rw [hv] at hg
  simp only [Option.some.injEq, Obj.cells.injEq, Array.mk.injEq, List.cons.injEq, and_true, true_and] at hg
  subst hg
  have hst := heap_setCell_same w g 0 _ _ (.int .i64 (now' : Int)) hv
  exact ⟨⟨hBg, by simpa [World.setCell] using hBw, _, hst, hown.kept (grown_setCell w ⟨g, 0, none⟩ _) (.inr hne), hne⟩, (Below.refl B w).setCell hBg _, hst⟩

theorem isT_some {l : List Tx} {id : Int} {st : Nat} (h : isT l id st = true) : ∃ K : Nat, ∃ t, id = (K : Int) + 1 ∧ K < l.length ∧ l[K]? = some t ∧ t.s = st := by
  unfold isT findT at h
  by_cases hc : 1 ≤ id ∧ id ≤ (l.length : Int)
  · rw [if_pos hc] at h
    have hK : (id - 1).toNat < l.length := by omega
    rw [List.getElem?_eq_getElem hK] at h
    exact ⟨(id - 1).toNat, _, by omega, hK, List.getElem?_eq_getElem hK, by simpa using h⟩
  · rw [if_neg hc] at h; cases h

theorem updT_at {l : List Tx} {K : Nat} {t : Tx} (f : Tx → Tx) (h : l[K]? = some t) : updT l ((K : Int) + 1) f = l.set K (f t) := by
  unfold updT
  rw [show ((K : Int) + 1 - 1).toNat = K from by omega, h]

set_option maxRecDepth 100000 in
set_option maxHeartbeats 1000000 in
theorem commit_no (B g now : Nat) (l : List Tx) (w : World) (id : Int) (h : IsBk B w g now l) (hl : l.length ≤ 1000000) (h1 : -9223372036854775808 ≤ id) (h2 : id ≤ 9223372036854775807) (hn : isT l id 2 = false) :
    Calls Try.prog 49 #[.pointer (some ⟨g, 0, none⟩), .int .i64 id] w fun e w' => e = .returned (.bool false) ∧ w = w' := by
  have HI := Lib.hid h
  have HN := Lib.hid hn
  clear h hn
  go_enter Try.func49, Try.ntmps49
  go_wp2_with fail
  refine (is_any B g now l w id 2 HI.out hl h1 h2).mono ?_
  rw [HN.out]
  rintro e w' ⟨rfl, rfl⟩
  go_wp2_with fail
  go_ret
  exact ⟨rfl, rfl⟩

set_option maxRecDepth 100000 in
set_option maxHeartbeats 1000000 in
theorem commit_yes (B g now : Nat) (l : List Tx) (w : World) (id : Int) (h : IsBk B w g now l) (hl : l.length ≤ 1000000) (h1 : -9223372036854775808 ≤ id) (h2 : id ≤ 9223372036854775807) (hn : isT l id 2 = true) :
    Calls Try.prog 49 #[.pointer (some ⟨g, 0, none⟩), .int .i64 id] w fun e w' => e = .returned (.bool true) ∧ IsBk B w' g now (updT l id fun t => ⟨t.i, 3, t.b, t.e⟩) ∧ Below B w w' := by
  have HI := Lib.hid h
  have HN := Lib.hid hn
  obtain ⟨K, t, rfl, hK, ht, hs⟩ := isT_some hn
  obtain ⟨_, _, v, hg, hown, hne⟩ := h
  obtain ⟨gg, cap, rfl, hc⟩ := tx_cells (B := B) (g := g) (now := now) hown ht
  obtain ⟨c0, c1, f0, f1⟩ := bk_cells hg
  have HU := Lib.hid (updT_at (fun t => ⟨t.i, 3, t.b, t.e⟩) ht)
  have HB := Lib.hid (bk_set (t' := ⟨t.i, 3, t.b, t.e⟩) (v := .int .i64 (3 : Int)) HI.out hg ht (show 1 < 4 by decide) rfl)
  have d1 := (hc 1 (by decide)).1
  have e1 := (hc 1 (by decide)).2
  have d2 : w.cell? ⟨gg, K * 4 + 1, none⟩ = some (.int .i64 (t.s : Int)) := by rw [d1]; rfl
  obtain ⟨n, hnn⟩ : ∃ n, n = l.length := ⟨_, rfl⟩
  rw [← hnn] at c1 hK hl HB
  have HNN := Lib.hid hnn
  clear hc d1 hg hown hne ht hs hn hnn
  go_enter Try.func49, Try.ntmps49
  go_wp2_with fail
  refine (is_any B g now l w _ 2 HI.out (by rw [← HNN.out]; exact hl) h1 h2).mono ?_
  rw [HN.out]
  rintro e w' ⟨rfl, rfl⟩
  go_wp2_with fail
  go_ret
  rw [HU.out]
  exact ⟨rfl, HB.out.1, HB.out.2.1⟩

end Go.Proofs.Ytdelcaijehcaeaa
