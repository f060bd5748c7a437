/-
  Contracts of package txns, further: Abort, Prepare.
-/
import Derived.Test.YtdelcaijehcaeaaTxc
namespace Go.Proofs.Ytdelcaijehcaeaa
set_option linter.unusedVariables false
open Go.RowKit

set_option maxRecDepth 100000 in
set_option maxHeartbeats 1000000 in
theorem abort_no (B g now : Nat) (l : List Tx) (w : World) (id : Int) (h : IsBk B w g now l) (hl : l.length ≤ 1000000) (h1 : -9223372036854775808 ≤ id) (h2 : id ≤ 9223372036854775807) (hn : isT l id 1 = false) (hn2 : isT l id 2 = false) :
    Calls Try.prog 50 #[.pointer (some ⟨g, 0, none⟩), .int .i64 id] w fun e w' => e = .returned (.bool false) ∧ w = w' := by
  have HI := Lib.hid h
  have HN := Lib.hid hn
  have HN2 := Lib.hid hn2
  clear h hn hn2
  go_enter Try.func50, Try.ntmps50
  go_wp2_with fail
  refine (is_any B g now l w id 1 HI.out hl h1 h2).mono ?_
  rw [HN.out]
  rintro e w' ⟨rfl, rfl⟩
  go_wp2_with fail
  refine (is_any B g now l w id 2 HI.out hl h1 h2).mono ?_
  rw [HN2.out]
  rintro e w' ⟨rfl, rfl⟩
  go_wp2_with fail
  go_ret
  exact ⟨rfl, rfl⟩

set_option maxRecDepth 100000 in
set_option maxHeartbeats 1000000 in
theorem abort_yes1 (B g now : Nat) (l : List Tx) (w : World) (id : Int) (h : IsBk B w g now l) (hl : l.length ≤ 1000000) (h1 : -9223372036854775808 ≤ id) (h2 : id ≤ 9223372036854775807) (hn : isT l id 1 = true) :
    Calls Try.prog 50 #[.pointer (some ⟨g, 0, none⟩), .int .i64 id] w fun e w' => e = .returned (.bool true) ∧ IsBk B w' g now (updT l id fun t => ⟨t.i, 4, t.b, t.e⟩) ∧ Below B w w' := by
  have HI := Lib.hid h
  have HN := Lib.hid hn
  obtain ⟨K, t, rfl, hK, ht, hs⟩ := isT_some hn
  obtain ⟨_, _, v, hg, hown, hne⟩ := h
  obtain ⟨gg, cap, rfl, hc⟩ := tx_cells (B := B) (g := g) (now := now) hown ht
  obtain ⟨c0, c1, f0, f1⟩ := bk_cells hg
  have HU := Lib.hid (updT_at (fun t => ⟨t.i, 4, t.b, t.e⟩) ht)
  have HB := Lib.hid (bk_set (t' := ⟨t.i, 4, t.b, t.e⟩) (v := .int .i64 (4 : Int)) HI.out hg ht (show 1 < 4 by decide) rfl)
  have d1 := (hc 1 (by decide)).1
  have e1 := (hc 1 (by decide)).2
  have d2 : w.cell? ⟨gg, K * 4 + 1, none⟩ = some (.int .i64 (t.s : Int)) := by rw [d1]; rfl
  obtain ⟨n, hnn⟩ : ∃ n, n = l.length := ⟨_, rfl⟩
  rw [← hnn] at c1 hK hl HB
  have HNN := Lib.hid hnn
  clear hc d1 hg hown hne ht hs hn hnn
  go_enter Try.func50, Try.ntmps50
  go_wp2_with fail
  refine (is_any B g now l w _ 1 HI.out (by rw [← HNN.out]; exact hl) h1 h2).mono ?_
  rw [HN.out]
  rintro e w' ⟨rfl, rfl⟩
  go_wp2_with fail
  go_ret
  rw [HU.out]
  exact ⟨rfl, HB.out.1, HB.out.2.1⟩

set_option maxRecDepth 100000 in
set_option maxHeartbeats 1000000 in
theorem abort_yes2 (B g now : Nat) (l : List Tx) (w : World) (id : Int) (h : IsBk B w g now l) (hl : l.length ≤ 1000000) (h1 : -9223372036854775808 ≤ id) (h2 : id ≤ 9223372036854775807) (hn : isT l id 2 = true) :
    Calls Try.prog 50 #[.pointer (some ⟨g, 0, none⟩), .int .i64 id] w fun e w' => e = .returned (.bool true) ∧ IsBk B w' g now (updT l id fun t => ⟨t.i, 4, t.b, t.e⟩) ∧ Below B w w' := by
  have HI := Lib.hid h
  have HN := Lib.hid hn
  have hn1 : isT l id 1 = false := by
    unfold isT at hn ⊢
    split at hn
    · rename_i t ht; rw [beq_iff_eq] at hn; simp [hn]
    · cases hn
  have HN1 := Lib.hid hn1
  clear hn1
  obtain ⟨K, t, rfl, hK, ht, hs⟩ := isT_some hn
  obtain ⟨_, _, v, hg, hown, hne⟩ := h
  obtain ⟨gg, cap, rfl, hc⟩ := tx_cells (B := B) (g := g) (now := now) hown ht
  obtain ⟨c0, c1, f0, f1⟩ := bk_cells hg
  have HU := Lib.hid (updT_at (fun t => ⟨t.i, 4, t.b, t.e⟩) ht)
  have HB := Lib.hid (bk_set (t' := ⟨t.i, 4, t.b, t.e⟩) (v := .int .i64 (4 : Int)) HI.out hg ht (show 1 < 4 by decide) rfl)
  have d1 := (hc 1 (by decide)).1
  have e1 := (hc 1 (by decide)).2
  have d2 : w.cell? ⟨gg, K * 4 + 1, none⟩ = some (.int .i64 (t.s : Int)) := by rw [d1]; rfl
  obtain ⟨n, hnn⟩ : ∃ n, n = l.length := ⟨_, rfl⟩
  rw [← hnn] at c1 hK hl HB
  have HNN := Lib.hid hnn
  clear hc d1 hg hown hne ht hs hn hnn
  go_enter Try.func50, Try.ntmps50
  go_wp2_with fail
  refine (is_any B g now l w _ 1 HI.out (by rw [← HNN.out]; exact hl) h1 h2).mono ?_
  rw [HN1.out]
  rintro e w' ⟨rfl, rfl⟩
  go_wp2_with fail
  refine (is_any B g now l w _ 2 HI.out (by rw [← HNN.out]; exact hl) h1 h2).mono ?_
  rw [HN.out]
  rintro e w' ⟨rfl, rfl⟩
  go_wp2_with fail
  go_ret
  rw [HU.out]
  exact ⟨rfl, HB.out.1, HB.out.2.1⟩

set_option maxRecDepth 100000 in
set_option maxHeartbeats 1000000 in
theorem prep_no (B g now : Nat) (l : List Tx) (w : World) (id : Int) (h : IsBk B w g now l) (hl : l.length ≤ 1000000) (h1 : -9223372036854775808 ≤ id) (h2 : id ≤ 9223372036854775807) (hn : isT l id 1 = false) :
    Calls Try.prog 27 #[.pointer (some ⟨g, 0, none⟩), .int .i64 id] w fun e w' => e = .returned (.tuple #[.int .i64 0, .bool false]) ∧ w = w' := by
  have HI := Lib.hid h
  have HN := Lib.hid hn
  clear h hn
  go_enter Try.func27, Try.ntmps27
  go_wp2_with fail
  refine (is_any B g now l w id 1 HI.out hl h1 h2).mono ?_
  rw [HN.out]
  rintro e w' ⟨rfl, rfl⟩
  go_wp2_with fail
  go_ret2
  exact ⟨rfl, rfl⟩

set_option maxRecDepth 100000 in
set_option maxHeartbeats 2000000 in
theorem prep_yes (B g now : Nat) (l : List Tx) (w : World) (id : Int) (h : IsBk B w g now l) (hl : l.length ≤ 1000000) (hnow : now ≤ 4000000000) (h1 : -9223372036854775808 ≤ id) (h2 : id ≤ 9223372036854775807) (hn : isT l id 1 = true) :
    Calls Try.prog 27 #[.pointer (some ⟨g, 0, none⟩), .int .i64 id] w fun e w' => e = .returned (.tuple #[.int .i64 ((now : Int) + 1), .bool true]) ∧ IsBk B w' g (now + 1) (updT l id fun t => ⟨t.i, 2, t.b, now + 1⟩) ∧ Below B w w' := by
  have HI := Lib.hid h
  have HN := Lib.hid hn
  obtain ⟨K, t, rfl, hK, ht, hs⟩ := isT_some hn
  obtain ⟨_, _, v, hg, hown, hne⟩ := h
  obtain ⟨gg, cap, rfl, hc⟩ := tx_cells (B := B) (g := g) (now := now) hown ht
  obtain ⟨c0, c1, f0, f1⟩ := bk_cells hg
  have hgg : gg ≠ g := by intro h; apply hne; rw [h]; rfl
  have HU := Lib.hid (updT_at (fun t => ⟨t.i, 2, t.b, now + 1⟩) ht)
  obtain ⟨b1, b2, b3⟩ := bk_now (now' := now + 1) HI.out hg
  obtain ⟨b4, b5, b6⟩ := bk_set (t' := ⟨t.i, 2, t.b, t.e⟩) (v := .int .i64 (2 : Int)) b1 b3 ht (show 1 < 4 by decide) rfl
  have ht2 : (l.set K ⟨t.i, 2, t.b, t.e⟩)[K]? = some ⟨t.i, 2, t.b, t.e⟩ := by rw [List.getElem?_set_self hK]
  obtain ⟨b7, b8, b9⟩ := bk_set (t' := ⟨t.i, 2, t.b, now + 1⟩) (v := .int .i64 ((now + 1 : Nat) : Int)) b4 b6 ht2 (show 3 < 4 by decide) rfl
  rw [List.set_set] at b7
  have H7 := Lib.hid b7
  have HB := Lib.hid ((b2.trans b5).trans b8)
  have d1 := (hc 1 (by decide)).1
  have e1 := (hc 1 (by decide)).2
  have d3 := (hc 3 (by decide)).1
  have e3 := (hc 3 (by decide)).2
  have d2 : w.cell? ⟨gg, K * 4 + 1, none⟩ = some (.int .i64 (t.s : Int)) := by rw [d1]; rfl
  have d4 : w.cell? ⟨gg, K * 4 + 3, none⟩ = some (.int .i64 (t.e : Int)) := by rw [d3]; rfl
  obtain ⟨n, hnn⟩ : ∃ n, n = l.length := ⟨_, rfl⟩
  rw [← hnn] at c1 hK hl
  have HNN := Lib.hid hnn
  clear hc d1 d3 hg hown hne ht hs hn hnn b1 b2 b3 b4 b5 b6 b7 b8 b9 ht2
  go_enter Try.func27, Try.ntmps27
  go_wp2_with fail
  refine (is_any B g now l w _ 1 HI.out (by rw [← HNN.out]; exact hl) h1 h2).mono ?_
  rw [HN.out]
  rintro e w' ⟨rfl, rfl⟩
  go_wp2_with fail
  go_ret2
  rw [HU.out]
  exact ⟨rfl, H7.out, HB.out⟩

end Go.Proofs.Ytdelcaijehcaeaa
