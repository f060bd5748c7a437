/-
  Contracts of package txns, further: All (and slices.Clone at transactions), Oldest.
-/
import Derived.Test.YtdelcaijehcaeaaTxb
namespace Go.Proofs.Ytdelcaijehcaeaa
set_option linter.unusedVariables false
open Go.RowKit

theorem ones_flat (l : List Tx) : ∀ u ∈ flat l, u.oneCell' = true := by
  induction l with
  | nil => intro u hu; cases hu
  | cons t r ih =>
    intro u hu
    rw [flat, List.mem_append] at hu
    rcases hu with hu | hu
    · simp [Tx.cells] at hu
      rcases hu with rfl | rfl | rfl | rfl <;> rfl
    · exact ih u hu

/-- The call hands back a row of transactions of its own. -/
def RetTx (l : List Tx) (w : World) (e : Ending) (w' : World) : Prop :=
  ∃ ao cap, e = .returned (.slice ao l.length cap) ∧ w'.ownsRow w.heap.size 47 4 (.slice ao l.length cap) l.length (flat l) ∧ Below w.heap.size w w'

set_option maxRecDepth 100000 in
set_option maxHeartbeats 1000000 in
theorem tclone_any (B : Nat) (v : Value) (l : List Tx) (w : World) (hown : w.ownsRow B 47 4 v l.length (flat l)) (hl : l.length ≤ 1000000) :
    Calls Try.prog 60 #[v] w (RetTx l w) := by
  have q22 : ∀ (w : World) (a : Option Addr) (n c n' c' : Nat), (binOp .eql 44 (.slice a n c) (.slice none n' c')).run Try.prog w = .ok (.bool a.isNone) w := fun w a n c n' c' => Lib.run_eql_slice_nil w _ _ a n c n' c' Try.underlying44
  obtain ⟨n, hn⟩ : ∃ n, n = l.length := ⟨_, rfl⟩
  rw [← hn] at hown hl
  have HN := Lib.hid hn
  have hown2 := hown
  clear hn
  rcases hown.2 with ⟨rfl, h0⟩ | ⟨gg, cap, cur, rfl, hbg, _⟩
  · clear hown hown2
    have hb : l = [] := List.length_eq_zero_iff.1 (by rw [← HN.out]; exact h0)
    clear h0
    go_enter Try.func60, Try.ntmps60
    go_wp2
    go_ret
    subst hb
    exact ⟨none, 0, rfl, ⟨rfl, .inl ⟨rfl, rfl⟩⟩, Below.refl _ _⟩
  · have hggl : gg < w.heap.size := by
      rcases hown2.2 with ⟨h, _⟩ | ⟨g', cap', cur', h, _, hh, _⟩
      · cases h
      · cases h
        rcases Nat.lt_or_ge gg w.heap.size with h | h
        · exact h
        · rw [Array.getElem?_eq_none h] at hh; cases hh
    have H1 := Lib.hid (show (flat l).length = n * 4 by rw [flat_len, HN.out])
    have H2 := Lib.hid (show ∀ j u, (flat l)[j]? = some u → (w.alloc (.cells #[] 47)).cell? ((⟨gg, 0, none⟩ : Addr).add j) = some u by
      intro j u hj
      have hjl : j < n * 4 := by rw [← H1.out]; exact (List.getElem?_eq_some_iff.1 hj).1
      have e : (⟨gg, 0, none⟩ : Addr).add j = ⟨gg, j, none⟩ := by simp [Addr.add]; omega
      rw [e]
      refine Lib.cell?_alloc_some _ ?_
      rw [hown2.cellAt j hjl]; exact hj)
    have H3 := Lib.hid (ones_flat l)
    clear hown hown2
    obtain ⟨i0, hi, hz0, hz1, hz2⟩ := info_parts infoTx
    go_enter Try.func60, Try.ntmps60
    go_wp2_with (at_builtin; go_must (refine wpList_append_own _ rfl _ _ 44 rfl w.heap.size 47 i0 _ 4 32 Try.underlying44 hi hz0 hz1 hz2 rfl (by decide) _ _ _ rfl (World.ownsRow_made w #[] 0 (Nat.le_refl _) (Nat.zero_le _) rfl) ⟨gg, 0, none⟩ n cap (flat l) rfl H1.out H2.out H3.out (by unfold maxLen; omega) (by omega) (by simp) ?_); intro v' w1 hown hgrow hnil)
    go_wp2
    go_ret
    have hown' : w1.ownsRow w.heap.size 47 4 v' n (flat l) := by simpa using hown
    have hgrow2 : (w.alloc (.cells #[] 47)).grownBy w1 (some w.heap.size) := hgrow
    have hbl : Below w.heap.size w w1 := ((Below.refl _ w).alloc (Nat.le_refl _) _).grown hgrow2 (by simp) (fun k hk => by cases hk; exact Nat.le_refl _)
    obtain ⟨ao, cap', hv⟩ := own_shape hown'
    refine ⟨ao, cap', ?_, ?_, hbl⟩
    · show Ending.returned v' = _
      rw [hv, HN.out]
    · rw [← HN.out, ← hv]; exact hown'

theorem IsBk.kept {B g now : Nat} {l : List Tx} {w w' : World} (h : IsBk B w g now l) (hb : Below w.heap.size w w') : IsBk B w' g now l := by
  obtain ⟨hBg, hBw, v, hg, hown, hne⟩ := h
  have lg : g < w.heap.size := by
    rcases Nat.lt_or_ge g w.heap.size with h | h
    · exact h
    · rw [Array.getElem?_eq_none h] at hg; cases hg
  refine ⟨hBg, Nat.le_trans hBw hb.size, v, (hb.block g lg).trans hg, ?_, hne⟩
  have hgr : w.grownBy w' none := ⟨hb.os, hb.tape, hb.output, hb.size, fun k hk _ => hb.block k hk⟩
  rcases hown.2 with ⟨rfl, h0⟩ | ⟨gg, cap, cur, rfl, _⟩
  · exact hown.kept hgr (.inl rfl)
  · exact hown.kept hgr (.inr (by simp [Value.ownBlock]))

set_option maxHeartbeats 1000000 in
theorem all_any (B g now : Nat) (l : List Tx) (w : World) (h : IsBk B w g now l) (hl : l.length ≤ 1000000) :
    Calls Try.prog 26 #[.pointer (some ⟨g, 0, none⟩)] w (RetTx l w) := by
  obtain ⟨hBg, hBw, v, hg, hown, hne⟩ := h
  obtain ⟨c0, c1, f0, f1⟩ := bk_cells hg
  have HO := Lib.hid hown
  have HL := Lib.hid hl
  clear hg hown hne hl
  go_enter Try.func26, Try.ntmps26
  go_wp2_with fail
  refine (tclone_any B v l w HO.out HL.out).mono ?_
  rintro e w1 ⟨ao, cap, rfl, ho, hb⟩
  have H1 := Lib.hid ho
  have H2 := Lib.hid hb
  clear ho hb
  go_wp2_with fail
  go_ret
  exact ⟨ao, cap, rfl, H1.out, H2.out⟩

/-- The time of the oldest that is not over. -/
def oldStep (m : Nat) (t : Tx) : Nat := if t.s = 1 ∨ t.s = 2 then min m t.b else m

def oldT (now : Nat) (l : List Tx) : Nat := l.foldl oldStep now

theorem oldT_snoc (now k : Nat) (l : List Tx) (t : Tx) (h : l[k]? = some t) : oldT now (l.take (k + 1)) = oldStep (oldT now (l.take k)) t := by
  unfold oldT
  rw [List.take_add_one, h, List.foldl_append]; rfl

set_option maxRecDepth 100000 in
set_option maxHeartbeats 2000000 in
theorem oldest_any (B g now : Nat) (l : List Tx) (w : World) (h : IsBk B w g now l) (hl : l.length ≤ 1000000) (hnow : now ≤ 4000000000) (hb : ∀ t ∈ l, t.b ≤ 4000000000 ∧ t.s ≤ 9) :
    Calls Try.prog 51 #[.pointer (some ⟨g, 0, none⟩)] w fun e w' => e = .returned (.int .i64 (oldT now l : Nat)) ∧ Below w.heap.size w w' := by
  have HI := Lib.hid h
  have HB := Lib.hid hb
  obtain ⟨_, _, v, hg, hown, hne⟩ := h
  obtain ⟨c0, c1, f0, f1⟩ := bk_cells hg
  have HO := Lib.hid hown
  obtain ⟨ao, cap, hv⟩ := own_shape hown
  subst hv
  obtain ⟨n, hn⟩ : ∃ n, n = l.length := ⟨_, rfl⟩
  rw [← hn] at c1 hl
  have HN := Lib.hid hn
  clear hg hown hne hn hb
  go_enter Try.func51, Try.ntmps51
  go_wp2
  go_loopw [3, 16] (fun m i wr => ∃ k M : Nat, k ≤ n ∧ M ≤ 4000000000 ∧ i = .int .i64 (k : Int) ∧ m = .int .i64 (M : Int) ∧ M = oldT now (l.take k) ∧ Below w.heap.size w wr) (fun _ i _ => n - (intOf i).toNat)
  case atStart => exact ⟨0, now, Nat.zero_le _, hnow, rfl, rfl, rfl, Below.refl _ _⟩
  case round =>
    obtain ⟨k, M, hk, hM, rfl, rfl, hMe, hbel⟩ := hrel
    have HM := Lib.hid hMe
    have HBL := Lib.hid hbel
    clear hMe hbel
    by_cases hlt : k < n
    · obtain ⟨t, ht⟩ : ∃ t, l[k]? = some t := ⟨_, List.getElem?_eq_getElem (by rw [← HN.out]; exact hlt)⟩
      obtain ⟨gg, cap', hvv, hc⟩ := tx_cells (B := B) (g := g) (now := now) HO.out ht
      simp only [Value.slice.injEq] at hvv
      have hao := hvv.1
      clear hvv
      subst hao
      have hcell : ∀ j, j < 4 → wr.cell? ⟨gg, k * 4 + j, none⟩ = t.cells[j]? := by
        intro j hj
        have h1 := (hc j hj).1
        have h2 : ∃ u, t.cells[j]? = some u := ⟨_, List.getElem?_eq_getElem (by simp [Tx.cells]; omega)⟩
        obtain ⟨u, hu⟩ := h2
        rw [hu] at h1 ⊢
        exact (HBL.out.cell (p := ⟨gg, k * 4 + j, none⟩) (World.block_lt_of_cell? _ _ h1)).trans h1
      have k0 : wr.cell? ⟨gg, k * 4, none⟩ = some (.int .i64 (t.i : Int)) := hcell 0 (by decide)
      have k1 : wr.cell? ⟨gg, k * 4 + 1, none⟩ = some (.int .i64 (t.s : Int)) := hcell 1 (by decide)
      have k2 : wr.cell? ⟨gg, k * 4 + 2, none⟩ = some (.int .i64 (t.b : Int)) := hcell 2 (by decide)
      have k3 : wr.cell? ⟨gg, k * 4 + 3, none⟩ = some (.int .i64 (t.e : Int)) := hcell 3 (by decide)
      have HT := Lib.hid ht
      have hbt := HB.out t (List.mem_of_getElem? ht)
      have hbt1 := hbt.1
      have hbt2 := hbt.2
      clear hc hcell ht hbt
      have HS := Lib.hid (oldT_snoc now k l t HT.out)
      by_cases hs : t.s = 1 ∨ t.s = 2
      · have hos : oldStep M t = min M t.b := by unfold oldStep; rw [if_pos hs]
        have HOS := Lib.hid hos
        clear hos
        rcases hs with hs | hs
        · have q1 : ((t.s : Int) == 1) = true := by rw [beq_iff_eq]; omega
          clear hs
          go_wp2
          go_roundw
          case rel =>
            refine ⟨k + 1, min M t.b, by omega, by omega, by go_num, by go_num, ?_, below_lay HBL.out _⟩
            rw [HS.out, ← HM.out, HOS.out]
          case measure => simp [intOf]; omega
        · have q1 : ((t.s : Int) == 1) = false := by rw [beq_eq_false_iff_ne]; omega
          have q2 : ((t.s : Int) == 2) = true := by rw [beq_iff_eq]; omega
          clear hs
          go_wp2
          go_roundw
          case rel =>
            refine ⟨k + 1, min M t.b, by omega, by omega, by go_num, by go_num, ?_, below_lay HBL.out _⟩
            rw [HS.out, ← HM.out, HOS.out]
          case measure => simp [intOf]; omega
      · have HOS := Lib.hid (show oldStep M t = M by unfold oldStep; rw [if_neg hs])
        have q1 : ((t.s : Int) == 1) = false := by rw [beq_eq_false_iff_ne]; omega
        have q2 : ((t.s : Int) == 2) = false := by rw [beq_eq_false_iff_ne]; omega
        clear hs
        go_wp2
        go_roundw
        case rel =>
          refine ⟨k + 1, M, by omega, by omega, by go_num, rfl, ?_, below_lay HBL.out _⟩
          rw [HS.out, ← HM.out, HOS.out]
        case measure => simp [intOf]; omega
    · go_wp2
      go_ret
      have hkn : k = n := by omega
      have h1 := HM.out
      rw [hkn, HN.out, List.take_length] at h1
      exact ⟨congrArg (fun m : Nat => Ending.returned (.int .i64 (m : Int))) h1, HBL.out⟩

end Go.Proofs.Ytdelcaijehcaeaa
