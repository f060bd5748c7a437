/-
  Contracts of bytes.Clone and of slices.Clone at bytes.
-/
import Derived.Test.YteloepccjoikdaaSpare
import Derived.OwnWalk
import Derived.WalkSpells
import Derived.Shelf.Slices.Clone
namespace Go.Proofs.Yteloepccjoikdaa
set_option linter.unusedVariables false
open Go.RowKit

theorem owns_shape {w : World} {B : Nat} {E : TypeId} {size : Nat} {v : Value} {n : Nat} {xs : List Value} (h : w.ownsRow B E size v n xs) : ∃ ao cap, v = .slice ao n cap := by
  rcases h.2 with ⟨rfl, rfl⟩ | ⟨g, cap, cur, rfl, _⟩
  · exact ⟨none, 0, rfl⟩
  · exact ⟨_, cap, rfl⟩

set_option maxHeartbeats 1000000 in
theorem bclone_any (v : Value) (bs : List Nat) (w : World) (hr : Rd w v (bs.map u8v)) (hbig : bs.length ≤ 140737488355328) :
    Calls Try.prog 118 #[v] w (RetOwn w.heap.size 5 (bs.map u8v) w) := by
  have q22 : ∀ (w : World) (a : Option Addr) (n c n' c' : Nat), (binOp .eql 38 (.slice a n c) (.slice none n' c')).run Try.prog w = .ok (.bool a.isNone) w := fun w a n c n' c' => Lib.run_eql_slice_nil w _ _ a n c n' c' Try.underlying38
  have hr0 := hr
  obtain ⟨ao, cap, hv, _⟩ := hr
  rw [List.length_map] at hv
  subst hv
  have hc := (rd_cells hr0).2
  obtain ⟨n, hn⟩ : ∃ n, n = bs.length := ⟨_, rfl⟩
  rw [← hn] at hc hbig hr0 ⊢
  have HN := Lib.hid hn
  have HR := Lib.hid hr0
  clear hr0 hn
  rcases ao with _ | a
  · have h0 : n = 0 := by
      rcases Nat.eq_zero_or_pos n with h | h
      · exact h
      · obtain ⟨b, off, h1, _⟩ := hc h; cases h1
    have hb : bs = [] := List.length_eq_zero_iff.1 (by rw [← HN.out]; exact h0)
    clear hc
    go_enter Try.func118, Try.ntmps118
    go_wp2
    go_ret
    subst hb
    exact ⟨none, 0, rfl, owns_nil _ _ _, Below.refl _ _⟩
  · clear hc
    have H1 := Lib.hid (show (bs.map u8v).length = n * 1 by rw [List.length_map, Nat.mul_one]; exact HN.out.symm)
    have H2 := Lib.hid (rd_news (HR.out.kept (below_alloc w (.cells #[] 5))))
    have H3 := Lib.hid (ones_u8 bs)
    obtain ⟨i0, hi, hz0, hz1, hz2⟩ := info_parts info8
    go_enter Try.func118, Try.ntmps118
    go_wp2_with (at_builtin; refine wpList_append_own _ rfl _ _ 38 rfl w.heap.size 5 i0 (.int .u8 0) 1 1 Try.underlying38 hi hz0 hz1 hz2 rfl (by decide) _ _ _ rfl (World.ownsRow_made w #[] 0 (Nat.le_refl _) (Nat.zero_le _) rfl) a n cap (bs.map u8v) rfl H1.out H2.out H3.out (by unfold maxLen; omega) (by omega) (by simp) ?_)
    intro v' w1 hown hgrow hnil
    go_wp2
    go_ret
    have hown' : w1.ownsRow w.heap.size 5 1 v' n (bs.map u8v) := by simpa using hown
    have hbl : Below w.heap.size w w1 := ((Below.refl _ w).alloc (Nat.le_refl _) _).grown hgrow (by simp) (by intro k hk; simp [Value.ownBlock] at hk; omega)
    have hl : n = (bs.map u8v).length := by rw [List.length_map]; exact HN.out
    obtain ⟨ao, cap', hv⟩ := owns_shape hown'
    refine ⟨ao, cap', ?_, ?_, hbl⟩
    · show Ending.returned v' = _
      rw [hv, ← hl]
    · rw [← hl, ← hv]; exact hown'

set_option maxHeartbeats 1000000 in
theorem sclone_any (v : Value) (bs : List Nat) (w : World) (hr : Rd w v (bs.map u8v)) (hbig : bs.length ≤ 140737488355328) :
    Calls Try.prog 164 #[v] w (RetOwn w.heap.size 5 (bs.map u8v) w) := by
  have q22 : ∀ (w : World) (a : Option Addr) (n c n' c' : Nat), (binOp .eql 38 (.slice a n c) (.slice none n' c')).run Try.prog w = .ok (.bool a.isNone) w := fun w a n c n' c' => Lib.run_eql_slice_nil w _ _ a n c n' c' Try.underlying38
  have hr0 := hr
  obtain ⟨ao, cap, hv, _⟩ := hr
  rw [List.length_map] at hv
  subst hv
  have hc := (rd_cells hr0).2
  obtain ⟨n, hn⟩ : ∃ n, n = bs.length := ⟨_, rfl⟩
  rw [← hn] at hc hbig hr0 ⊢
  have HN := Lib.hid hn
  have HR := Lib.hid hr0
  clear hr0 hn
  rcases ao with _ | a
  · have h0 : n = 0 := by
      rcases Nat.eq_zero_or_pos n with h | h
      · exact h
      · obtain ⟨b, off, h1, _⟩ := hc h; cases h1
    have hb : bs = [] := List.length_eq_zero_iff.1 (by rw [← HN.out]; exact h0)
    clear hc
    go_enter Try.func164, Try.ntmps164
    go_wp2
    go_ret
    subst hb
    exact ⟨none, 0, rfl, owns_nil _ _ _, Below.refl _ _⟩
  · clear hc
    have H1 := Lib.hid (show (bs.map u8v).length = n * 1 by rw [List.length_map, Nat.mul_one]; exact HN.out.symm)
    have H2 := Lib.hid (rd_news (HR.out.kept (below_alloc w (.cells #[] 5))))
    have H3 := Lib.hid (ones_u8 bs)
    obtain ⟨i0, hi, hz0, hz1, hz2⟩ := info_parts info8
    go_enter Try.func164, Try.ntmps164
    go_wp2_with (at_builtin; refine wpList_append_own _ rfl _ _ 38 rfl w.heap.size 5 i0 (.int .u8 0) 1 1 Try.underlying38 hi hz0 hz1 hz2 rfl (by decide) _ _ _ rfl (World.ownsRow_made w #[] 0 (Nat.le_refl _) (Nat.zero_le _) rfl) a n cap (bs.map u8v) rfl H1.out H2.out H3.out (by unfold maxLen; omega) (by omega) (by simp) ?_)
    intro v' w1 hown hgrow hnil
    go_wp2
    go_ret
    have hown' : w1.ownsRow w.heap.size 5 1 v' n (bs.map u8v) := by simpa using hown
    have hbl : Below w.heap.size w w1 := ((Below.refl _ w).alloc (Nat.le_refl _) _).grown hgrow (by simp) (by intro k hk; simp [Value.ownBlock] at hk; omega)
    have hl : n = (bs.map u8v).length := by rw [List.length_map]; exact HN.out
    obtain ⟨ao, cap', hv⟩ := owns_shape hown'
    refine ⟨ao, cap', ?_, ?_, hbl⟩
    · show Ending.returned v' = _
      rw [hv, ← hl]
    · rw [← hl, ← hv]; exact hown'

end Go.Proofs.Yteloepccjoikdaa
