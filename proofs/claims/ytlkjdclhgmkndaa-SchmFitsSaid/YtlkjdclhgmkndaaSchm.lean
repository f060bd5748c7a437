/-
  Contracts: schm.Compare, Rows, fits, Fits; the reference's SameVal, SameRow.
-/
import Derived.Test.YtlkjdclhgmkndaaCmp
import Derived.Test.YtlkjdclhgmkndaaVala
namespace Go.Proofs.Ytlkjdclhgmkndaa
set_option linter.unusedVariables false
set_option linter.unusedSimpArgs false
open Go.RowKit

theorem rd_shape8 {w : World} {v : Value} {bs : List Nat} (h : Rd w v (bs.map u8v)) : ∃ ao cap, v = .slice ao bs.length cap := by
  obtain ⟨ao, cap, hv, _⟩ := h
  exact ⟨ao, cap, by simpa using hv⟩

set_option maxRecDepth 100000 in
set_option maxHeartbeats 1000000 in
theorem compare_any (p q : Vc × Value) (w : World) (hp : OkV w p) (hq : OkV w q) :
    Calls Try.prog 21 #[aggV p, aggV q] w fun e w' => e = .returned (.int .i64 (cmpT p.1 q.1)) ∧ Below w.heap.size w w' := by
  have HP := Lib.hid (hp.kept (below2 w (.cells #[.bool p.1.u, .int .i64 p.1.k, .int .i64 p.1.n, p.2] 31) (.cells #[.bool q.1.u, .int .i64 q.1.k, .int .i64 q.1.n, q.2] 31)))
  have HQ := Lib.hid (hq.kept (below2 w (.cells #[.bool p.1.u, .int .i64 p.1.k, .int .i64 p.1.n, p.2] 31) (.cells #[.bool q.1.u, .int .i64 q.1.k, .int .i64 q.1.n, q.2] 31)))
  clear hp hq
  obtain ⟨⟨au, ak, an, ab⟩, s⟩ := p
  obtain ⟨⟨bu, bk, bn, bb⟩, t⟩ := q
  unfold aggV
  simp only at HP HQ ⊢
  cases au <;> cases bu
  · by_cases h2 : ak = 2 ∨ bk = 2
    · have HC := Lib.hid (show cmpT ⟨false, ak, an, ab⟩ ⟨false, bk, bn, bb⟩ = cmpB ab bb by unfold cmpT; simp [h2])
      have q1 : (ak == 2) = true ∨ ((ak == 2) = false ∧ (bk == 2) = true) := by
        by_cases h : ak = 2
        · exact .inl (by rw [beq_iff_eq]; exact h)
        · exact .inr ⟨by rw [beq_eq_false_iff_ne]; exact h, by rw [beq_iff_eq]; rcases h2 with h2 | h2; exact absurd h2 h; exact h2⟩
      clear h2
      rcases q1 with q1 | ⟨q1, q2⟩
      all_goals
        go_enter Try.func21, Try.ntmps21
        go_wp2_with (go_at_call 56; go_must (refine (bcompare_any _ _ ab bb _ HP.out.1 HQ.out.1 HP.out.2 HQ.out.2).mono ?_); rintro e w2 ⟨rfl, rfl⟩)
        go_ret
        exact ⟨by rw [HC.out]; rfl, below2 w _ _⟩
    · have HC := Lib.hid (show cmpT ⟨false, ak, an, ab⟩ ⟨false, bk, bn, bb⟩ = cmpZ an bn by unfold cmpT; simp [h2])
      have q1 : (ak == 2) = false := by rw [beq_eq_false_iff_ne]; exact fun h => h2 (.inl h)
      have q2 : (bk == 2) = false := by rw [beq_eq_false_iff_ne]; exact fun h => h2 (.inr h)
      clear h2
      go_enter Try.func21, Try.ntmps21
      go_wp2_with (go_at_call 57; go_must (refine (zcompare_any an bn _).mono ?_); rintro e w2 ⟨rfl, rfl⟩)
      go_ret
      exact ⟨by rw [HC.out]; rfl, below2 w _ _⟩
  all_goals
    go_enter Try.func21, Try.ntmps21
    go_wp2_with fail
    go_ret
    exact ⟨rfl, below2 w _ _⟩

def fitsT (c : Co) (v : Vc) : Bool :=
  (v.k == c.k) && ((v.k == 1) || (v.k == 2)) && (if v.u = true then c.u && (v.n == 0) && (v.b.length == 0) else if (v.k == 1) = true then v.b.length == 0 else (v.n == 0) && decide (v.b.length ≤ 64))

set_option maxRecDepth 100000 in
set_option maxHeartbeats 4000000 in
theorem fits_any (c : Co) (q : Vc × Value) (w : World) (hq : OkV w q) :
    Calls Try.prog 52 #[c.agg, aggV q] w fun e w' => e = .returned (.bool (fitsT c q.1)) ∧ Below w.heap.size w w' := by
  obtain ⟨ao, cap, hs⟩ := rd_shape8 hq.1
  obtain ⟨⟨u, k, n, b⟩, s⟩ := q
  obtain ⟨nm, ck, cu⟩ := c
  simp only at hs
  subst hs
  obtain ⟨L, hL⟩ : ∃ L, L = b.length := ⟨_, rfl⟩
  have HF := Lib.hid (show fitsT ⟨nm, ck, cu⟩ ⟨u, k, n, b⟩ = ((k == ck) && ((k == 1) || (k == 2)) && (if u = true then cu && (n == 0) && (L == 0) else if (k == 1) = true then L == 0 else (n == 0) && decide (L ≤ 64))) by unfold fitsT; simp only; rw [hL])
  unfold aggV Co.agg
  simp only
  rw [← hL]
  have hl : ((L : Int) == 0) = (L == 0) := by rw [Bool.eq_iff_iff, beq_iff_eq, beq_iff_eq]; omega
  have hl2 : decide ((L : Int) ≤ 64) = decide (L ≤ 64) := by rw [decide_eq_decide]; omega
  clear hq hL
  cases h0 : (k == ck)
  · have q0 : (k != ck) = true := by rw [bne, h0]; rfl
    go_enter Try.func52, Try.ntmps52
    go_wp2
    go_ret
    exact ⟨by rw [HF.out, h0]; rfl, below2 w _ _⟩
  · have h0' : k = ck := by simpa using h0
    subst h0'
    cases h1 : (k == 1)
    · cases h2 : (k == 2)
      · go_enter Try.func52, Try.ntmps52
        go_wp2
        go_ret
        exact ⟨by rw [HF.out, h0, h1, h2]; rfl, below2 w _ _⟩
      · cases u
        · cases hn : (n == 0)
          all_goals
            go_enter Try.func52, Try.ntmps52
            go_wp2
            go_ret
            exact ⟨by rw [HF.out, h0, h1, h2, hn]; simp [hl2], below2 w _ _⟩
        · cases cu <;> cases hn : (n == 0)
          all_goals
            go_enter Try.func52, Try.ntmps52
            go_wp2
            go_ret
            exact ⟨by rw [HF.out, h0, h1, h2, hn]; simp [hl], below2 w _ _⟩
    · cases u
      · go_enter Try.func52, Try.ntmps52
        go_wp2
        go_ret
        exact ⟨by rw [HF.out, h0, h1]; simp [hl], below2 w _ _⟩
      · cases cu <;> cases hn : (n == 0)
        all_goals
          go_enter Try.func52, Try.ntmps52
          go_wp2
          go_ret
          exact ⟨by rw [HF.out, h0, h1, hn]; simp [hl], below2 w _ _⟩

end Go.Proofs.Ytlkjdclhgmkndaa
