/-
  Contracts of code.Bytes and of the Reader's Bytes.
-/
import Derived.Test.YteloepccjoikdaaReader
namespace Go.Proofs.Yteloepccjoikdaa
set_option linter.unusedVariables false
open Go.RowKit

def bytesC (xs : List Nat) : List Nat := numC xs.length ++ xs

set_option maxRecDepth 100000 in
set_option maxHeartbeats 1000000 in
theorem cbytes_any (v y : Value) (bs xs : List Nat) (w : World) (hr : Rd w v (bs.map u8v)) (hy : Rd w y (xs.map u8v)) (hbig : bs.length ≤ 35184372088832) (hbx : xs.length ≤ 35184372088832) :
    Calls Try.prog 178 #[v, y] w (RetOwn w.heap.size 5 ((bs ++ bytesC xs).map u8v) w) := by
  have hy2 := hy
  obtain ⟨ao, cap, hv, hcap, _⟩ := hy
  rw [List.length_map] at hv
  subst hv
  obtain ⟨n, hn⟩ : ∃ n, n = xs.length := ⟨_, rfl⟩
  rw [← hn] at hbx hy2 ⊢
  have HN := Lib.hid hn
  have HR := Lib.hid hr
  have HY := Lib.hid hy2
  have hn64 : n < 18446744073709551616 := by omega
  have HN64 := Lib.hid hn64
  have hnl := (numF_len 9 n).1
  have hln := Lib.hid (show (bs ++ numC n).length ≤ 35184372088842 by rw [List.length_append]; unfold numC; omega)
  clear hr hy2 hn hn64 hnl
  obtain ⟨i0, hi, hz0, hz1, hz2⟩ := info_parts info8
  go_enter Try.func178, Try.ntmps178
  go_wp2_with fail
  refine (num_any v bs n w HR.out (by omega) HN64.out).mono ?_
  rintro e w1 ⟨ao1, cap1, rfl, hown, hb⟩
  have hML : ((bs ++ numC n).map u8v).length = bs.length + (numC n).length := by rw [List.length_map, List.length_append]
  have HML := Lib.hid hML
  rw [hML] at hown
  have HO := Lib.hid hown
  have HB := Lib.hid hb
  have HY1 := Lib.hid (HY.out.kept hb)
  clear hown hb hML
  rcases ao with _ | a
  · obtain rfl : cap = 0 := hcap.1 rfl
    have hn0 : n = 0 := by have := rd_cap HY.out; omega
    have HN0 := Lib.hid hn0
    clear hcap
    subst hn0
    go_wp2_with (at_builtin; refine wpList_append_own_none rfl _ _ 38 rfl w.heap.size 5 i0 1 Try.underlying38 hi _ _ _ rfl HO.out rfl ?_)
    go_ret
    have hx : xs = [] := List.length_eq_zero_iff.1 HN.out.symm
    subst hx
    have e1 : bs ++ bytesC [] = bs ++ numC 0 := by simp [bytesC]
    rw [e1]
    refine ⟨ao1, cap1, ?_, ?_, HB.out⟩
    · rw [HML.out]; rfl
    · rw [HML.out]; exact HO.out
  · clear hcap
    have H1 := Lib.hid (show (xs.map u8v).length = n * 1 by rw [List.length_map, Nat.mul_one]; exact HN.out.symm)
    have H2 := Lib.hid (rd_news HY1.out)
    have H3 := Lib.hid (ones_u8 xs)
    have H4 := Lib.hid (show bs.length + (numC n).length ≤ 35184372088842 by have := hln.out; rwa [List.length_append] at this)
    have hsz := Lib.hid HB.out.size
    go_wp2_with (at_builtin; go_must (refine wpList_append_own _ rfl _ _ 38 rfl w.heap.size 5 i0 (.int .u8 0) 1 1 Try.underlying38 hi hz0 hz1 hz2 rfl (by decide) _ _ _ rfl HO.out a n cap (xs.map u8v) rfl H1.out H2.out H3.out (by have := H4.out; unfold maxLen; omega) (by have := H4.out; omega) hsz.out ?_); intro v' w3 hown' hgrow _)
    have HO' := Lib.hid hown'
    have HG' := Lib.hid hgrow
    clear hown' hgrow
    go_wp2
    go_ret
    have hown2 : w3.ownsRow w.heap.size 5 1 v' ((bs ++ bytesC xs).map u8v).length ((bs ++ bytesC xs).map u8v) := by
      have h1 := HO'.out
      have e1 : bs ++ bytesC xs = (bs ++ numC n) ++ xs := by unfold bytesC; rw [← HN.out, List.append_assoc]
      have e2 : ((bs ++ bytesC xs).map u8v).length = bs.length + (numC n).length + n := by rw [e1, List.length_map, List.length_append, List.length_append, ← HN.out]
      rw [e2, e1, List.map_append]
      exact h1
    have hbl : Below w.heap.size w w3 := HB.out.grown HG'.out hsz.out (by
      intro k hk
      have := HO.out
      rcases this.2 with ⟨h, _⟩ | ⟨g', cap', cur, h, hbg, _⟩
      · rw [h] at hk; cases hk
      · rw [h] at hk; cases hk; exact hbg)
    obtain ⟨ao', cap', hv⟩ := owns_shape hown2
    refine ⟨ao', cap', ?_, ?_, hbl⟩
    · show Ending.returned v' = _
      rw [hv]
    · rw [← hv]; exact hown2

end Go.Proofs.Yteloepccjoikdaa
