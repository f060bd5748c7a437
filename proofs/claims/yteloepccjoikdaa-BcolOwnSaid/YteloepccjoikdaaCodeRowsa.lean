/-
  The Reader's calls, told of the rows.
-/
import Derived.Test.YteloepccjoikdaaReadg
import Derived.Test.YteloepccjoikdaaCodeRowsm
import Derived.Test.YteloepccjoikdaaAwakb
namespace Go.Proofs.Yteloepccjoikdaa
set_option linter.unusedVariables false
open Go.RowKit

theorem rowsC_len (raw : List Nat) (l : List Nat) : (rowsC raw l).length ≤ l.length * (20 + raw.length) + 1 := by
  rw [← rowsD_end raw l, List.length_append]
  have := rowsD_len raw l
  simp
  omega

/-- Where a reader stands behind a row's number. -/
def AtMid (raw : List Nat) (whole : Bool) (l left : List Nat) (bad : Bool) : Prop :=
  (bad = false ∧ ∃ q, left = (bytesC raw ++ rowsC raw l).take q ∧ (whole = true ↔ (bytesC raw ++ rowsC raw l).length ≤ q)) ∨ (bad = true ∧ left = [] ∧ whole = false)

theorem bytesC_len (raw : List Nat) : (bytesC raw).length ≤ 10 + raw.length := by
  have := (numC_len raw.length).1
  unfold bytesC
  rw [List.length_append]
  omega

theorem bytesC_lt (raw : List Nat) (hr : ∀ x ∈ raw, x < 256) (hl : raw.length < 18446744073709551616) : ∀ x ∈ bytesC raw, x < 256 := by
  intro x hx
  unfold bytesC at hx
  rw [List.mem_append] at hx
  rcases hx with hx | hx
  · exact numC_lt _ hl x hx
  · exact hr x hx

/-- What is fixed of the numbers and the bytes. -/
structure RowsOk (raw l : List Nat) : Prop where
  raw100 : raw.length ≤ 100
  l20 : l.length ≤ 20
  raw256 : ∀ x ∈ raw, x < 256
  l64 : ∀ u ∈ l, u < 18446744073709551616

theorem RowsOk.tail {raw l : List Nat} {u : Nat} (h : RowsOk raw (u :: l)) : RowsOk raw l :=
  ⟨h.raw100, by have := h.l20; rw [List.length_cons] at this; omega, h.raw256, fun v hv => h.l64 v (List.mem_cons_of_mem _ hv)⟩

theorem RowsOk.len {raw l : List Nat} (h : RowsOk raw l) : (rowsC raw l).length ≤ 2401 := by
  have h1 := rowsC_len raw l
  have h2 : l.length * (20 + raw.length) ≤ 20 * 120 := Nat.mul_le_mul h.l20 (by have := h.raw100; omega)
  omega

theorem RowsOk.lt {raw l : List Nat} (h : RowsOk raw l) : ∀ x ∈ rowsC raw l, x < 256 :=
  rowsC_lt raw h.raw256 (by have := h.raw100; omega) l h.l64

theorem at_fits {raw l left : List Nat} {whole bad : Bool} (h : RowsOk raw l) (ha : AtRows raw whole l left bad) : (∀ x ∈ left, x < 256) ∧ left.length ≤ 140737488355328 := by
  rcases ha with ⟨_, q, rfl, _⟩ | ⟨_, rfl, _⟩
  · refine ⟨fun x hx => h.lt x (List.mem_of_mem_take hx), ?_⟩
    have := h.len
    rw [List.length_take]
    omega
  · exact ⟨by simp, by simp⟩

theorem mid_fits {raw l left : List Nat} {whole bad : Bool} (h : RowsOk raw l) (ha : AtMid raw whole l left bad) : (∀ x ∈ left, x < 256) ∧ left.length ≤ 140737488355328 := by
  rcases ha with ⟨_, q, rfl, _⟩ | ⟨_, rfl, _⟩
  · refine ⟨fun x hx => ?_, ?_⟩
    · rcases List.mem_append.1 (List.mem_of_mem_take hx) with h1 | h1
      · exact bytesC_lt raw h.raw256 (by have := h.raw100; omega) x h1
      · exact h.lt x h1
    · have := h.len
      have h2 := bytesC_len raw
      have h3 := h.raw100
      rw [List.length_take, List.length_append]
      omega
  · exact ⟨by simp, by simp⟩

theorem num_rows (r : Nat) (raw : List Nat) (whole : Bool) (u : Nat) (l left : List Nat) (bad : Bool) (w : World) (h : IsR w r left bad) (ok : RowsOk raw (u :: l)) (ha : AtRows raw whole (u :: l) left bad) :
    Calls Try.prog 120 #[.pointer (some ⟨r, 0, none⟩)] w fun e w' => ∃ m left1 bad1, e = .returned (.int .u64 (m : Nat)) ∧ IsR w' r left1 bad1 ∧ w.grownBy w' (some r) ∧ AtMid raw whole l left1 bad1 ∧ (bad1 = false → m = u) := by
  obtain ⟨f1, f2⟩ := at_fits ok ha
  have hu := ok.l64 u List.mem_cons_self
  rcases ha with ⟨rfl, q, rfl, hq⟩ | ⟨rfl, rfl, hw⟩
  · have hn := nextC_take u (bytesC raw ++ rowsC raw l) q hu
    have hsp : rowsC raw (u :: l) = numC u ++ (bytesC raw ++ rowsC raw l) := rfl
    rw [← hsp] at hn
    by_cases hc : (numC u).length ≤ q
    · rw [if_pos hc] at hn
      have hl : (numC u).length ≤ ((rowsC raw (u :: l)).take q).length := by
        rw [List.length_take, hsp, List.length_append]; omega
      refine (rnum_any r _ false w h f1 f2 u (numC u).length hn (numC_len u).2 hl).mono ?_
      rintro e w1 ⟨rfl, hi, hg⟩
      refine ⟨u, _, false, rfl, hi, hg, .inl ⟨rfl, q - (numC u).length, ?_, ?_⟩, fun _ => rfl⟩
      · rw [hsp, List.take_append, List.take_of_length_le hc, List.drop_left]
      · rw [hq, hsp, List.length_append]; omega
    · rw [if_neg hc] at hn
      refine (rnum_no r _ false w h f1 f2 hn).mono ?_
      rintro e w1 ⟨rfl, hi, hg⟩
      refine ⟨0, [], true, rfl, hi, hg, .inr ⟨rfl, rfl, ?_⟩, fun h => by cases h⟩
      cases whole with
      | false => rfl
      | true =>
        have := hq.1 rfl
        rw [hsp, List.length_append] at this
        omega
  · refine (rnum_no r _ true w h f1 f2 rfl).mono ?_
    rintro e w1 ⟨rfl, hi, hg⟩
    exact ⟨0, [], true, rfl, hi, hg, .inr ⟨rfl, rfl, hw⟩, fun h => by cases h⟩

theorem rd_grown_own {w w' : World} {B r : Nat} {E : TypeId} {ao : Option Addr} {cap : Nat} {xs : List Nat} (h : w'.ownsRow B E 1 (.slice ao (xs.map u8v).length cap) (xs.map u8v).length (xs.map u8v)) : Rd w' (.slice ao xs.length cap) (xs.map u8v) := rd_own_map h

theorem bytes_rows (r : Nat) (raw : List Nat) (whole : Bool) (l left : List Nat) (bad : Bool) (w : World) (h : IsR w r left bad) (ok : RowsOk raw l) (ha : AtMid raw whole l left bad) :
    Calls Try.prog 179 #[.pointer (some ⟨r, 0, none⟩), .int .i64 100] w fun e w' => ∃ ao len cap ys left1 bad1, e = .returned (.slice ao len cap) ∧ Rd w' (.slice ao len cap) (ys.map u8v) ∧ (∀ x ∈ ys, x < 256) ∧ IsR w' r left1 bad1 ∧ w.grownBy w' (some r) ∧ AtRows raw whole l left1 bad1 ∧ (bad1 = false → bad = false ∧ ys = raw) := by
  obtain ⟨f1, f2⟩ := mid_fits ok ha
  have h100 := ok.raw100
  rcases ha with ⟨rfl, q, rfl, hq⟩ | ⟨rfl, rfl, hw⟩
  · have hn := nextC_take raw.length (raw ++ rowsC raw l) q (by omega)
    have hsp : bytesC raw ++ rowsC raw l = numC raw.length ++ (raw ++ rowsC raw l) := by unfold bytesC; rw [List.append_assoc]
    rw [← hsp] at hn
    obtain ⟨n, hne⟩ : ∃ n, n = (numC raw.length).length := ⟨_, rfl⟩
    rw [← hne] at hn
    have hn1 : 0 < n := by rw [hne]; exact (numC_len _).2
    have hlen : (bytesC raw ++ rowsC raw l).length = n + (raw.length + (rowsC raw l).length) := by rw [hsp, List.length_append, List.length_append, ← hne]
    have hlt : ((bytesC raw ++ rowsC raw l).take q).length = min q (n + (raw.length + (rowsC raw l).length)) := by rw [List.length_take, hlen]
    by_cases hc : n ≤ q
    · rw [if_pos hc] at hn
      have hl : n ≤ ((bytesC raw ++ rowsC raw l).take q).length := by rw [hlt]; omega
      by_cases hc2 : n + raw.length ≤ q
      · refine (rbytes_yes r _ false w 100 h f1 f2 raw.length n hn hn1 hl (by omega) (by omega) (by omega) (by rw [hlt]; omega)).mono ?_
        rintro e w1 ⟨ao, cap, rfl, hown, hi, hg⟩
        have hdr : ((bytesC raw ++ rowsC raw l).take q).drop n = (raw ++ rowsC raw l).take (q - n) := by
          rw [hsp, List.take_append, List.take_of_length_le (show (numC raw.length).length ≤ q by omega), ← hne, hne, List.drop_left]
        have hy : (((bytesC raw ++ rowsC raw l).take q).drop n).take raw.length = raw := by
          rw [hdr, List.take_take, Nat.min_eq_left (by omega), List.take_left]
        have hd2 : ((bytesC raw ++ rowsC raw l).take q).drop (n + raw.length) = (rowsC raw l).take (q - n - raw.length) := by
          rw [← List.drop_drop, hdr, List.take_append, List.take_of_length_le (show raw.length ≤ q - n by omega), List.drop_left]
        rw [hy] at hown
        rw [hd2] at hi
        refine ⟨ao, raw.length, cap, raw, _, false, by rw [hy]; simp, rd_own_map hown, ok.raw256, hi, hg, .inl ⟨rfl, _, rfl, ?_⟩, fun _ => ⟨rfl, rfl⟩⟩
        rw [hq, hlen]; omega
      · refine (rbytes_short r _ false w 100 h f1 f2 raw.length n hn hn1 hl (by omega) (by omega) (by omega) (by rw [hlt]; omega)).mono ?_
        rintro e w1 ⟨rfl, hi, hg⟩
        refine ⟨none, 0, 0, [], [], true, rfl, Rd.nil _, by simp, hi, hg, .inr ⟨rfl, rfl, ?_⟩, fun h => by cases h⟩
        cases whole with
        | false => rfl
        | true =>
          have := hq.1 rfl
          rw [hlen] at this
          omega
    · rw [if_neg hc] at hn
      refine (rbytes_none r _ false w 100 h f1 f2 hn).mono ?_
      rintro e w1 ⟨rfl, hi, hg⟩
      refine ⟨none, 0, 0, [], [], true, rfl, Rd.nil _, by simp, hi, hg, .inr ⟨rfl, rfl, ?_⟩, fun h => by cases h⟩
      cases whole with
      | false => rfl
      | true =>
        have := hq.1 rfl
        rw [hlen] at this
        omega
  · refine (rbytes_none r _ true w 100 h f1 f2 rfl).mono ?_
    rintro e w1 ⟨rfl, hi, hg⟩
    exact ⟨none, 0, 0, [], [], true, rfl, Rd.nil _, by simp, hi, hg, .inr ⟨rfl, rfl, hw⟩, fun h => by cases h⟩

theorem last_rows (r : Nat) (raw : List Nat) (whole : Bool) (left : List Nat) (bad : Bool) (w : World) (h : IsR w r left bad) (ha : AtRows raw whole [] left bad) :
    Calls Try.prog 120 #[.pointer (some ⟨r, 0, none⟩)] w fun e w' => ∃ m : Nat, e = .returned (.int .u64 (m : Nat)) ∧ IsR w' r [] (!whole) ∧ w.grownBy w' (some r) ∧ (whole = true → m = 7) := by
  rcases ha with ⟨rfl, q, rfl, hq⟩ | ⟨rfl, rfl, rfl⟩
  · have e7 : rowsC raw [] = [7] := rfl
    rw [e7] at h hq
    rcases q with _ | q
    · have hw : whole = false := by
        cases whole with
        | false => rfl
        | true => have := hq.1 rfl; simp at this
      subst hw
      refine (rnum_no r _ false w h (by simp) (by simp) rfl).mono ?_
      rintro e w1 ⟨rfl, hi, hg⟩
      exact ⟨0, rfl, hi, hg, fun h => by cases h⟩
    · have hw : whole = true := hq.2 (by simp)
      subst hw
      have et : ([7] : List Nat).take (q + 1) = [7] := by simp
      rw [et] at h
      refine (rnum_any r [7] false w h (by simp) (by simp) 7 1 (by decide) (by decide) (by decide)).mono ?_
      rintro e w1 ⟨rfl, hi, hg⟩
      exact ⟨7, rfl, hi, hg, fun _ => rfl⟩
  · refine (rnum_no r _ true w h (by simp) (by simp) rfl).mono ?_
    rintro e w1 ⟨rfl, hi, hg⟩
    exact ⟨0, rfl, hi, hg, fun h => by cases h⟩

end Go.Proofs.Yteloepccjoikdaa
