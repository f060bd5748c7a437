/-
  Plain: the rows of SegmSmall, and how few bytes their segment takes.
-/
import Derived.Test.YtmpgnjhgegbdkaaGreatSgb
import Derived.Test.YtmpgnjhgegbdkaaGreatNmk
import Derived.Test.YtmpgnjhgegbdkaaGreatSgn
namespace Go.Proofs.YtmpgnjhgegbdkaaGreat
set_option linter.unusedVariables false
set_option linter.unusedSimpArgs false
open Go.RowKit

def smC : List Co := [⟨⟨#[107, 101, 121]⟩, 1, false⟩, ⟨⟨#[97]⟩, 1, false⟩, ⟨⟨#[98]⟩, 2, true⟩]
theorem smC_sch : SchOk smC where
  ok := ⟨fun c hc => by
    simp only [smC, List.mem_cons, List.not_mem_nil, or_false] at hc
    rcases hc with rfl | rfl | rfl
    · exact .inl rfl
    · exact .inl rfl
    · exact .inr rfl, fun c hc => by cases hc; exact ⟨rfl, rfl⟩, by decide, by decide⟩
  nm := fun c hc => by
    simp only [smC, List.mem_cons, List.not_mem_nil, or_false] at hc
    rcases hc with rfl | rfl | rfl
    · exact ⟨0, by decide, rfl⟩
    · exact ⟨1, by decide, rfl⟩
    · exact ⟨6, by decide, rfl⟩
  ne := fun k co hk c hc => by
    match k, hk, hc with
    | 0, hk, hc => cases hc
    | 1, hk, hc =>
      cases hk
      simp only [smC, List.take_succ_cons, List.take_zero, List.mem_cons, List.not_mem_nil, or_false] at hc
      rcases hc with rfl
      decide +kernel
    | 2, hk, hc =>
      cases hk
      simp only [smC, List.take_succ_cons, List.take_zero, List.mem_cons, List.not_mem_nil, or_false] at hc
      rcases hc with rfl | rfl <;> decide +kernel
    | k + 3, hk, hc => simp [smC] at hk
def wordS (i : Nat) : List Nat := if i % 2 = 0 then [110, 111, 114, 116, 104] else [115, 111, 117, 116, 104]
def rowS (v : Int) (i : Nat) : List Vc := [⟨false, 1, (i : Nat), []⟩, ⟨false, 1, v, []⟩, ⟨false, 2, 0, wordS i⟩]
def rowsS (v : Int) (q : Nat) : List (List Vc) := (List.range q).map (rowS v)
theorem rowsS_succ (v : Int) (q : Nat) : rowsS v (q + 1) = rowsS v q ++ [rowS v q] := by
  unfold rowsS
  rw [List.range_succ, List.map_append]
  rfl
theorem rowsS_len (v : Int) (q : Nat) : (rowsS v q).length = q := by unfold rowsS; rw [List.length_map, List.length_range]
theorem wordS_two (i : Nat) : wordS i = [110, 111, 114, 116, 104] ∨ wordS i = [115, 111, 117, 116, 104] := by
  unfold wordS
  split
  · exact .inl rfl
  · exact .inr rfl
theorem rowS_fits (v : Int) (i : Nat) : fitsR smC (rowS v i) = true := by
  unfold rowS
  rcases wordS_two i with h | h <;> (rw [h]; rfl)
theorem rowsS_B (v : Int) (q : Nat) (h1 : 0 < q) (h2 : q ≤ 64) : rowsB smC (rowsS v q) = true := by
  unfold rowsB
  rw [rowsS_len, decide_eq_true h1, decide_eq_true h2, Bool.true_and, Bool.true_and, List.all_eq_true]
  intro r hr
  obtain ⟨i, _, rfl⟩ := List.mem_map.1 hr
  exact rowS_fits v i
theorem rowS_small (v : Int) (hv : I64 v) (i : Nat) (hi : i ≤ 1000) : ∀ x ∈ rowS v i, I64 x.n ∧ (∀ a ∈ x.b, a < 256) ∧ x.b.length ≤ 8 := fun x hx => by
  unfold rowS at hx
  simp only [List.mem_cons, List.not_mem_nil, or_false] at hx
  rcases hx with rfl | rfl | rfl
  · exact ⟨by unfold I64; simp only; omega, (fun a h => by cases h), Nat.zero_le _⟩
  · exact ⟨hv, (fun a h => by cases h), Nat.zero_le _⟩
  · rcases wordS_two i with h | h <;> (simp only [h]; exact ⟨by unfold I64; omega, by decide, by decide⟩)
theorem rowsS_c (v : Int) (hv : I64 v) (q : Nat) (h1 : 0 < q) (h2 : q ≤ 64) : RowsC smC (rowsS v q) := zJ7 (rowsS_B v q h1 h2) fun r hr x hx => by
  obtain ⟨i, hi, rfl⟩ := List.mem_map.1 hr
  have := List.mem_range.1 hi
  have := rowS_small v hv i (by omega) x hx
  exact ⟨this.1, this.2.1⟩

def keysS (q : Nat) : List Vc := (List.range q).map fun (i : Nat) => ⟨false, 1, (i : Nat), []⟩
def wdsS (q : Nat) : List Vc := (List.range q).map fun i => ⟨false, 2, 0, wordS i⟩
theorem toldS (v : Int) (q : Nat) : toldT smC (rowsS v q) = [scolT 1 (keysS q), scolT 1 (List.replicate q ⟨false, 1, v, []⟩), scolT 2 (wdsS q)] := by
  have h0 : colVs (rowsS v q) 0 = keysS q := by unfold colVs rowsS; rw [List.map_map]; rfl
  have h1 : colVs (rowsS v q) 1 = List.replicate q ⟨false, 1, v, []⟩ := by
    unfold colVs rowsS
    rw [List.map_map]
    refine List.ext_getElem (by simp) fun i a b => ?_
    rw [List.getElem_map, List.getElem_replicate]
    rfl
  have h2 : colVs (rowsS v q) 2 = wdsS q := by unfold colVs rowsS; rw [List.map_map]; rfl
  rw [← h0, ← h1, ← h2]
  rfl
theorem sbest_le (l : List Int) (k : Nat) (h1 : 1 ≤ k) (h2 : k ≤ 4) : (bestN l 4).length ≤ 1 + (kindT (k : Int) l).length := by
  have h := (zDc l 4 (by omega)).2.1 k h1 h2
  rw [List.length_cons] at h
  omega
theorem snumC_one (n : Nat) (h : n < 128) : (numC n).length = 1 := by
  unfold numC
  rw [numF, if_pos h]
  rfl
theorem sbest_same (n : Nat) (z : Int) (h1 : 0 < n) (h2 : n < 128) : (bestN (List.replicate n z) 4).length ≤ 12 := by
  have h := sbest_le (List.replicate n z) 2 (by omega) (by omega)
  have e : kindT ((2 : Nat) : Int) (List.replicate n z) = runsT (List.replicate n z) := rfl
  rw [e] at h
  obtain ⟨m, a, h3, h4, h5, h6, h7, h8, h9, h10⟩ := zCm (List.replicate n z) (by rw [List.length_replicate]; exact h1)
  rw [List.length_replicate] at h4
  have ha : a = z := by
    rw [List.getElem?_replicate, if_pos h1] at h6
    exact (Option.some.inj h6).symm
  have hm : m = n := by
    rcases Nat.lt_or_ge m n with h | h
    · exfalso
      apply h8
      rw [List.getElem?_replicate, if_pos h, ha]
    · omega
  subst hm
  rw [h9, List.drop_eq_nil_of_le (by rw [List.length_replicate]; exact Nat.le_refl _), show runsT [] = [] from rfl, List.append_nil, List.length_append, snumC_one m h2] at h
  have := zKo a
  omega
theorem smallN : ∀ c, c < 32 → (numC (c + 30)).length + (bytesC (scolT 1 (keysS (c + 30)))).length + (encN (List.replicate (c + 30) false)).length + (bytesC (scolT 2 (wdsS (c + 30)))).length ≤ (c + 30) + (c + 30) / 8 + 50 := by decide +kernel
theorem smallE : ∀ c, c < 32 → (encN (List.replicate (c + 30) false)).length ≤ 100 := by decide +kernel
theorem segS_len (v : Int) (c : Nat) (hc : c ≤ 31) : (segT smC (rowsS v (c + 30))).length ≤ 30 + (c + 30) + 20 + (c + 30) / 8 + 20 := by
  unfold segT
  rw [toldS, rowsS_len]
  simp only [List.map_cons, List.map_nil, List.flatten_cons, List.flatten_nil, List.append_nil, List.length_append]
  have h1 := smallN c (by omega)
  have h2 := smallE c (by omega)
  have hn : nulT (List.replicate (c + 30) (⟨false, 1, v, []⟩ : Vc)) = List.replicate (c + 30) false := by unfold nulT; rw [List.map_replicate]
  have ht : intT (List.replicate (c + 30) (⟨false, 1, v, []⟩ : Vc)) = List.replicate (c + 30) v := by
    unfold intT thrT
    rw [List.filter_eq_self.2 (fun x hx => by rw [List.eq_of_mem_replicate hx]; rfl), List.map_replicate]
  have h3 : (scolT 1 (List.replicate (c + 30) (⟨false, 1, v, []⟩ : Vc))).length ≤ (encN (List.replicate (c + 30) false)).length + 12 := by
    unfold scolT bodyT
    rw [if_pos rfl, hn, ht, List.length_append]
    have := sbest_same (c + 30) v (by omega) (by omega)
    omega
  have h4 : (bytesC (scolT 1 (List.replicate (c + 30) (⟨false, 1, v, []⟩ : Vc)))).length = 1 + (scolT 1 (List.replicate (c + 30) (⟨false, 1, v, []⟩ : Vc))).length := by
    unfold bytesC
    rw [List.length_append, snumC_one _ (by omega)]
  omega

/-- A string's bytes, laid as a slice. -/
theorem conv_word (w : World) (s : ByteArray) (bs : List Nat) (hb : s.data.toList.map UInt8.toNat = bs) : ∃ cap w', (convert 9 29 (.string s)).run Tryz.prog w = .ok (.slice (some ⟨w.heap.size, 0, none⟩) bs.length cap) w' ∧ RdB w.heap.size w' (.slice (some ⟨w.heap.size, 0, none⟩) bs.length cap) bs ∧ Below w.heap.size w w' ∧ w'.heap.size = w.heap.size + 1 := by
  have hl : bs.length = s.size := by
    rw [← hb, List.length_map, Array.length_toList]
    rfl
  rw [hl]
  refine ⟨_, _, Lib.run_convert_string_bytes w 9 29 5 s Tryz.underlying9 Tryz.underlying29 Tryz.underlying5, ?_, ?_, Lib.bytesWorld_size _ _ _⟩
  · refine ⟨some ⟨w.heap.size, 0, none⟩, _, by rw [hl], ⟨(fun h => by cases h), ?_⟩, fun hp => ⟨w.heap.size, 0, rfl, Nat.le_refl _, fun i hi => ?_⟩⟩
    · rw [hl]
      exact grownCap_ge _ _ _ _
    · rw [hl] at hi
      rw [Nat.zero_add, Lib.bytesWorld_cell w _ s i hi]
      have h1 : s.data.toList[i]? = some (s.data.toList.getD i 0) := by rw [List.getD_eq_getElem?_getD, List.getElem?_eq_getElem (by rw [Array.length_toList]; exact hi)]; rfl
      have h2 : bs[i]? = some ((s.data.toList.getD i 0).toNat) := by rw [← hb, List.getElem?_map, h1]; rfl
      conv => rhs; rw [List.getD_eq_getElem?_getD, h2]
      rfl
  · exact ⟨rfl, rfl, rfl, by rw [Lib.bytesWorld_size]; omega, fun i hi => Lib.bytesWorld_at_old w _ s i hi⟩

end Go.Proofs.YtmpgnjhgegbdkaaGreat
