/-
  Contracts of the reference's Num and Count.
  Contract of the reference's Reader's Num.
  Contract of the reference's Nulls.
  Plain facts: the reference's GetNulls tells the bools as it has packed them again.
-/
import Derived.Test.YtjcmekhamohbnaaRefab
import Derived.Test.YtjcmekhamohbnaaNullg
namespace Go.Proofs.Ytjcmekhamohbnaa
set_option linter.unusedVariables false
open Go.RowKit

theorem or_high64 (U : Nat) (h : U < 18446744073709551616) : bits .or .u64 (bits .and .u64 (U : Int) 127) 128 % 256 = ((U % 128 + 128 : Nat) : Int) := by
  have e1 : (127 : Int) = ((127 : Nat) : Int) := rfl
  have e2 : (128 : Int) = ((128 : Nat) : Int) := rfl
  have h1 : U % 128 < 128 := Nat.mod_lt _ (by decide)
  have h5 : 128 ||| U % 128 = 128 + U % 128 := nat_join 7 128 (U % 128) (by decide) (by simpa using h1)
  rw [e1, u64_and_nat _ _ h (by decide), nat_mask7, e2, u64_or_nat _ _ (by omega) (by decide), Nat.or_comm, h5]
  omega

set_option maxRecDepth 100000 in
set_option maxHeartbeats 400000 in
theorem refNum_any (v : Value) (bs : List Nat) (u : Nat) (w : World) (hr : Rd w v (bs.map u8v)) (hbig : bs.length ≤ 70368744177664) (hu : u < 18446744073709551616) :
    Calls Try.prog 45 #[v, .int .u64 u] w (RetOwn w.heap.size 5 ((bs ++ numC u).map u8v) w) := by
  have HR := Lib.hid hr
  have HU := Lib.hid hu
  clear hr hu
  obtain ⟨i0, hi, hz0, hz1, hz2⟩ := info_parts info8
  go_enter Try.func45, Try.ntmps45
  have HOE := Lib.hid (own_empty w w.heap.size 5 (Nat.le_refl _))
  have HBA := Lib.hid (below_alloc w (.cells #[] 5))
  have HRA := Lib.hid (HR.out.kept HBA.out)
  have H1 := Lib.hid (show (bs.map u8v).length = bs.length by rw [List.length_map])
  have H3 := Lib.hid (ones_u8 bs)
  have hs1 := Lib.hid HBA.out.size
  go_wp2_with (at_builtin; go_must (refine wpList_append_rd rfl _ _ 24 rfl w.heap.size 5 i0 (.int .u8 0) 1 Try.underlying24 hi hz0 hz1 hz2 rfl _ _ _ rfl HOE.out _ (bs.map u8v) rfl HRA.out H3.out (by rw [H1.out]; unfold maxLen; omega) (by rw [H1.out]; omega) hs1.out ?_); intro v' w1 hown' hgrow; rw [H1.out, Nat.zero_add, List.nil_append] at hown'; have HB1 := Lib.hid (below_own HBA.out HOE.out hgrow); have HO1 := Lib.hid hown'; clear hown' hgrow)
  go_loopw [1, 5] (fun uu vb wr => ∃ U f : Nat, ∃ front : List Nat, f ≤ 9 ∧ U < 128 ^ (f + 1) ∧ U < 18446744073709551616 ∧ uu = .int .u64 (U : Int) ∧ front ++ numF f U = numC u ∧ front.length + f = 9 ∧ wr.ownsRow w.heap.size 5 1 vb (bs.length + front.length) ((bs ++ front).map u8v) ∧ Below w.heap.size w wr) (fun uu _ _ => (intOf uu).toNat)
  case atStart =>
    refine ⟨u, 9, [], Nat.le_refl _, ?_, HU.out, rfl, rfl, rfl, ?_, HB1.out⟩
    · exact Nat.lt_of_lt_of_le HU.out (by decide)
    · have := HO1.out; simpa using this
  case round =>
    obtain ⟨U, f, front, hf, hUf, hU, rfl, hfr, hfl, hown, hbel⟩ := hrel
    obtain ⟨ao2, cap2, hv⟩ := owns_shape hown
    subst hv
    have HO := Lib.hid hown
    have HB := Lib.hid hbel
    have HFR := Lib.hid hfr
    have HUF := Lib.hid hUf
    have HFL := Lib.hid hfl
    have HU64 := Lib.hid hU
    have HOA := Lib.hid (fun o => hown.alloc o)
    clear hown hbel hfr hUf hfl HO1 HB1 hU
    have hfl2 : front.length ≤ 9 := by have := HFL.out; omega
    by_cases hge : 128 ≤ U
    · obtain ⟨x, hx⟩ : ∃ x, x = U % 128 + 128 := ⟨_, rfl⟩
      have hor := or_high64 U HU64.out
      rw [← hx] at hor
      have HX := Lib.hid hx
      have H2 := Lib.hid (one_cell wr (u8v x) 5)
      have H3 := Lib.hid (ones_u8 [x])
      have hf1 : 1 ≤ f := by
        rcases Nat.eq_zero_or_pos f with h | h
        · have := HUF.out; rw [h] at this; simp at this; omega
        · exact h
      have hsz := Lib.hid (show w.heap.size ≤ (wr.alloc (.cells #[u8v x] 5)).heap.size by simp; have := HB.out.size; omega)
      clear hx
      go_wp2_with (at_builtin; go_must (refine wpList_append_own _ rfl _ _ 24 rfl w.heap.size 5 i0 (.int .u8 0) 1 1 Try.underlying24 hi hz0 hz1 hz2 rfl (by decide) _ _ _ rfl (HOA.out _) ⟨wr.heap.size, 0, none⟩ 1 1 [u8v x] rfl rfl H2.out H3.out (by unfold maxLen; omega) (by omega) hsz.out ?_); intro v' w3 hown' hgrow _)
      have HO' := Lib.hid hown'
      have HG' := Lib.hid hgrow
      clear hown' hgrow
      go_wp2
      go_roundw
      case rel =>
        obtain ⟨g, rfl⟩ : ∃ g, f = g + 1 := ⟨f - 1, by omega⟩
        have hnb := numF_big g U (by omega)
        refine ⟨U / 128, g, front ++ [x], by omega, ?_, by have := HU64.out; omega, by go_num, ?_, by have := HFL.out; simp; omega, ?_, ?_⟩
        · have := HUF.out; rw [Nat.pow_succ] at this; omega
        · rw [List.append_assoc, List.singleton_append, HX.out, ← hnb]; exact HFR.out
        · have := HO'.out
          rw [← List.append_assoc, List.map_append, List.length_append, List.length_singleton, ← Nat.add_assoc]
          exact this
        · exact (HB.out.alloc HB.out.size _).grown HG'.out hsz.out (by
            intro k hk
            have := HO.out
            rcases this.2 with ⟨h, _⟩ | ⟨g', cap', cur, h, hbg, _⟩
            · rw [h] at hk; cases hk
            · rw [h] at hk; cases hk; exact hbg)
      case measure => simp [intOf]; omega
    · have hm : (U : Int) % 256 = (U : Int) := by omega
      have H2 := Lib.hid (one_cell wr (u8v U) 5)
      have H3 := Lib.hid (ones_u8 [U])
      have hsz := Lib.hid (show w.heap.size ≤ (wr.alloc (.cells #[u8v U] 5)).heap.size by simp; have := HB.out.size; omega)
      go_wp2_with (at_builtin; go_must (refine wpList_append_own _ rfl _ _ 24 rfl w.heap.size 5 i0 (.int .u8 0) 1 1 Try.underlying24 hi hz0 hz1 hz2 rfl (by decide) _ _ _ rfl (HOA.out _) ⟨wr.heap.size, 0, none⟩ 1 1 [u8v U] rfl rfl H2.out H3.out (by unfold maxLen; omega) (by omega) hsz.out ?_); intro v' w3 hown' hgrow _)
      have HO' := Lib.hid hown'
      have HG' := Lib.hid hgrow
      clear hown' hgrow
      go_wp2
      go_ret
      have hfin : front ++ [U] = numC u := by have := HFR.out; rwa [numF_small f U (by omega)] at this
      have hown2 : w3.ownsRow w.heap.size 5 1 v' ((bs ++ numC u).map u8v).length ((bs ++ numC u).map u8v) := by
        have := HO'.out
        rw [← hfin, ← List.append_assoc, List.map_append, List.length_append, List.length_map, List.length_append, List.length_map, List.length_singleton]
        exact this
      have hbl : Below w.heap.size w w3 := (HB.out.alloc HB.out.size _).grown HG'.out hsz.out (by
            intro k hk
            have := HO.out
            rcases this.2 with ⟨h, _⟩ | ⟨g', cap', cur, h, hbg, _⟩
            · rw [h] at hk; cases hk
            · rw [h] at hk; cases hk; exact hbg)
      obtain ⟨ao', cap', hv⟩ := owns_shape hown2
      refine ⟨ao', cap', ?_, ?_, hbl⟩
      · show Ending.returned v' = _
        rw [hv]
      · rw [← hv]; exact hown2

end Go.Proofs.Ytjcmekhamohbnaa

namespace Go.Proofs.Ytjcmekhamohbnaa
set_option linter.unusedVariables false
open Go.RowKit

def IsQ (w : World) (r : Nat) (left : List Nat) (bad : Bool) : Prop :=
  ∃ v, w.heap[r]? = some (.cells #[v, .bool bad] 82 (0, 0)) ∧ Rd w v (left.map u8v)

theorem isQ_cells {w : World} {r : Nat} {v : Value} {bad : Bool} (h : w.heap[r]? = some (.cells #[v, .bool bad] 82 (0, 0))) :
    w.cell? ⟨r, 0, none⟩ = some v ∧ w.cell? ⟨r, 1, none⟩ = some (.bool bad) ∧ w.frozen? ⟨r, 0, none⟩ = false ∧ w.frozen? ⟨r, 1, none⟩ = false :=
  ⟨by rw [cell_of_row w r 0 _ _ _ h]; rfl, by rw [cell_of_row w r 1 _ _ _ h]; rfl, frozen_of_row w r 0 _ _ h, frozen_of_row w r 1 _ _ h⟩

theorem isQ_apart {w : World} {r b off : Nat} {bad : Bool} {x : Int} {k : IntKind} {ao : Option Addr} {len cap : Nat} (h : w.heap[r]? = some (.cells #[.slice ao len cap, .bool bad] 82 (0, 0)))
    (hc : w.cell? ⟨b, off + 0, none⟩ = some (.int k x)) : b ≠ r := by
  intro hbr
  subst hbr
  rw [cell_of_row w b (off + 0) _ _ _ h] at hc
  match off, hc with
  | 0, hc => simp at hc
  | 1, hc => simp at hc
  | n + 2, hc => simp at hc

end Go.Proofs.Ytjcmekhamohbnaa

namespace Go.Proofs.Ytjcmekhamohbnaa
set_option linter.unusedVariables false
open Go.RowKit

end Go.Proofs.Ytjcmekhamohbnaa

namespace Go.Proofs.Ytjcmekhamohbnaa
set_option linter.unusedVariables false
open Go.RowKit

theorem nextF_canon : ∀ (l : List Nat) (i U u m : Nat), (∀ x ∈ l, x < 256) → i ≤ 9 → nextF i U l = some (u, m) → ∃ t, u = U + t * 2 ^ (7 * i) ∧ i < m ∧ l.take (m - i) = numF (9 - i) t ∧ (0 < i → 0 < t) := by
  intro l
  induction l with
  | nil => intro i U u m _ _ h; cases h
  | cons x r ih =>
    intro i U u m h256 hi h
    have hx := h256 x (by simp)
    unfold nextF at h
    by_cases h9 : i = 9 ∧ 1 < x
    · rw [if_pos h9] at h; cases h
    · rw [if_neg h9] at h
      by_cases hx128 : 128 ≤ x
      · rw [if_pos hx128] at h
        have hi8 : i ≤ 8 := by omega
        obtain ⟨t, h1, h2, h3, h4⟩ := ih (i + 1) _ u m (fun y hy => h256 y (by simp [hy])) (by omega) h
        refine ⟨x % 128 + 128 * t, ?_, by omega, ?_, fun _ => by have := h4 (by omega); omega⟩
        · rw [h1, Nat.add_mul, Nat.add_assoc, show 7 * (i + 1) = 7 * i + 7 by omega, Nat.pow_add]
          congr 2
          rw [show (2 : Nat) ^ 7 = 128 by decide, Nat.mul_comm 128 t, Nat.mul_assoc, Nat.mul_comm 128]
        · have h5 := h4 (by omega)
          rw [show m - i = (m - (i + 1)) + 1 by omega, List.take_succ_cons, h3, show 9 - i = (9 - (i + 1)) + 1 by omega, numF_big _ _ (by omega)]
          rw [show (x % 128 + 128 * t) % 128 + 128 = x by omega, show (x % 128 + 128 * t) / 128 = t by omega]
      · rw [if_neg hx128] at h
        by_cases hz : x = 0 ∧ 0 < i
        · rw [if_pos hz] at h; cases h
        · rw [if_neg hz] at h
          simp only [Option.some.injEq, Prod.mk.injEq] at h
          obtain ⟨h1, h2⟩ := h
          refine ⟨x, by rw [← h1, Nat.mod_eq_of_lt (by omega)], by omega, ?_, fun _ => by omega⟩
          rw [← h2, show i + 1 - i = 1 by omega, numF_small _ _ (by omega)]
          rfl

theorem nextC_canon (b : List Nat) (n k : Nat) (h256 : ∀ x ∈ b, x < 256) (h : nextC b = some (n, k)) : b.take k = numC n := by
  obtain ⟨t, h1, h2, h3, _⟩ := nextF_canon b 0 0 n k h256 (by omega) h
  simp at h1
  subst h1
  exact h3

end Go.Proofs.Ytjcmekhamohbnaa
