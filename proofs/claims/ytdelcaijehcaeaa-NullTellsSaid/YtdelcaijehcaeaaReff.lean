/-
  Contract of the reference's Reader's Num.
-/
import Derived.Test.YtdelcaijehcaeaaRefe
namespace Go.Proofs.Ytdelcaijehcaeaa
set_option linter.unusedVariables false
open Go.RowKit

/-- Block r is a Reader of the reference's: what is left of its bytes, and whether one could not be read. -/
def IsQ (w : World) (r : Nat) (left : List Nat) (bad : Bool) : Prop :=
  ∃ v, w.heap[r]? = some (.cells #[v, .bool bad] 97 (0, 0)) ∧ Rd w v (left.map u8v)

theorem isQ_cells {w : World} {r : Nat} {v : Value} {bad : Bool} (h : w.heap[r]? = some (.cells #[v, .bool bad] 97 (0, 0))) :
    w.cell? ⟨r, 0, none⟩ = some v ∧ w.cell? ⟨r, 1, none⟩ = some (.bool bad) ∧ w.frozen? ⟨r, 0, none⟩ = false ∧ w.frozen? ⟨r, 1, none⟩ = false :=
  ⟨by rw [cell_of_row w r 0 _ _ _ h]; rfl, by rw [cell_of_row w r 1 _ _ _ h]; rfl, frozen_of_row w r 0 _ _ h, frozen_of_row w r 1 _ _ h⟩

theorem isQ_apart {w : World} {r b off : Nat} {bad : Bool} {x : Int} {k : IntKind} {ao : Option Addr} {len cap : Nat} (h : w.heap[r]? = some (.cells #[.slice ao len cap, .bool bad] 97 (0, 0)))
    (hc : w.cell? ⟨b, off + 0, none⟩ = some (.int k x)) : b ≠ r := by
  intro hbr
  subst hbr
  rw [cell_of_row w b (off + 0) _ _ _ h] at hc
  match off, hc with
  | 0, hc => simp at hc
  | 1, hc => simp at hc
  | n + 2, hc => simp at hc

set_option maxRecDepth 100000 in
set_option maxHeartbeats 1000000 in
theorem refRNum_any (r : Nat) (left : List Nat) (w : World) (h : IsQ w r left false) (h256 : ∀ x ∈ left, x < 256) (hbig : left.length ≤ 17592186044416) :
    Calls Try.prog 71 #[.pointer (some ⟨r, 0, none⟩)] w fun e w' =>
      (nextC left = none ∧ e = .returned (.int .u64 0) ∧ IsQ w' r left true ∧ w.grownBy w' (some r)) ∨
      (∃ u n : Nat, nextC left = some (u, n) ∧ e = .returned (.int .u64 (u : Int)) ∧ IsQ w' r (left.drop n) false ∧ w.grownBy w' (some r)) := by
  obtain ⟨v, hv, hr⟩ := h
  obtain ⟨c0, c1, f0, f1⟩ := isQ_cells hv
  have HV := Lib.hid hv
  have HR := Lib.hid hr
  have hr2 := hr
  obtain ⟨ao, cap, hvs, hrr⟩ := hr2
  clear hrr
  rw [List.length_map] at hvs
  subst hvs
  obtain ⟨len, hlen⟩ : ∃ len, len = left.length := ⟨_, rfl⟩
  rw [← hlen] at c0 hbig HR HV
  have HL := Lib.hid hlen
  have H256 := Lib.hid h256
  have hcap := rd_cap HR.out
  clear hv hr hlen h256
  go_enter Try.func71, Try.ntmps71
  go_wp2_with fail
  go_loop [3, 4] (fun u i => ∃ k U : Nat, k ≤ len ∧ k ≤ 9 ∧ i = .int .i64 (k : Int) ∧ u = .int .u64 (U : Int) ∧ U < 2 ^ (7 * k) ∧ nextF k U (left.drop k) = nextC left) (fun _ i => len - (intOf i).toNat)
  case atStart => exact ⟨0, 0, Nat.zero_le _, by omega, rfl, rfl, by simp, rfl⟩
  case round =>
    obtain ⟨k, U, hk, hk9, rfl, rfl, hU, hnx⟩ := hrel
    have HU := Lib.hid hU
    have HN := Lib.hid hnx
    clear hU hnx
    by_cases hlt : k < len
    · obtain ⟨b, off, rfl, hcell⟩ := (rd_cells HR.out).2 (by omega)
      have hx := hcell k hlt
      obtain ⟨x, hxe⟩ : ∃ x, x = left.getD k 0 := ⟨_, rfl⟩
      rw [← hxe] at hx
      have hget : left[k]? = some x := by
        rw [hxe, List.getD_eq_getElem?_getD, List.getElem?_eq_getElem (by rw [← HL.out]; exact hlt)]; rfl
      have hx2 : x < 256 := H256.out x (List.mem_of_getElem? hget)
      have hdrop : left.drop k = x :: left.drop (k + 1) := by
        have hkl : k < left.length := by rw [← HL.out]; exact hlt
        rw [List.drop_eq_getElem_cons hkl]
        congr 1
        rw [List.getElem?_eq_getElem hkl] at hget
        simpa using hget
      have hstep : nextF k U (left.drop k) = (if k = 9 ∧ 1 < x then none else if 128 ≤ x then nextF (k + 1) (U + x % 128 * 2 ^ (7 * k)) (left.drop (k + 1))
          else if x = 0 ∧ 0 < k then none else some (U + x % 128 * 2 ^ (7 * k), k + 1)) := by rw [hdrop]; rfl
      have HS := Lib.hid (hstep.symm.trans HN.out)
      have HAP := Lib.hid (isQ_apart HV.out (hcell 0 (by omega)))
      clear hcell hxe hget hdrop hstep
      have HNE := Lib.hid (show ∀ b' off' c' n', (Value.slice (some ⟨b, off, none⟩) len cap) = .slice (some ⟨b', off', none⟩) n' c' → 0 < n' → b' ≠ r by
        intro b' off' c' n' hv' hp
        simp only [Value.slice.injEq, Option.some.injEq, Addr.mk.injEq] at hv'
        have := HAP.out
        omega)
      by_cases hbad : (k = 9 ∧ 1 < x) ∨ (x = 0 ∧ 0 < k)
      · have HQ := Lib.hid (show nextC left = none by
          have := HS.out
          by_cases h9 : k = 9 ∧ 1 < x
          · rw [if_pos h9] at this; exact this.symm
          · rw [if_neg h9, if_neg (by omega), if_pos (by omega)] at this; exact this.symm)
        by_cases h9 : k = 9 ∧ 1 < x
        · obtain ⟨h91, h92⟩ := h9
          subst h91
          have hb1 : decide ((1 : Int) < (x : Int)) = true := by simp; omega
          clear hbad
          go_wp2_with fail
          go_ret
          exact .inl ⟨HQ.out, rfl, ⟨_, heap_setCell_same w r 1 _ _ (.bool true) HV.out, rd_set HR.out HNE.out⟩, grown_setCell _ _ _⟩
        · have hb : decide (0 < k) = true := by simp; omega
          obtain rfl : x = 0 := by omega
          have hz4 : ((k : Int) == 9) = true ∨ ((k : Int) == 9) = false := by cases ((k : Int) == 9) <;> simp
          clear hbad h9
          rcases hz4 with hz4 | hz4
          all_goals
            go_wp2_with fail
            go_ret
            exact .inl ⟨HQ.out, rfl, ⟨_, heap_setCell_same w r 1 _ _ (.bool true) HV.out, rd_set HR.out HNE.out⟩, grown_setCell _ _ _⟩
      · have hs2 := HS.out
        rw [if_neg (by omega)] at hs2
        have HS2 := Lib.hid hs2
        have HOR := Lib.hid (or_group U x k HU.out hk9 hx2 (by omega))
        clear hs2
        by_cases hx128 : 128 ≤ x
        · have hz4 : ((k : Int) == 9) = false := by rw [beq_eq_false_iff_ne]; omega
          have hz6 : ((x : Int) == 0) = false := by rw [beq_eq_false_iff_ne]; omega
          have hb128 : decide ((x : Int) < 128) = false := by simp; omega
          have HK9 := Lib.hid (show ¬ k = 9 by omega)
          have HR3 := Lib.hid (show nextF (k + 1) (U + x % 128 * 2 ^ (7 * k)) (left.drop (k + 1)) = nextC left by have := HS2.out; rwa [if_pos hx128] at this)
          clear hbad
          go_wp2_with fail
          go_round
          case rel =>
            refine ⟨k + 1, U + x % 128 * 2 ^ (7 * k), by omega, by have := HK9.out; omega, by go_num, by rw [HOR.out], ?_, HR3.out⟩
            have h1 := HU.out
            have h3 : x % 128 + 1 ≤ 128 := by omega
            have h5 : (x % 128 + 1) * 2 ^ (7 * k) ≤ 128 * 2 ^ (7 * k) := Nat.mul_le_mul_right _ h3
            have h6 : 128 * 2 ^ (7 * k) = 2 ^ (7 * (k + 1)) := by rw [Nat.mul_add, Nat.pow_add]; omega
            rw [Nat.succ_mul] at h5
            omega
          case measure => simp [intOf]; omega
        · have hb128 : decide ((x : Int) < 128) = true := by simp; omega
          have HQ := Lib.hid (show nextC left = some (U + x % 128 * 2 ^ (7 * k), k + 1) by have := HS2.out; rw [if_neg hx128, if_neg (by omega)] at this; exact this.symm)
          have hcase : (((x : Int) == 0) = true ∧ decide (0 < k) = false ∧ ((k : Int) == 9) = false) ∨ (((x : Int) == 0) = false ∧ ((k : Int) == 9) = true ∧ decide ((1 : Int) < (x : Int)) = false) ∨ (((x : Int) == 0) = false ∧ ((k : Int) == 9) = false ∧ True) := by
            by_cases h : x = 0
            · left; exact ⟨by rw [beq_iff_eq]; omega, by simp; omega, by rw [beq_eq_false_iff_ne]; omega⟩
            · right
              by_cases h9 : k = 9
              · left; exact ⟨by rw [beq_eq_false_iff_ne]; omega, by rw [beq_iff_eq]; omega, by simp; omega⟩
              · right; exact ⟨by rw [beq_eq_false_iff_ne]; omega, by rw [beq_eq_false_iff_ne]; omega, trivial⟩
          have HRD := Lib.hid (rd_drop HR.out (show k + 1 ≤ len by omega))
          clear hbad
          rcases hcase with ⟨hz4, hz5, hz6⟩ | ⟨hz4, hz5, hz6⟩ | ⟨hz4, hz5, hz6⟩
          all_goals
            go_wp2_with fail
            · go_ret
              have hz : len - (k + 1) = 0 := by have := rd_cap HR.out; omega
              refine .inr ⟨_, _, HQ.out, congrArg (fun z => Ending.returned (.int .u64 z)) HOR.out, ⟨_, heap_setCell_same w r 0 _ _ _ HV.out, ?_⟩, grown_setCell _ _ _⟩
              rw [hz, List.drop_of_length_le (by rw [← HL.out]; omega)]
              exact rd_empty _ _ _
            · go_ret
              refine .inr ⟨_, _, HQ.out, congrArg (fun z => Ending.returned (.int .u64 z)) HOR.out, ⟨_, heap_setCell_same w r 0 _ _ _ HV.out, ?_⟩, grown_setCell _ _ _⟩
              have hd := HRD.out
              rw [← List.map_drop] at hd
              refine rd_set hd fun b' off' c' n' hv' hp => ?_
              simp only [Value.slice.injEq, Option.some.injEq, Addr.mk.injEq] at hv'
              rw [← hv'.1.1]
              exact HAP.out
    · have HQ := Lib.hid (show nextC left = none by
        have := HN.out
        rw [List.drop_of_length_le (by rw [← HL.out]; omega)] at this
        exact this.symm)
      have hd : decide ((k : Int) < (len : Int)) = false := by simp; omega
      go_wp2_with fail
      go_ret
      refine .inl ⟨HQ.out, rfl, ⟨_, heap_setCell_same w r 1 _ _ (.bool true) HV.out, rd_set HR.out fun b' off' c' n' hv' hp => ?_⟩, grown_setCell _ _ _⟩
      simp only [Value.slice.injEq] at hv'
      obtain ⟨rfl, h2, h3⟩ := hv'
      obtain ⟨b, off, h4, hcell⟩ := (rd_cells HR.out).2 (by omega)
      cases h4
      exact isQ_apart HV.out (hcell 0 (by omega))

end Go.Proofs.Ytdelcaijehcaeaa
