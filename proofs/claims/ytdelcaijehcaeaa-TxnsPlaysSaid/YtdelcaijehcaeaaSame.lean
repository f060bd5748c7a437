/-
  Contract of the reference's SameWords.
-/
import Derived.Test.YtdelcaijehcaeaaSpare
namespace Go.Proofs.Ytdelcaijehcaeaa
set_option linter.unusedVariables false
open Go.RowKit

set_option maxHeartbeats 1000000 in
theorem same_any (a1 a2 : Option Addr) (l1 l2 c1 c2 : Nat) (us vs : List Nat) (w : World) (h1 : Rd w (.slice a1 l1 c1) (us.map u64v)) (h2 : Rd w (.slice a2 l2 c2) (vs.map u64v)) (hlen : l1 ≤ 1125899906842624) :
    Calls Try.prog 20 #[.slice a1 l1 c1, .slice a2 l2 c2] w fun e w' => e = .returned (.bool (us == vs)) ∧ ∃ k, w' = w.drewN k := by
  obtain ⟨e1, hc1⟩ := rd64_cells h1
  obtain ⟨e2, hc2⟩ := rd64_cells h2
  clear h1 h2
  have E1 := Lib.hid e1
  have E2 := Lib.hid e2
  clear e1 e2
  by_cases hl : l1 = l2
  · subst hl
    go_enter Try.func20, Try.ntmps20
    go_wp2
    go_loopw [5] (fun i wr => ∃ j : Nat, j ≤ l1 ∧ i = .int .i64 (j : Int) ∧ us.take j = vs.take j ∧ ∃ k, wr = w.drewN k) (fun i _ => l1 - (intOf i).toNat)
    case atStart => exact ⟨0, Nat.zero_le _, rfl, rfl, 0, rfl⟩
    case round =>
      obtain ⟨j, hj, rfl, htake, k, rfl⟩ := hrel
      have HT := Lib.hid htake
      clear htake
      by_cases hlt : j < l1
      · obtain ⟨b1, o1, rfl, hx1⟩ := hc1 (by omega)
        obtain ⟨b2, o2, rfl, hx2⟩ := hc2 (by omega)
        have hy1 := hx1 j hlt
        have hy2 := hx2 j hlt
        obtain ⟨x1, hx1e⟩ : ∃ x, x = us.getD j 0 := ⟨_, rfl⟩
        obtain ⟨x2, hx2e⟩ : ∃ x, x = vs.getD j 0 := ⟨_, rfl⟩
        rw [← hx1e] at hy1
        rw [← hx2e] at hy2
        have HX1 := Lib.hid hx1e
        have HX2 := Lib.hid hx2e
        clear hx1e hx2e hc1 hc2 hx1 hx2
        by_cases hx : x1 = x2
        · have hb : ((x1 : Int) != (x2 : Int)) = false := by simp [hx]
          go_wp2
          go_quiet (fail)
          go_wp2
          go_roundw
          case rel =>
            refine ⟨j + 1, by omega, by go_num, ?_, _, rfl⟩
            have g1 : us[j]? = some x1 := by rw [HX1.out, List.getD_eq_getElem?_getD, List.getElem?_eq_getElem (by have := E1.out; omega)]; rfl
            have g2 : vs[j]? = some x2 := by rw [HX2.out, List.getD_eq_getElem?_getD, List.getElem?_eq_getElem (by have := E2.out; omega)]; rfl
            rw [List.take_add_one, List.take_add_one, HT.out, g1, g2, hx]
          case measure => simp [intOf]; omega
        · have hb : ((x1 : Int) != (x2 : Int)) = true := by rw [bne_iff_ne]; omega
          have hne : (us == vs) = false := by
            rw [beq_eq_false_iff_ne]
            intro h
            apply hx
            rw [HX1.out, HX2.out, h]
          have HNE := Lib.hid hne
          clear hne
          go_wp2
          go_quiet (fail)
          go_wp2
          go_ret
          exact ⟨bool_of_eq HNE.out.symm, k + nq, by first | rfl | simp⟩
      · have hjl : j = l1 := by omega
        have heq : (us == vs) = true := by
          rw [beq_iff_eq]
          have := HT.out
          rw [hjl, E1.out, List.take_length, ← E1.out, E2.out, List.take_length] at this
          exact this
        have HNE := Lib.hid heq
        clear heq hjl
        go_wp2
        go_ret
        exact ⟨bool_of_eq HNE.out.symm, k, rfl⟩
  · have hne : (us == vs) = false := by
      rw [beq_eq_false_iff_ne]
      intro h
      apply hl
      rw [E1.out, E2.out, h]
    rw [hne]
    have hb : ((l1 : Int) != (l2 : Int)) = true := by rw [bne_iff_ne]; omega
    clear hne hl hc1 hc2
    go_enter Try.func20, Try.ntmps20
    go_wp2
    go_ret
    exact ⟨rfl, 0, rfl⟩

end Go.Proofs.Ytdelcaijehcaeaa
