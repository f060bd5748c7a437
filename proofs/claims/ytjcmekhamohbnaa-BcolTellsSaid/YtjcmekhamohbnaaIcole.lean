/-
  Contract of layer 4: runs of numbers, read.
  Contracts of layer 4: words read; the width of places; whether each word is used.
  Contract of layer 4: whether each word is used.
  Contract of layer 4: a dictionary read.
-/
import Derived.Test.YtjcmekhamohbnaaIcola
import Derived.Deep.DeepCutAuto
import Derived.Test.YtjcmekhamohbnaaWidth
import Derived.Test.YtjcmekhamohbnaaUnpack
namespace Go.Proofs.Ytjcmekhamohbnaa
set_option linter.unusedVariables false
set_option linter.unusedSimpArgs false
open Go.RowKit

theorem name_wg {w0 w : World} {o : Option Nat} (h : w0.grownBy w o) : ∃ V : World, V = w := ⟨w, rfl⟩

end Go.Proofs.Ytjcmekhamohbnaa

namespace Go.Proofs.Ytjcmekhamohbnaa
set_option linter.unusedVariables false
set_option linter.unusedSimpArgs false
open Go.RowKit

set_option maxRecDepth 100000 in
set_option maxHeartbeats 8000000 in
theorem pwidth_any (n : Nat) (hn : n ≤ 100000) (w : World) : Calls Try.prog 43 #[.int .i64 (n : Int)] w fun e w' => e = .returned (.int .i64 (Lib.bitLen (n - 1) : Nat)) ∧ w = w' := by
  have hm : max ((n : Int) - 1) 0 = ((n - 1 : Nat) : Int) := by omega
  have hw1 : IntKind.i64.wrap ((n : Int) - 1) = (n : Int) - 1 := IntWalk.i64_in _ (by omega)
  have hw2 : IntKind.u64.wrap ((n - 1 : Nat) : Int) = ((n - 1 : Nat) : Int) := IntWalk.u64_in _ (by omega)
  have HW := Lib.hid (width_any (n - 1) w (by omega))
  go_enter Try.func43, Try.ntmps43
  go_wp2_with fail
  refine HW.out.mono ?_
  rintro e w2 ⟨rfl, rfl⟩
  go_wp2_with fail
  go_ret
  exact ⟨rfl, rfl⟩


end Go.Proofs.Ytjcmekhamohbnaa

namespace Go.Proofs.Ytjcmekhamohbnaa
set_option linter.unusedVariables false
set_option linter.unusedSimpArgs false
open Go.RowKit

def usedT (ps : List Nat) (n : Nat) : List Bool := (List.range n).map fun j => ps.contains j
def freeT (ps : List Nat) (n : Nat) : Nat := (List.range n).countP fun j => !ps.contains j
theorem cnt_step (P : Nat → Bool) (p : Nat) (hP : P p = false) : ∀ n, (List.range n).countP (fun j => !(P j || j == p)) + (if p < n then 1 else 0) = (List.range n).countP (fun j => !P j)
  | 0 => by simp
  | n + 1 => by
    have ih := cnt_step P p hP n
    rw [List.range_succ, List.countP_append, List.countP_append, ← ih]
    by_cases hn : n = p
    · subst hn
      simp [List.countP_cons, hP]
    · have h1 : (n == p) = false := by rw [beq_eq_false_iff_ne]; exact hn
      have h2 : (p < n + 1) ↔ (p < n) := by omega
      simp only [List.countP_cons, List.countP_nil, h1, Bool.or_false, h2]
      omega
theorem contains_snoc (ps : List Nat) (p j : Nat) : (ps ++ [p]).contains j = (ps.contains j || j == p) := by
  rw [List.contains_append]
  congr 1
  rw [List.contains_cons]
  simp
theorem usedT_len (ps : List Nat) (n : Nat) : (usedT ps n).length = n := by simp [usedT]
theorem usedT_at (ps : List Nat) {n j : Nat} (h : j < n) : (usedT ps n)[j]? = some (ps.contains j) := by simp [usedT, h]
theorem usedT_again {ps : List Nat} {p n : Nat} (h : ps.contains p = true) : usedT (ps ++ [p]) n = usedT ps n ∧ freeT (ps ++ [p]) n = freeT ps n := by
  have e : ∀ j, (ps ++ [p]).contains j = ps.contains j := fun j => by
    rw [contains_snoc]
    by_cases hj : j = p
    · subst hj; rw [h]; rfl
    · rw [beq_eq_false_iff_ne.2 hj, Bool.or_false]
  unfold usedT freeT
  simp only [e]
  exact ⟨trivial, trivial⟩
theorem usedT_new {ps : List Nat} {p n : Nat} (h : ps.contains p = false) (hp : p < n) : usedT (ps ++ [p]) n = (usedT ps n).set p true ∧ freeT (ps ++ [p]) n + 1 = freeT ps n := by
  constructor
  · apply List.ext_getElem?
    intro j
    by_cases hj : j < n
    · rw [usedT_at _ hj, List.getElem?_set, usedT_len, usedT_at _ hj, contains_snoc]
      by_cases e : p = j
      · subst e
        simp [hp]
      · rw [if_neg e]
        rw [beq_eq_false_iff_ne.2 (fun h => e h.symm), Bool.or_false]
    · rw [List.getElem?_eq_none (by rw [usedT_len]; omega), List.getElem?_eq_none (by rw [List.length_set, usedT_len]; omega)]
  · have h1 := cnt_step (fun j => ps.contains j) p h n
    rw [if_pos hp] at h1
    unfold freeT
    simp only [contains_snoc]
    exact h1
theorem freeT_nil (n : Nat) : freeT [] n = n := by
  unfold freeT
  rw [List.countP_eq_length.2 (fun a _ => by simp), List.length_range]
theorem freeT_zero (ps : List Nat) (n : Nat) : ((freeT ps n : Int) == 0) = (List.range n).all fun w => ps.contains w := by
  rw [Bool.eq_iff_iff, beq_iff_eq, List.all_eq_true]
  unfold freeT
  rw [show (((List.range n).countP fun j => !ps.contains j : Nat) : Int) = 0 ↔ ((List.range n).countP fun j => !ps.contains j) = 0 by omega, List.countP_eq_zero]
  simp
theorem info_bool : (Try.prog.info? 4).map (fun i => (i.zero, i.size, i.bytes)) = some (some (.bool false), 1, 1) := by kernel_rfl
theorem info_parts {t : TypeId} {z : Value} {sz b : Nat} (h : (Try.prog.info? t).map (fun i => (i.zero, i.size, i.bytes)) = some (some z, sz, b)) : ∃ ei, Try.prog.info? t = some ei ∧ ei.zero = some z ∧ ei.size = sz ∧ ei.bytes = b := by
  cases hq : Try.prog.info? t with
  | none => rw [hq] at h; cases h
  | some i =>
    rw [hq] at h
    simp only [Option.map_some, Option.some.injEq, Prod.mk.injEq] at h
    exact ⟨i, rfl, h.1, h.2.1, h.2.2⟩

set_option maxRecDepth 100000 in
set_option maxHeartbeats 8000000 in
theorem allused_any (ps : List Nat) (pv : Value) (n : Nat) (w : World) (hr : Rd w pv (ps.map u64v)) (h64 : ∀ x ∈ ps, x < 18446744073709551616) (hlp : ps.length ≤ 65535) (hn : n ≤ 65535) :
    Calls Try.prog 57 #[pv, .int .i64 (n : Int)] w fun e w' => e = .returned (.bool (allUsedT ps n)) ∧ Below w.heap.size w w' := by
  obtain ⟨ao, cap, rfl⟩ := rd_shape1 hr
  obtain ⟨m, hm⟩ : ∃ m, m = ps.length := ⟨_, rfl⟩
  rw [List.length_map, ← hm] at hr ⊢
  rw [← hm] at hlp
  have HR := Lib.hid hr
  have H64 := Lib.hid h64
  have HM := Lib.hid hm
  obtain ⟨ei, he1, he2, he3, he4⟩ := info_parts info_bool
  obtain ⟨W1, hmk, hown1, hg1⟩ := run_make_full (P := Try.prog) w w.heap.size 96 4 ei (.bool false) 1 Try.underlying96 he1 he2 he3 .i64 .i64 n (by rw [he4]; omega) (by unfold maxLen; omega) (Nat.le_refl _)
  obtain ⟨G, hG⟩ : ∃ G, G = w.heap.size := ⟨_, rfl⟩
  rw [← hG] at hmk hown1
  have hown2 : W1.ownsRow G 4 1 (.slice (some ⟨G, 0, none⟩) n n) n ((usedT [] n).map Value.bool) := by
    rw [show (Value.bool false).cells = #[Value.bool false] from rfl, Nat.mul_one, toList_madeCells_one] at hown1
    have e : (usedT [] n).map Value.bool = List.replicate n (Value.bool false) := by
      apply List.ext_getElem?
      intro j
      rw [List.getElem?_map, List.getElem?_replicate]
      by_cases hj : j < n
      · rw [usedT_at _ hj, if_pos hj]; rfl
      · rw [if_neg hj, List.getElem?_eq_none (by rw [usedT_len]; omega)]; rfl
    rw [e]
    exact hown1
  have HO1 := Lib.hid hown2
  have HB1 := Lib.hid (show Below w.heap.size w W1 from ⟨hg1.os, hg1.tape, hg1.output, hg1.size, fun i hi => hg1.block i hi (by simp)⟩)
  have HGG := Lib.hid hG
  have hmn := HM.out
  clear hr h64 hm hown1 hown2 hg1 he1 he2 he3 he4 hG hmn
  go_enter Try.func57, Try.ntmps57
  go_upto_region 2 with (fail)
  clear hmk
  go_wp2_with fail
  go_loopw [6, 14] (fun k i wr => ∃ q : Nat, q ≤ m ∧ i = .int .i64 (q : Int) ∧ k = .int .i64 ((freeT (ps.take q) n : Nat) : Int) ∧ (∀ x ∈ ps.take q, x < n) ∧ wr.ownsRow G 4 1 (.slice (some ⟨G, 0, none⟩) n n) n ((usedT (ps.take q) n).map Value.bool) ∧ Below w.heap.size w wr) (fun _ i _ => m - (intOf i).toNat)
  case atStart => exact ⟨0, Nat.zero_le _, rfl, by rw [List.take_zero, freeT_nil], (fun x hx => by simp at hx), HO1.out, HB1.out⟩
  case round =>
    obtain ⟨q, hq, rfl, rfl, hlt9, hown, hbel⟩ := hrel
    have HLT := Lib.hid hlt9
    have HO := Lib.hid hown
    have HBL := Lib.hid hbel
    have hfr := List.countP_le_length (l := List.range n) (p := fun j => !(ps.take q).contains j)
    obtain ⟨F, hF⟩ : ∃ F, F = freeT (ps.take q) n := ⟨_, rfl⟩
    have hFn : F ≤ n := by rw [hF]; unfold freeT; rw [List.length_range] at hfr; exact hfr
    rw [← hF]
    have HF := Lib.hid hF
    clear hlt9 hown hbel hfr hF
    by_cases hlt : q < m
    · have hlti : (q : Int) < (m : Int) := by omega
      have hq0 : (0 : Int) ≤ (q : Int) := by omega
      have hc := (rd64_cells (HR.out.kept HBL.out)).2
      obtain ⟨b, off, rfl, hcell⟩ := hc (by omega)
      have hx := hcell q hlt
      obtain ⟨p, hp⟩ : ∃ p, p = ps.getD q 0 := ⟨_, rfl⟩
      rw [← hp] at hx
      have hat : ps[q]? = some p := by rw [hp, List.getD_eq_getElem?_getD, List.getElem?_eq_getElem (by rw [← HM.out]; exact hlt)]; rfl
      have hp64 : p < 18446744073709551616 := H64.out p (List.mem_of_getElem? hat)
      have htk : ps.take (q + 1) = ps.take q ++ [p] := by rw [List.take_add_one, hat]; rfl
      have HTK := Lib.hid htk
      have HAT := Lib.hid hat
      have hw1 : IntKind.u64.wrap (n : Int) = (n : Int) := IntWalk.u64_in _ (by omega)
      clear hc hcell hp hat htk
      by_cases hpn : p < n
      · have hpb : decide ((p : Int) ≥ (n : Int)) = false := by rw [decide_eq_false_iff_not]; omega
        have hpc : ¬ (n : Int) ≤ (p : Int) := by omega
        have hpi : (p : Int) < (n : Int) := by omega
        have hp0 : (0 : Int) ≤ (p : Int) := by omega
        have hcu := HO.out.cellAt p (by omega)
        rw [List.getElem?_map, usedT_at _ hpn] at hcu
        have hfz := HO.out.frozenAt p
        obtain ⟨B, hB⟩ : ∃ B, B = (ps.take q).contains p := ⟨_, rfl⟩
        rw [← hB] at hcu
        have hcu2 : wr.cell? ⟨G, p, none⟩ = some (.bool B) := hcu
        have HBB := Lib.hid hB.symm
        have HLT2 := Lib.hid (show ∀ x ∈ ps.take (q + 1), x < n from fun x hx => by
          rw [HTK.out, List.mem_append] at hx
          rcases hx with hx | hx
          · exact HLT.out x hx
          · rw [List.mem_singleton.1 hx]; exact hpn)
        clear hB hcu
        cases B
        · obtain ⟨h1, h2⟩ := usedT_new HBB.out hpn
          have hF1 : 0 < F := by rw [HF.out]; omega
          have hwf : IntKind.i64.wrap ((F : Int) - 1) = ((F - 1 : Nat) : Int) := by rw [IntWalk.i64_in _ (by omega)]; omega
          have hwf2 : (F : Int) - 1 = ((F - 1 : Nat) : Int) := by omega
          have HU := Lib.hid h1
          have HF2 := Lib.hid h2
          have hst := HO.out.stored p (.bool true)
          have HST := Lib.hid hst
          clear h1 h2 hst
          go_wp2_with fail
          go_roundw
          case rel =>
            refine ⟨q + 1, by omega, by go_num, ?_, HLT2.out, ?_, ?_⟩
            · have := HF2.out
              have := HF.out
              rw [HTK.out]
              congr 1
              omega
            · have h := HST.out.1
              rw [HTK.out, HU.out, List.map_set]
              exact h
            · exact HBL.out.setCell (p := ⟨G, p, none⟩) (by show _ ≤ G; rw [HGG.out]; exact Nat.le_refl _) _
          case measure => simp [intOf]; omega
        · obtain ⟨h1, h2⟩ := usedT_again (n := n) HBB.out
          have HU := Lib.hid h1
          have HF2 := Lib.hid h2
          clear h1 h2
          go_wp2_with fail
          go_roundw
          case rel =>
            refine ⟨q + 1, by omega, by go_num, ?_, HLT2.out, ?_, HBL.out⟩
            · rw [HTK.out, HF2.out, HF.out]
            · rw [HTK.out, HU.out]
              exact HO.out
          case measure => simp [intOf]; omega
      · have hpb : decide ((p : Int) ≥ (n : Int)) = true := by rw [decide_eq_true_iff]; omega
        have hpc : (n : Int) ≤ (p : Int) := by omega
        have HNO := Lib.hid (show allUsedT ps n = false from by
          unfold allUsedT
          rw [Bool.and_eq_false_iff]
          left
          rw [← Bool.not_eq_true, List.all_eq_true]
          intro h
          have := h p (List.mem_of_getElem? HAT.out)
          rw [decide_eq_true_iff] at this
          exact hpn this)
        go_wp2_with fail
        go_ret
        exact ⟨by rw [HNO.out]; rfl, HBL.out⟩
    · have hqm : q = m := by omega
      subst hqm
      have hlti : ¬ (q : Int) < (q : Int) := by omega
      have htk : ps.take q = ps := by rw [HM.out, List.take_length]
      have HYES := Lib.hid (show ((F : Int) == 0) = allUsedT ps n from by
        rw [HF.out, htk, freeT_zero]
        unfold allUsedT
        have : ps.all (fun p => decide (p < n)) = true := by
          rw [List.all_eq_true]
          intro x hx
          rw [decide_eq_true_iff]
          have h := HLT.out x
          rw [htk] at h
          exact h hx
        rw [this, Bool.true_and])
      clear htk
      go_wp2_with fail
      go_ret
      exact ⟨by rw [← HYES.out]; first | rfl | simp, HBL.out⟩


end Go.Proofs.Ytjcmekhamohbnaa

namespace Go.Proofs.Ytjcmekhamohbnaa
set_option linter.unusedVariables false
set_option linter.unusedSimpArgs false
open Go.RowKit

theorem unpackB_len {bs us : List Nat} {n count : Int} (h : unpackB bs n count = some us) : us.length = count.toNat ∧ (∀ x ∈ us, x < 18446744073709551616) := by
  unfold unpackB at h
  split at h
  · simp only [Option.some.injEq] at h
    subst h
    refine ⟨by simp, fun x hx => ?_⟩
    obtain ⟨i, _, rfl⟩ := List.mem_map.1 hx
    have h1 := numB_lt bs (i * heldN n) (heldN n)
    have h2 : (2 : Nat) ^ heldN n ≤ 2 ^ 64 := Nat.pow_le_pow_right (by decide) (heldN_le n)
    have e : (2 : Nat) ^ 64 = 18446744073709551616 := by decide
    omega
  · cases h
theorem getD_256 {bs : List Nat} (h : ∀ x ∈ bs, x < 256) (i : Nat) : bs.getD i 0 < 256 := by
  rw [List.getD_eq_getElem?_getD]
  cases hq : bs[i]? with
  | none => decide
  | some x => exact h x (List.mem_of_getElem? hq)
end Go.Proofs.Ytjcmekhamohbnaa
