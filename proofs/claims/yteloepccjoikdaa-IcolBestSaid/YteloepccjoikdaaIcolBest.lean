/-
  The walk of IcolBest.
-/
import Derived.Test.YteloepccjoikdaaIcx
import Derived.Test.YteloepccjoikdaaAwake4
namespace Go.Proofs.Yteloepccjoikdaa
set_option linter.unusedVariables false
set_option linter.unusedSimpArgs false
open Go.RowKit

theorem own_kept {w w' : World} {base : Nat} {e : TypeId} {sz n : Nat} {v : Value} {xs : List Value} (h : w.ownsRow base e sz v n xs) (hb : Below w.heap.size w w') : w'.ownsRow base e sz v n xs :=
  h.kept (grown_of_below hb none) (by cases h : v.ownBlock with | none => exact .inl rfl | some g => exact .inr (by simp))
theorem own_kept2 {w w' : World} {base : Nat} {e : TypeId} {sz n g : Nat} {v : Value} {xs : List Value} (h : w.ownsRow base e sz v n xs) (hg : w.grownBy w' (some g)) (hne : v.ownBlock ≠ some g) : w'.ownsRow base e sz v n xs := h.kept hg (.inr hne)

set_option maxRecDepth 100000 in
set_option maxHeartbeats 8000000 in
theorem walk_IcolBest (a0 a1 a2 : Int) (w : World) (w0 : (Lit.int .i64 a0).wf = true) (w1 : (Lit.int .i64 a1).wf = true) (w2 : (Lit.int .i64 a2).wf = true) :
    Calls Try.prog 8 #[.int .i64 a0, .int .i64 a1, .int .i64 a2] w fun e w' => e = .returned (.bool true) ∧ Below w.heap.size w w' := by
  have b63 : ∀ x, bits .and .i64 x 63 = x % 64 := fun x => and_lowI x 6 (by decide) 63 rfl
  have b15 : ∀ x, bits .and .i64 x 15 = x % 16 := fun x => and_lowI x 4 (by decide) 15 rfl
  have b3 : ∀ x, bits .and .i64 x 3 = x % 4 := fun x => and_lowI x 2 (by decide) 3 rfl
  have b65535 : ∀ x, bits .and .i64 x 65535 = x % 65536 := fun x => and_lowI x 16 (by decide) 65535 rfl
  have b40 : ∀ x, bits .and .i64 x 1099511627775 = x % 1099511627776 := fun x => and_lowJ x 40 (by decide) 1099511627775 rfl
  have HI1 := Lib.hid (show I64 a1 from by have := wf_i64 w1; unfold I64; omega)
  obtain ⟨N, hN⟩ : ∃ N : Nat, a0 % 64 + 8 = (N : Int) := ⟨(a0 % 64 + 8).toNat, by omega⟩
  have hN8 : 8 ≤ N := by omega
  have hN71 : N ≤ 71 := by omega
  have hwN : IntKind.i64.wrap (a0 % 64 + 8) = (N : Int) := by rw [hN]; exact IntWalk.i64_in _ (by omega)
  have hwN2 : IntKind.i64.wrap (N : Int) = (N : Int) := IntWalk.i64_in _ (by omega)
  obtain ⟨C, hC⟩ : ∃ C : Int, a1 % 1099511627776 = C := ⟨_, rfl⟩
  have hC0 : 0 ≤ C ∧ C < 1099511627776 := by omega
  obtain ⟨E, hE⟩ : ∃ E : Int, a2 % 65536 + 1 = E := ⟨_, rfl⟩
  have hE0 : 1 ≤ E ∧ E ≤ 65536 := by omega
  have hwE : IntKind.i64.wrap (a2 % 65536 + 1) = E := by rw [hE]; exact IntWalk.i64_in _ (by omega)
  have hwE2 : IntKind.i64.wrap E = E := IntWalk.i64_in _ (by omega)
  obtain ⟨f1, hf1⟩ : ∃ f1 : Nat → Int, f1 = fun _ => a1 := ⟨_, rfl⟩
  obtain ⟨f2, hf2⟩ : ∃ f2 : Nat → Int, f2 = fun i => C + ((i * 7 : Nat) : Int) % 16 := ⟨_, rfl⟩
  obtain ⟨f3, hf3⟩ : ∃ f3 : Nat → Int, f3 = fun i => ((i * i : Nat) : Int) % 4 * E * 1099511627776 := ⟨_, rfl⟩
  have HF1 := Lib.hid hf1
  have HF2 := Lib.hid hf2
  have HF3 := Lib.hid hf3
  obtain ⟨ei, he1, he2, he3, he4⟩ := info_i64_parts
  obtain ⟨W1, hmk1, hown1, hg1⟩ := run_make_full (P := Try.prog) w w.heap.size 54 2 ei (.int .i64 0) 1 Try.underlying54 he1 he2 he3 .i64 .i64 N (by rw [he4]; omega) (by unfold maxLen; omega) (Nat.le_refl _)
  obtain ⟨G1, hG1⟩ : ∃ G, G = w.heap.size := ⟨_, rfl⟩
  rw [← hG1] at hmk1 hown1
  have hlt1 : G1 < W1.heap.size := own_lt hown1 G1 rfl
  have ho1 : W1.ownsRow w.heap.size 2 1 (.slice (some ⟨G1, 0, none⟩) N N) N ((fillT f1 (List.range N) 0 N 0).map (Value.int .i64)) := by
    rw [show (Value.int .i64 0).cells = #[Value.int .i64 0] from rfl, Nat.mul_one, toList_madeCells_one] at hown1
    rw [fillT_zero, List.map_replicate]
    exact own_mono hown1 (by omega)
  have hbl1 : Below w.heap.size w W1 := ⟨hg1.os, hg1.tape, hg1.output, hg1.size, fun i hi => hg1.block i hi (by simp)⟩
  have hbw1 : Below w.heap.size w W1 := hbl1
  obtain ⟨W2, hmk2, hown2, hg2⟩ := run_make_full (P := Try.prog) W1 w.heap.size 54 2 ei (.int .i64 0) 1 Try.underlying54 he1 he2 he3 .i64 .i64 N (by rw [he4]; omega) (by unfold maxLen; omega) hbw1.size
  obtain ⟨G2, hG2⟩ : ∃ G, G = W1.heap.size := ⟨_, rfl⟩
  rw [← hG2] at hmk2 hown2
  have hlt2 : G2 < W2.heap.size := own_lt hown2 G2 rfl
  have ho2 : W2.ownsRow w.heap.size 2 1 (.slice (some ⟨G2, 0, none⟩) N N) N ((fillT f2 (List.range N) 0 N 0).map (Value.int .i64)) := by
    rw [show (Value.int .i64 0).cells = #[Value.int .i64 0] from rfl, Nat.mul_one, toList_madeCells_one] at hown2
    rw [fillT_zero, List.map_replicate]
    exact own_mono hown2 (by omega)
  have hbl2 : Below W1.heap.size W1 W2 := ⟨hg2.os, hg2.tape, hg2.output, hg2.size, fun i hi => hg2.block i hi (by simp)⟩
  have hbw2 : Below w.heap.size w W2 := hbw1.trans (hbl2.mono hbw1.size)
  obtain ⟨W3, hmk3, hown3, hg3⟩ := run_make_full (P := Try.prog) W2 w.heap.size 54 2 ei (.int .i64 0) 1 Try.underlying54 he1 he2 he3 .i64 .i64 N (by rw [he4]; omega) (by unfold maxLen; omega) hbw2.size
  obtain ⟨G3, hG3⟩ : ∃ G, G = W2.heap.size := ⟨_, rfl⟩
  rw [← hG3] at hmk3 hown3
  have hlt3 : G3 < W3.heap.size := own_lt hown3 G3 rfl
  have ho3 : W3.ownsRow w.heap.size 2 1 (.slice (some ⟨G3, 0, none⟩) N N) N ((fillT f3 (List.range N) 0 N 0).map (Value.int .i64)) := by
    rw [show (Value.int .i64 0).cells = #[Value.int .i64 0] from rfl, Nat.mul_one, toList_madeCells_one] at hown3
    rw [fillT_zero, List.map_replicate]
    exact own_mono hown3 (by omega)
  have hbl3 : Below W2.heap.size W2 W3 := ⟨hg3.os, hg3.tape, hg3.output, hg3.size, fun i hi => hg3.block i hi (by simp)⟩
  have hbw3 : Below w.heap.size w W3 := hbw2.trans (hbl3.mono hbw2.size)
  have hle12 : W1.heap.size ≤ W2.heap.size := hbl2.size
  have hle23 : W2.heap.size ≤ W3.heap.size := hbl3.size
  have h12 : G1 < G2 := by omega
  have h23 : G2 < G3 := by omega
  have HO1 := Lib.hid (show W3.ownsRow w.heap.size 2 1 (.slice (some ⟨G1, 0, none⟩) N N) N ((fillT f1 (List.range N) 0 N 0).map (Value.int .i64)) from own_kept (own_kept ho1 hbl2) hbl3)
  have HO2 := Lib.hid (show W3.ownsRow w.heap.size 2 1 (.slice (some ⟨G2, 0, none⟩) N N) N ((fillT f2 (List.range N) 0 N 0).map (Value.int .i64)) from own_kept ho2 hbl3)
  have HO3 := Lib.hid ho3
  have HB3 := Lib.hid hbw3
  have hgb1 : w.heap.size ≤ G1 := by omega
  clear w0 w1 w2 hN hf1 hf2 hf3 he1 he2 he3 he4 hown1 hown2 hown3 hg1 hg2 hg3 hlt1 hlt2 hlt3 ho1 ho2 ho3 hbl1 hbl2 hbl3 hbw1 hbw2 hbw3 hle12 hle23 hG1 hG2 hG3
  go_enter Try.func8, Try.ntmps8
  go_upto_region 5 with (fail)
  clear hmk1 hmk2 hmk3 hwN
  go_wp2_with fail
  go_loopw [27] (fun i wr => ∃ q : Nat, q ≤ N ∧ i = .int .i64 (q : Int) ∧ wr.ownsRow w.heap.size 2 1 (.slice (some ⟨G1, 0, none⟩) N N) N ((fillT f1 (List.range N) 0 N q).map (Value.int .i64)) ∧ wr.ownsRow w.heap.size 2 1 (.slice (some ⟨G2, 0, none⟩) N N) N ((fillT f2 (List.range N) 0 N q).map (Value.int .i64)) ∧ wr.ownsRow w.heap.size 2 1 (.slice (some ⟨G3, 0, none⟩) N N) N ((fillT f3 (List.range N) 0 N q).map (Value.int .i64)) ∧ Below w.heap.size w wr) (fun i _ => N - (intOf i).toNat)
  case atStart => exact ⟨0, Nat.zero_le _, rfl, HO1.out, HO2.out, HO3.out, HB3.out⟩
  case round =>
    obtain ⟨q, hq, rfl, ho1, ho2, ho3, hbel⟩ := hrel
    have HB := Lib.hid hbel
    by_cases hlt : q < N
    · have hlti : (q : Int) < (N : Int) := by omega
      have hq0 : (0 : Int) ≤ (q : Int) := by omega
      have hat : (List.range N)[q]? = some q := by rw [List.getElem?_range hlt]
      have hrl : (List.range N).length = N := List.length_range
      have hD1 := fillT_step f1 0 hrl hlt hat
      have hD2 := fillT_step f2 0 hrl hlt hat
      have hD3 := fillT_step f3 0 hrl hlt hat
      obtain ⟨v1, hv1⟩ : ∃ v1, v1 = f1 q := ⟨_, rfl⟩
      obtain ⟨v2, hv2⟩ : ∃ v2, v2 = f2 q := ⟨_, rfl⟩
      obtain ⟨v3, hv3⟩ : ∃ v3, v3 = f3 q := ⟨_, rfl⟩
      rw [← hv1] at hD1
      rw [← hv2] at hD2
      rw [← hv3] at hD3
      have hv1a : v1 = a1 := by rw [hv1, HF1.out]
      subst hv1a
      have hv2a : v2 = C + ((q * 7 : Nat) : Int) % 16 := by rw [hv2, HF2.out]
      have hv3a : v3 = ((q * q : Nat) : Int) % 4 * E * 1099511627776 := by rw [hv3, HF3.out]
      have hsq := sq_mod4 q
      obtain ⟨J, hJ⟩ : ∃ J : Int, J = ((q * 7 : Nat) : Int) := ⟨_, rfl⟩
      obtain ⟨Q, hQ⟩ : ∃ Q : Int, Q = ((q * q : Nat) : Int) := ⟨_, rfl⟩
      rw [← hJ] at hv2a
      rw [← hQ] at hv3a
      have hq7 : IntKind.i64.wrap ((q : Int) * 7) = J := by rw [IntWalk.i64_in _ (by omega), hJ]; omega
      have hqb : q * q ≤ 71 * 71 := Nat.mul_le_mul (by omega) (by omega)
      have hqq : IntKind.i64.wrap ((q : Int) * (q : Int)) = Q := by
        have e : (q : Int) * (q : Int) = ((q * q : Nat) : Int) := by simp
        rw [e, hQ, IntWalk.i64_in _ (by omega)]
      have hw2 : IntKind.i64.wrap (C + J % 16) = v2 := by rw [hv2a]; exact IntWalk.i64_in _ (by omega)
      obtain ⟨M, hM⟩ : ∃ M : Int, Q % 4 * E = M := ⟨_, rfl⟩
      have hM0 : 0 ≤ M ∧ M ≤ 65536 := by
        rcases hsq with h | h
        · have e : Q % 4 = 0 := by omega
          rw [e] at hM; omega
        · have e : Q % 4 = 1 := by omega
          rw [e] at hM; omega
      have hwM : IntKind.i64.wrap (Q % 4 * E) = M := by rw [hM]; exact IntWalk.i64_in _ (by omega)
      rw [hM] at hv3a
      have hw3 : IntKind.i64.wrap (M * 1099511627776) = v3 := by rw [hv3a]; exact IntWalk.i64_in _ (by omega)
      have hst1 := ho1.stored q (.int .i64 v1)
      have g1 : ∃ u, wr.cell? ⟨G1, q, none⟩ = some u := by
        rw [ho1.cellAt q (by omega)]
        exact ⟨_, List.getElem?_eq_getElem (by rw [List.length_map, fillT_len _ _ hrl hq]; exact hlt)⟩
      have z1 := ho1.frozenAt q
      have ho2b : (wr.setCell ⟨G1, q, none⟩ (.int .i64 v1)).ownsRow w.heap.size 2 1 (.slice (some ⟨G2, 0, none⟩) N N) N ((fillT f2 (List.range N) 0 N q).map (Value.int .i64)) := ho2.kept hst1.2 (.inr (by simp [Value.ownBlock]; omega))
      have ho3b : (wr.setCell ⟨G1, q, none⟩ (.int .i64 v1)).ownsRow w.heap.size 2 1 (.slice (some ⟨G3, 0, none⟩) N N) N ((fillT f3 (List.range N) 0 N q).map (Value.int .i64)) := ho3.kept hst1.2 (.inr (by simp [Value.ownBlock]; omega))
      have hst2 := ho2b.stored q (.int .i64 v2)
      have g2 : ∃ u, (wr.setCell ⟨G1, q, none⟩ (.int .i64 v1)).cell? ⟨G2, q, none⟩ = some u := by
        rw [ho2b.cellAt q (by omega)]
        exact ⟨_, List.getElem?_eq_getElem (by rw [List.length_map, fillT_len _ _ hrl hq]; exact hlt)⟩
      have z2 := ho2b.frozenAt q
      have ho3c : ((wr.setCell ⟨G1, q, none⟩ (.int .i64 v1)).setCell ⟨G2, q, none⟩ (.int .i64 v2)).ownsRow w.heap.size 2 1 (.slice (some ⟨G3, 0, none⟩) N N) N ((fillT f3 (List.range N) 0 N q).map (Value.int .i64)) := ho3b.kept hst2.2 (.inr (by simp [Value.ownBlock]; omega))
      have hst3 := ho3c.stored q (.int .i64 v3)
      have g3 : ∃ u, ((wr.setCell ⟨G1, q, none⟩ (.int .i64 v1)).setCell ⟨G2, q, none⟩ (.int .i64 v2)).cell? ⟨G3, q, none⟩ = some u := by
        rw [ho3c.cellAt q (by omega)]
        exact ⟨_, List.getElem?_eq_getElem (by rw [List.length_map, fillT_len _ _ hrl hq]; exact hlt)⟩
      have z3 := ho3c.frozenAt q
      obtain ⟨u1, g1⟩ := g1
      obtain ⟨u2, g2⟩ := g2
      obtain ⟨u3, g3⟩ := g3
      have R1 := Lib.hid (own_kept2 (own_kept2 hst1.1 hst2.2 (by simp [Value.ownBlock]; omega)) hst3.2 (by simp [Value.ownBlock]; omega))
      have R2 := Lib.hid (own_kept2 hst2.1 hst3.2 (by simp [Value.ownBlock]; omega))
      have R3 := Lib.hid hst3.1
      have RB := Lib.hid (show Below w.heap.size w (((wr.setCell ⟨G1, q, none⟩ (.int .i64 v1)).setCell ⟨G2, q, none⟩ (.int .i64 v2)).setCell ⟨G3, q, none⟩ (.int .i64 v3)) from ((hbel.setCell (p := ⟨G1, q, none⟩) (by show _ ≤ G1; omega) _).setCell (p := ⟨G2, q, none⟩) (by show _ ≤ G2; omega) _).setCell (p := ⟨G3, q, none⟩) (by show _ ≤ G3; omega) _)
      have HD1 := Lib.hid hD1
      have HD2 := Lib.hid hD2
      have HD3 := Lib.hid hD3
      clear hD1 hD2 hD3 hst1 hst2 hst3 ho1 ho2 ho3 ho2b ho3b ho3c hbel hat hrl hv1 hv2 hv3 hv2a hv3a hM hsq hqb hJ hQ
      go_wp2_with fail
      go_roundw
      case rel =>
        refine ⟨q + 1, by omega, by go_num, ?_, ?_, ?_, RB.out⟩
        · rw [HD1.out, List.map_set]; exact R1.out
        · rw [HD2.out, List.map_set]; exact R2.out
        · rw [HD3.out, List.map_set]; exact R3.out
      case measure => simp [intOf]; omega
    · obtain rfl : N = q := by omega
      have hlti : ¬ (N : Int) < (N : Int) := by omega
      have hrl : (List.range N).length = N := List.length_range
      rw [fillT_all f1 0 hrl] at ho1
      obtain ⟨L1, hL1⟩ : ∃ L, L = (List.range N).map f1 := ⟨_, rfl⟩
      rw [← hL1] at ho1
      have hl1 : L1.length = N := by rw [hL1, List.length_map, hrl]
      have HR1 := Lib.hid (Rd.of_owns ho1)
      rw [fillT_all f2 0 hrl] at ho2
      obtain ⟨L2, hL2⟩ : ∃ L, L = (List.range N).map f2 := ⟨_, rfl⟩
      rw [← hL2] at ho2
      have hl2 : L2.length = N := by rw [hL2, List.length_map, hrl]
      have HR2 := Lib.hid (Rd.of_owns ho2)
      rw [fillT_all f3 0 hrl] at ho3
      obtain ⟨L3, hL3⟩ : ∃ L, L = (List.range N).map f3 := ⟨_, rfl⟩
      rw [← hL3] at ho3
      have hl3 : L3.length = N := by rw [hL3, List.length_map, hrl]
      have HR3 := Lib.hid (Rd.of_owns ho3)
      have hm1 : L1 = List.replicate N a1 := by rw [hL1, HF1.out, List.map_const', hrl]
      have c1 : ∀ x ∈ L1, I64 x := fun x hx => by rw [hm1] at hx; rw [List.eq_of_mem_replicate hx]; exact HI1.out
      have c2 : ∀ x ∈ L2, C ≤ x ∧ x ≤ C + 15 := fun x hx => by
        rw [hL2, HF2.out] at hx
        obtain ⟨i, _, rfl⟩ := List.mem_map.1 hx
        omega
      have c3 : ∀ x ∈ L3, x = 0 ∨ x = E * 1099511627776 := fun x hx => by
        rw [hL3, HF3.out] at hx
        obtain ⟨i, _, rfl⟩ := List.mem_map.1 hx
        rcases sq_mod4 i with h | h
        · have e : ((i * i : Nat) : Int) % 4 = 0 := by omega
          rw [e]; left; omega
        · have e : ((i * i : Nat) : Int) % 4 = 1 := by omega
          rw [e]; right; omega
      have d2 : ∀ x ∈ L2, I64 x := fun x hx => by have := c2 x hx; unfold I64; omega
      have d3 : ∀ x ∈ L3, I64 x := fun x hx => by have := c3 x hx; unfold I64; omega
      have HN1 := Lib.hid (show (bestN L1 4).length ≤ 12 from by rw [hm1]; exact best_same N a1 (by omega) (by omega))
      have HN2 := Lib.hid (best_close L2 N C hl2 (by omega) c2)
      have HN3 := Lib.hid (best_few L3 N (E * 1099511627776) hl3 c3)
      obtain ⟨hdec, hlt256, hlen⟩ := best_dec L2 d2 (by omega)
      rw [hl2] at hdec
      have HDC := Lib.hid hdec
      have HL256 := Lib.hid hlt256
      have HLEN := Lib.hid hlen
      have HL2L := Lib.hid hl2
      have HE1 := Lib.hid (encode_i L1 (.slice (some ⟨G1, 0, none⟩) N N) wr c1 (by omega) HR1.out)
      have HE2 := Lib.hid fun w' (h : Below wr.heap.size wr w') => encode_i L2 (.slice (some ⟨G2, 0, none⟩) N N) w' d2 (by omega) (HR2.out.kept h)
      have HE3 := Lib.hid fun w' (h : Below wr.heap.size wr w') => encode_i L3 (.slice (some ⟨G3, 0, none⟩) N N) w' d3 (by omega) (HR3.out.kept h)
      obtain ⟨B1, hB1⟩ : ∃ B, B = bestN L1 4 := ⟨_, rfl⟩
      obtain ⟨B2, hB2⟩ : ∃ B, B = bestN L2 4 := ⟨_, rfl⟩
      obtain ⟨B3, hB3⟩ : ∃ B, B = bestN L3 4 := ⟨_, rfl⟩
      rw [← hB1] at HE1 HN1
      rw [← hB2] at HE2 HN2 HDC HL256 HLEN
      rw [← hB3] at HE3 HN3
      clear hdec hlt256 hlen hL1 hL2 hL3 hm1 c1 c2 c3 d2 d3 ho1 ho2 ho3 hl1 hl2 hl3 hrl hbel hB1 hB2 hB3 b63 b15 b3 b65535 b40 hlt
      go_wp2_with fail
      refine HE1.out.mono ?_
      rintro e x1 ⟨v1, rfl, hown1, hb1⟩
      obtain ⟨ao1, k1, rfl⟩ := hown1.shape
      have HX1 := Lib.hid hb1
      clear hown1 hb1
      go_wp2_with fail
      refine (HE2.out x1 HX1.out).mono ?_
      rintro e x2 ⟨v2, rfl, hown2, hb2⟩
      obtain ⟨ao2, k2, rfl⟩ := hown2.shape
      have HX2 := Lib.hid (below_then HX1.out hb2)
      have HRB := Lib.hid (OwnB.rd hown2)
      clear hown2 hb2
      go_wp2_with fail
      refine (HE3.out x2 HX2.out).mono ?_
      rintro e x3 ⟨v3, rfl, hown3, hb3⟩
      obtain ⟨ao3, k3, rfl⟩ := hown3.shape
      have HX3 := Lib.hid (below_then HX2.out hb3)
      have hDE := decode_i B2 (.slice ao2 B2.length k2) (N : Int) x3 (HRB.out.kept hb3) HL256.out (by have := HLEN.out; omega)
      rw [HDC.out] at hDE
      have HDE := Lib.hid hDE
      obtain ⟨n1, hn1⟩ : ∃ n, n = B1.length := ⟨_, rfl⟩
      obtain ⟨n2, hn2⟩ : ∃ n, n = B2.length := ⟨_, rfl⟩
      obtain ⟨n3, hn3⟩ : ∃ n, n = B3.length := ⟨_, rfl⟩
      have hn1b := HN1.out
      have hn2b := HN2.out
      have hn3b := HN3.out
      rw [← hn1] at hn1b ⊢
      rw [← hn2] at hn2b HDE ⊢
      rw [← hn3] at hn3b ⊢
      clear hn1 hn2 hn3 hown3 hb3 hDE HE1 HE2 HE3 HN1 HN2 HN3 HRB
      go_wp2_with fail
      refine HDE.out.mono ?_
      rintro e x4 ⟨⟨v4, rfl, hown4⟩, hb4⟩
      have HX4 := Lib.hid (below_then HX3.out hb4)
      obtain ⟨ao4, k4, rfl⟩ := hown4.shape
      rw [HL2L.out] at hown4 ⊢
      obtain ⟨b4, o4, rfl, hc4⟩ := (rd_i64_cells (show Rd x4 (.slice ao4 N k4) (L2.map (.int .i64)) from by have h := Rd.of_owns hown4; exact h)).2 (by omega)
      have hy4 := hc4 1 (by omega)
      obtain ⟨b5, o5, he5, hc5⟩ := (rd_i64_cells (HR2.out.kept HX4.out)).2 (by omega)
      have hy5 := hc5 1 (by omega)
      simp only [Option.some.injEq, Addr.mk.injEq] at he5
      obtain ⟨rfl, rfl, _⟩ := he5
      rw [Nat.zero_add] at hy5
      obtain ⟨y, hy⟩ : ∃ y, y = L2.getD 1 0 := ⟨_, rfl⟩
      rw [← hy] at hy4 hy5
      have HAW := Lib.hid (awake4_any)
      have hN1i : (1 : Int) < (N : Int) := by omega
      have q1 : (n1 : Int) ≤ 12 := by omega
      obtain ⟨K2, hK2⟩ : ∃ K : Int, K = (N : Int) / 2 := ⟨_, rfl⟩
      have ka2 : Int.tdiv (N : Int) 2 = K2 := by rw [Int.tdiv_eq_ediv_of_nonneg (by omega), hK2]
      have kb2 : (N : Int) / 2 = K2 := hK2.symm
      have kc2 : IntKind.i64.wrap K2 = K2 := IntWalk.i64_in _ (by omega)
      obtain ⟨J2, hJ2⟩ : ∃ J : Int, J = 12 + K2 := ⟨_, rfl⟩
      have kd2 : IntKind.i64.wrap (12 + K2) = J2 := by rw [IntWalk.i64_in _ (by omega), hJ2]
      have ke2 : 12 + K2 = J2 := hJ2.symm
      obtain ⟨I2, hI2⟩ : ∃ I : Int, I = J2 + 1 := ⟨_, rfl⟩
      have kf2 : IntKind.i64.wrap (J2 + 1) = I2 := by rw [IntWalk.i64_in _ (by omega), hI2]
      have kg2 : J2 + 1 = I2 := hI2.symm
      have kh2 : (n2 : Int) ≤ I2 := by omega
      have ki2 : IntKind.i64.wrap J2 = J2 := IntWalk.i64_in _ (by omega)
      have kj2 : IntKind.i64.wrap I2 = I2 := IntWalk.i64_in _ (by omega)
      clear hK2 hJ2 hI2
      obtain ⟨K4, hK4⟩ : ∃ K : Int, K = (N : Int) / 4 := ⟨_, rfl⟩
      have ka4 : Int.tdiv (N : Int) 4 = K4 := by rw [Int.tdiv_eq_ediv_of_nonneg (by omega), hK4]
      have kb4 : (N : Int) / 4 = K4 := hK4.symm
      have kc4 : IntKind.i64.wrap K4 = K4 := IntWalk.i64_in _ (by omega)
      obtain ⟨J4, hJ4⟩ : ∃ J : Int, J = 42 + K4 := ⟨_, rfl⟩
      have kd4 : IntKind.i64.wrap (42 + K4) = J4 := by rw [IntWalk.i64_in _ (by omega), hJ4]
      have ke4 : 42 + K4 = J4 := hJ4.symm
      obtain ⟨I4, hI4⟩ : ∃ I : Int, I = J4 + 1 := ⟨_, rfl⟩
      have kf4 : IntKind.i64.wrap (J4 + 1) = I4 := by rw [IntWalk.i64_in _ (by omega), hI4]
      have kg4 : J4 + 1 = I4 := hI4.symm
      have kh4 : (n3 : Int) ≤ I4 := by omega
      have ki4 : IntKind.i64.wrap J4 = J4 := IntWalk.i64_in _ (by omega)
      have kj4 : IntKind.i64.wrap I4 = I4 := IntWalk.i64_in _ (by omega)
      clear hK4 hJ4 hI4
      clear hc4 hc5 hy hown4 hb4 HDE hn1b hn2b hn3b
      go_upto_region 14 with (fail)
      have HKP := Lib.hid fun w' (h : Below x4.heap.size x4 w') => (show w'.cell? ⟨b4, o4 + 1, none⟩ = some (.int .i64 y) ∧ w'.cell? ⟨G2, 1, none⟩ = some (.int .i64 y) ∧ Below x4.heap.size x4 w' from ⟨(h.cell (World.block_lt_of_cell? _ _ hy4)).trans hy4, (h.cell (World.block_lt_of_cell? _ _ hy5)).trans hy5, h⟩)
      have hS := Below.refl x4.heap.size x4
      set_option maxRecDepth 1000000 in
      go_region_held3 (fun w' => w'.cell? ⟨b4, o4 + 1, none⟩ = some (.int .i64 y) ∧ w'.cell? ⟨G2, 1, none⟩ = some (.int .i64 y) ∧ Below x4.heap.size x4 w') (first | assumption | exact HKP.out _ (by first | assumption | exact Below.trans (by assumption) (below_drw _ _)))
        (first
          | (go_at_call 30; refine (HAW.out _).mono ?_; rintro e x5 ⟨rfl, hb5⟩; have hS5 : Below x4.heap.size x4 x5 := below_then (by first | assumption | exact Below.trans (by assumption) (below_drw _ _)) hb5))
      all_goals
        go_wp2_with fail
        go_ret
        exact ⟨rfl, HB.out.trans ((HX4.out.trans (hS5.mono HX4.out.size)).mono HB.out.size)⟩

end Go.Proofs.Yteloepccjoikdaa
