/-
  Contracts: slices.Grow of nil, slices.Concat, at predicates; norm.otherOp.
-/
import Derived.Test.YtfmkalnnpddefaaAppk
import Derived.Test.YtfmkalnnpddefaaNormm
import Derived.Lib.AppendZeros
namespace Go.Proofs.Ytfmkalnnpddefaa
set_option linter.unusedVariables false
set_option linter.unusedSimpArgs false
open Go.RowKit

set_option maxRecDepth 100000 in
theorem otherOp_any (o : Int) (w : World) :
    Calls Try.prog 103 #[.int .i64 o] w fun e w' => e = .returned (.int .i64 (opN o)) ∧ w = w' := by
  rcases (by omega : o = 1 ∨ o = 2 ∨ o = 3 ∨ o = 4 ∨ o = 5 ∨ o = 6 ∨ (o ≠ 1 ∧ o ≠ 2 ∧ o ≠ 3 ∧ o ≠ 4 ∧ o ≠ 5 ∧ o ≠ 6)) with rfl | rfl | rfl | rfl | rfl | rfl | ⟨h1, h2, h3, h4, h5, h6⟩
  all_goals try (
    go_enter Try.func103, Try.ntmps103
    go_wp2_with fail
    go_ret
    exact ⟨rfl, rfl⟩)
  have HA := Lib.hid (show opN o = o by unfold opN; simp [h1, h2, h3, h4, h5, h6])
  replace h1 : (o == 1) = false := by rw [beq_eq_false_iff_ne]; exact h1
  replace h2 : (o == 2) = false := by rw [beq_eq_false_iff_ne]; exact h2
  replace h3 : (o == 3) = false := by rw [beq_eq_false_iff_ne]; exact h3
  replace h4 : (o == 4) = false := by rw [beq_eq_false_iff_ne]; exact h4
  replace h5 : (o == 5) = false := by rw [beq_eq_false_iff_ne]; exact h5
  replace h6 : (o == 6) = false := by rw [beq_eq_false_iff_ne]; exact h6
  go_enter Try.func103, Try.ntmps103
  go_wp2_with fail
  go_ret
  exact ⟨by rw [HA.out] <;> rfl, rfl⟩

theorem zeroCells_size (z : Array Value) (n : Nat) : (Builtin.zeroCells z n).size = n * z.size := by
  unfold Builtin.zeroCells
  simp

/-- The call hands back an empty row of its own. -/
def RetNone (B : Nat) (E : TypeId) (sz : Nat) (w : World) (e : Ending) (w' : World) : Prop :=
  ∃ ao cap, e = .returned (.slice ao 0 cap) ∧ w'.ownsRow B E sz (.slice ao 0 cap) 0 [] ∧ Below w.heap.size w w'

set_option maxRecDepth 100000 in
set_option maxHeartbeats 2000000 in
theorem growNil_any (n : Nat) (hn : n ≤ 1000000) (w : World) :
    Calls Try.prog 217 #[.slice none 0 0, .int .i64 (n : Int)] w (RetNone w.heap.size 31 8 w) := by
  by_cases h0 : n = 0
  · subst h0
    have HF := Lib.hid (show RetNone w.heap.size 31 8 w (.returned (.slice none 0 0)) w from ⟨none, 0, rfl, World.ownsRow_nil .., Below.refl _ _⟩)
    go_enter Try.func217, Try.ntmps217
    go_wp2_with fail
    go_ret
    exact HF.out
  · have hpos : 0 < n := by omega
    have hposi : (0 : Int) < (n : Int) := by omega
    obtain ⟨i, z, hi, hz, hsize, hby, hzs⟩ := elmPred.info
    have hrz : ∀ ty, (Builtin.append_ #[29, 3] ty #[.slice none 0 0, .int .i64 (n : Int)]).run Try.prog w = _ := fun ty =>
      Lib.run_append_nil_zeros w 29 3 ty 31 i z .i64 .i64 elmPred.under Try.underlying3 hi hz n hpos (by rw [hsize]; decide) (by omega) (by rw [hby]; omega)
    have hge := grownCap_ge w n 0 31
    have hle := grownCap_le_maxLen w n 0 31 (by unfold maxLen; omega)
    obtain ⟨G, hG⟩ : ∃ G, G = grownCap w n 0 31 := ⟨_, rfl⟩
    rw [← hG] at hrz hge hle
    obtain ⟨cs, hcs⟩ : ∃ cs, cs = Builtin.zeroCells z.cells n ++ Builtin.zeroCells z.cells (G - n) := ⟨_, rfl⟩
    rw [← hcs] at hrz
    have HF := Lib.hid (show RetNone w.heap.size 31 8 w (.returned (.slice (some ⟨w.heap.size, 0, none⟩) 0 G)) (w.drew.alloc (.cells cs 31)) from by
      refine ⟨_, _, rfl, ?_, (below_drw w.heap.size w).alloc (Nat.le_refl _) _⟩
      exact World.ownsRow_made w.drew _ G (Nat.le_refl _) hle (by rw [hcs, Array.size_append, zeroCells_size, zeroCells_size, hzs, ← Nat.add_mul]; congr 1; omega))
    have hle2 : G ≤ 9223372036854775807 := by unfold maxLen at hle; omega
    have HZ := fun ty => Lib.hid (hrz ty)
    clear hrz hG hcs hzs hby hsize hz hi hle
    go_enter Try.func217, Try.ntmps217
    go_wp2_with (at_builtin; refine Lib.wpList_append_run _ rfl _ _ _ _ rfl _ _ rfl rfl _ _ (HZ _).out ?_)
    go_ret
    exact HF.out

/-- The call hands back a row of its own that holds these things. -/
def RetOwnK (B : Nat) (E : TypeId) (sz : Nat) (ls : List (List Value)) (w : World) (e : Ending) (w' : World) : Prop :=
  ∃ ao cap, e = .returned (.slice ao ls.length cap) ∧ w'.ownsRow B E sz (.slice ao ls.length cap) ls.length ls.flatten ∧ Below w.heap.size w w'
theorem flat_take {α : Type} {cs : List (List α)} {k : Nat} {c : List α} (h : cs[k]? = some c) : (cs.take (k + 1)).flatten = (cs.take k).flatten ++ c := by
  rw [List.take_add_one, h, List.flatten_append]
  simp
theorem flat_take_le {α : Type} (cs : List (List α)) (k : Nat) : (cs.take k).flatten.length ≤ cs.flatten.length := by
  have h := congrArg List.length (congrArg List.flatten (List.take_append_drop k cs))
  rw [List.flatten_append, List.length_append] at h
  omega

set_option maxRecDepth 100000 in
set_option maxHeartbeats 4000000 in
theorem concat_any (v : Value) (sls : List Value) (cs : List (List (List Value))) (w : World) (hlen : sls.length = cs.length) (h5 : cs.length ≤ 1000) (hv : Rd w v sls)
    (hs : ∀ (k : Nat) (s : Value) (c : List (List Value)), sls[k]? = some s → cs[k]? = some c → RdS w 8 s c ∧ Ones 8 c) (hn : cs.flatten.length ≤ 1000000) :
    Calls Try.prog 199 #[v] w (RetOwnK w.heap.size 31 8 cs.flatten w) := by
  obtain ⟨ao, cap, rfl, hcap, hcell⟩ := hv
  obtain ⟨n, hN⟩ : ∃ n, n = sls.length := ⟨_, rfl⟩
  rw [← hN] at hcell hcap ⊢
  have HN := Lib.hid (show n = cs.length by rw [hN, hlen])
  have hn5 : n ≤ 1000 := by rw [HN.out]; exact h5
  have HNS := Lib.hid hN
  have HC := Lib.hid hcell
  have HS := Lib.hid hs
  have HL := Lib.hid hn
  have HT := Lib.hid fun k => flat_take_le cs k
  clear hlen h5 hs hn hN hcell hcap
  have HAT : Hid (∀ q, q < n → ∃ b off a c m, ao = some ⟨b, off, none⟩ ∧ cs[q]? = some c ∧ w.cell? ⟨b, off + q, none⟩ = some (.slice a c.length m) ∧ RdS w 8 (.slice a c.length m) c ∧ Ones 8 c ∧ (cs.take (q + 1)).flatten = (cs.take q).flatten ++ c) := Lib.hid fun q hq => by
    obtain ⟨b, off, rfl, hc⟩ := HC.out (by omega)
    have h1 : q < cs.length := by rw [← HN.out]; exact hq
    have h2 : q < sls.length := by rw [← HNS.out]; exact hq
    obtain ⟨h3, h4⟩ := HS.out q _ _ (List.getElem?_eq_getElem h2) (List.getElem?_eq_getElem h1)
    obtain ⟨a, m, h5⟩ := rdS_shape h3
    refine ⟨b, off, a, cs[q], m, rfl, List.getElem?_eq_getElem h1, ?_, ?_, h4, flat_take (List.getElem?_eq_getElem h1)⟩
    · rw [← h5, hc q hq, List.getD_eq_getElem?_getD, List.getElem?_eq_getElem h2]; rfl
    · rw [← h5]; exact h3
  clear HS HC
  go_enter Try.func199, Try.ntmps199
  go_wp2_with fail
  go_loop [3, 11] (fun s i => ∃ q : Nat, q ≤ n ∧ i = .int .i64 (q : Int) ∧ s = .int .i64 ((cs.take q).flatten.length : Int)) (fun _ i => n - (intOf i).toNat)
  case atStart => exact ⟨0, Nat.zero_le _, rfl, by simp⟩
  case round =>
    obtain ⟨q, hq, rfl, rfl⟩ := hrel
    obtain ⟨S, hS⟩ : ∃ S, S = (cs.take q).flatten.length := ⟨_, rfl⟩
    rw [← hS]
    have HS := Lib.hid hS
    have hSb : S ≤ 1000000 := by have h1 := HT.out q; have h2 := HL.out; omega
    clear hS
    by_cases hlt : q < n
    · obtain ⟨b, off, a, c, m, rfl, h1, h2, h3, h4, h5⟩ := HAT.out q hlt
      obtain ⟨L, hL⟩ : ∃ L, L = c.length := ⟨_, rfl⟩
      rw [← hL] at h2
      have HN2 := Lib.hid (show S + L = (cs.take (q + 1)).flatten.length by rw [h5, List.length_append, hL, HS.out])
      have hb : S + L ≤ 1000000 := by rw [HN2.out]; have h1 := HT.out (q + 1); have h2 := HL.out; omega
      clear h1 h3 h4 h5 hL
      have hneg : decide ((S : Int) + (L : Int) < 0) = false := by rw [decide_eq_false_iff_not]; omega
      go_wp2_with fail
      go_round
      case rel => exact ⟨q + 1, by omega, by go_num, by rw [← HN2.out]; go_num⟩
      case measure => simp [intOf]; omega
    · have hqn : q = n := by omega
      have HSS := Lib.hid (show S = cs.flatten.length by rw [HS.out, hqn, List.take_of_length_le (by rw [HN.out]; exact Nat.le_refl _)])
      clear hqn
      go_wp2_with (go_at_call 217; refine (growNil_any S hSb w).mono ?_; rintro e w1 ⟨ga, gc, rfl, hown, hbel⟩; have HO := Lib.hid hown; have HB := Lib.hid hbel; clear hown hbel)
      go_loopw [6, 27] (fun s i wr => ∃ q2 : Nat, ∃ ga2 gc2, q2 ≤ n ∧ i = .int .i64 (q2 : Int) ∧ s = .slice ga2 (cs.take q2).flatten.length gc2 ∧ wr.ownsRow w.heap.size 31 8 (.slice ga2 (cs.take q2).flatten.length gc2) (cs.take q2).flatten.length (cs.take q2).flatten.flatten ∧ Below w.heap.size w wr) (fun _ i _ => n - (intOf i).toNat)
      case atStart => exact ⟨0, ga, gc, Nat.zero_le _, rfl, by simp, by simpa using HO.out, HB.out⟩
      case round =>
        obtain ⟨q2, ga2, gc2, hq2, rfl, rfl, hown2, hbel2⟩ := hrel
        obtain ⟨M, hM⟩ : ∃ M, M = (cs.take q2).flatten.length := ⟨_, rfl⟩
        rw [← hM] at hown2 ⊢
        have HM := Lib.hid hM
        have HO2 := Lib.hid hown2
        have HB2 := Lib.hid hbel2
        have hMb : M ≤ 1000000 := by rw [hM]; have h1 := HT.out q2; have h2 := HL.out; omega
        clear hM hown2 hbel2
        by_cases hlt2 : q2 < n
        · obtain ⟨b, off, a, c, m, rfl, h1, h2, h3, h4, h5⟩ := HAT.out q2 hlt2
          obtain ⟨L, hL⟩ : ∃ L, L = c.length := ⟨_, rfl⟩
          have HLL := Lib.hid hL
          have hk : wr.cell? ⟨b, off + q2, none⟩ = some (.slice a c.length m) := (HB2.out.cell (p := ⟨b, off + q2, none⟩) (World.block_lt_of_cell? w _ h2)).trans h2
          have H3 := Lib.hid (h3.kept HB2.out)
          rw [← hL] at hk H3
          have H4 := Lib.hid h4
          have H5 := Lib.hid h5
          have hML : M + L ≤ 1000000 := by rw [HM.out, hL, ← List.length_append, ← h5]; have h1 := HT.out (q2 + 1); have h2 := HL.out; omega
          clear h1 h2 h3 h4 h5 hL
          go_wp2_with (at_builtin; go_must (refine wpList_append_k elmPred rfl _ _ rfl w.heap.size _ _ _ rfl HO2.out _ c rfl H3.out H4.out (by rw [← HLL.out]; omega) HB2.out.size (M + L) (by rw [HLL.out]) ?_); intro ao2 cap2 w3 hown3 hgrow3 _; have HO3 := Lib.hid hown3; have HB3 := Lib.hid (HB2.out.grown hgrow3 HB2.out.size (own_base HO2.out)); clear hown3 hgrow3)
          go_roundw
          case rel =>
            have e : (cs.take (q2 + 1)).flatten.length = M + L := by rw [H5.out, List.length_append, HM.out, HLL.out]
            refine ⟨q2 + 1, ao2, cap2, by omega, by go_num, by rw [e], ?_, HB3.out⟩
            rw [e, H5.out, List.flatten_append]
            exact HO3.out
          case measure => simp [intOf]; omega
        · have hqn : q2 = n := by omega
          have htk : cs.take q2 = cs := List.take_of_length_le (by rw [← HN.out, hqn]; exact Nat.le_refl _)
          have HF := Lib.hid (show RetOwnK w.heap.size 31 8 cs.flatten w (.returned (.slice ga2 M gc2)) wr from by
            have h1 := HM.out
            have h2 := HO2.out
            rw [htk] at h1 h2
            subst h1
            exact ⟨_, _, rfl, h2, HB2.out⟩)
          clear hqn htk
          go_wp2_with fail
          go_ret
          exact HF.out

end Go.Proofs.Ytfmkalnnpddefaa
