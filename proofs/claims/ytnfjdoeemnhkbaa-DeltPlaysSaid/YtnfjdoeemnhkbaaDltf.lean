/-
  Contract: slices.Insert of one version where there is room and it is not the end.
-/
import Derived.Test.YtnfjdoeemnhkbaaDlte
import Derived.Laws.Externs
namespace Go.Proofs.Ytnfjdoeemnhkbaa
set_option linter.unusedVariables false
set_option linter.unusedSimpArgs false
open Go.RowKit

theorem splice2 (cur xs cs : List Value) (i n cap : Nat) (hcs : cs.length = 6) (hxl : xs.length = n * 6) (hcl : cur.length = cap * 6) (hct : cur.take (n * 6) = xs) (hi : i < n) (hc : n < cap) :
    (splice (splice cur ((i + 1) * 6) (xs.drop (i * 6))) (i * 6) cs).take ((n + 1) * 6) = xs.take (i * 6) ++ cs ++ xs.drop (i * 6) ∧ (splice (splice cur ((i + 1) * 6) (xs.drop (i * 6))) (i * 6) cs).length = cap * 6 := by
  have hdl : (xs.drop (i * 6)).length = n * 6 - i * 6 := by rw [List.length_drop, hxl]
  have h1 : (splice cur ((i + 1) * 6) (xs.drop (i * 6))).length = cur.length := length_splice _ _ _ (by rw [hdl, hcl]; omega)
  have h2 : (splice (splice cur ((i + 1) * 6) (xs.drop (i * 6))) (i * 6) cs).length = cap * 6 := by rw [length_splice _ _ _ (by rw [h1, hcs, hcl]; omega), h1, hcl]
  refine ⟨?_, h2⟩
  apply List.ext_getElem?
  intro j
  rw [List.getElem?_take]
  by_cases hj : j < (n + 1) * 6
  · rw [if_pos hj]
    unfold splice
    by_cases ha : j < i * 6
    · rw [List.getElem?_append_left (by simp only [List.length_take, List.length_append, List.length_drop, hdl, hcl]; omega), List.getElem?_take, if_pos ha, List.getElem?_append_left (by rw [List.length_take, hcl]; omega), List.getElem?_take, if_pos (by omega),
        List.append_assoc, List.getElem?_append_left (by rw [List.length_take, hxl]; omega), List.getElem?_take, if_pos ha, ← hct, List.getElem?_take, if_pos (by omega)]
    · have hl1 : ((cur.take ((i + 1) * 6) ++ (xs.drop (i * 6) ++ cur.drop ((i + 1) * 6 + (xs.drop (i * 6)).length))).take (i * 6)).length = i * 6 := by
        rw [List.length_take]
        have := h1
        unfold splice at this
        rw [this, hcl]
        omega
      have hl2 : (xs.take (i * 6)).length = i * 6 := by rw [List.length_take, hxl]; omega
      rw [List.getElem?_append_right (by rw [hl1]; omega), hl1, List.append_assoc (xs.take (i * 6)), List.getElem?_append_right (l₁ := xs.take (i * 6)) (by rw [hl2]; omega), hl2]
      by_cases hb : j - i * 6 < 6
      · rw [List.getElem?_append_left (by rw [hcs]; exact hb), List.getElem?_append_left (by rw [hcs]; exact hb)]
      · rw [List.getElem?_append_right (by rw [hcs]; omega), List.getElem?_append_right (by rw [hcs]; omega), hcs, List.getElem?_drop, List.getElem?_append_right (by rw [List.length_take, hcl]; omega), List.length_take, hcl,
          List.getElem?_append_left (by rw [hdl]; omega)]
        congr 1
        omega
  · rw [if_neg hj, List.getElem?_eq_none]
    simp only [List.length_append, List.length_take, hdl, hcs, hxl]
    omega

set_option maxRecDepth 100000 in
set_option maxHeartbeats 8000000 in
theorem ins_mid (base g n vc i vb : Nat) (xs cs : List Value) (hi : i < n) (hn : n ≤ 100000) (hroom : n < vc) (w : World) (hown : w.ownsRow base 84 6 (.slice (some ⟨g, 0, none⟩) n vc) n xs) (h1 : ∀ u ∈ xs, u.oneCell' = true)
    (hcs : cs.length = 6) (h1c : ∀ u ∈ cs, u.oneCell' = true) (hvb : w.heap[vb]? = some (.cells cs.toArray 84 (0, 0))) (hne : vb ≠ g) :
    Calls Try.prog 75 #[.slice (some ⟨g, 0, none⟩) n vc, .int .i64 (i : Int), .slice (some ⟨vb, 0, none⟩) 1 1] w fun e w' => e = .returned (.slice (some ⟨g, 0, none⟩) (n + 1) vc) ∧ w'.ownsRow base 84 6 (.slice (some ⟨g, 0, none⟩) (n + 1) vc) (n + 1) (xs.take (i * 6) ++ cs ++ xs.drop (i * 6)) ∧ w.grownBy w' (some g) := by
  have hxl : xs.length = n * 6 := hown.1
  obtain ⟨cur, hcg, hnc, hcm, hcl, hct, hbg⟩ := own_block hown
  have hsz : (Try.prog.info? 84).map (·.size) = some 6 := infoVersion
  have hov : ∀ lb cb, (callFunc 107 #[.slice (some ⟨vb, 0, none⟩) 1 1, .slice (some ⟨g, (i + 1) * 6, none⟩) lb cb]).run Try.prog w = .ok (.value (.bool false)) w := fun lb cb => by
    rw [run_callFunc_extern Try.func107 (by kernel_rfl) (by kernel_rfl) (by kernel_rfl) (e := Extern.SlicesOverlaps.overlaps #[119, 119] #[4]) (by kernel_rfl),
      Lib.run_overlaps_apart w 119 4 84 Try.underlying119 6 Try.sizeOf84 ⟨vb, 0, none⟩ ⟨g, (i + 1) * 6, none⟩ 1 1 lb cb hne 84 84 6 (vc * 6) (by simp [World.shape?, hvb, hcs]) (by simp [World.shape?, hcg, hcl]) (by omega) (frozen_of_row w vb 0 _ _ hvb) (frozen_of_row w vb 6 _ _ hvb)]
    rfl
  have hdl : (xs.drop (i * 6)).length = (n - i) * 6 := by rw [List.length_drop, hxl, Nat.sub_mul]
  obtain ⟨W1, hW1⟩ : ∃ W1 : World, W1 = w.drew.setRow g (splice cur ((i + 1) * 6) (xs.drop (i * 6))).toArray := ⟨_, rfl⟩
  have hcp1 : ∀ ty dl dc sl sc, Nat.min sl dl = n - i → (Builtin.copy_ #[119, 119] ty #[.slice (some ⟨g, (i + 1) * 6, none⟩) dl dc, .slice (some ⟨g, i * 6, none⟩) sl sc]).run Try.prog w.drew = .ok (goInt ((n - i : Nat) : Int)) W1 := fun ty dl dc sl sc hm => by
    rw [hW1, ← hm]
    refine run_copy_rowK w.drew _ _ ty 84 6 g ((i + 1) * 6) dl dc ⟨g, i * 6, none⟩ sl sc cur 84 (xs.drop (i * 6)) Try.underlying119 hsz hcg (by rw [hdl, hm]) (fun j u hj => ?_) (by rw [hdl, hcl]; omega) (fun u hu => h1 u (List.mem_of_mem_drop hu))
    have e : (⟨g, i * 6, none⟩ : Addr).add j = ⟨g, i * 6 + j, none⟩ := by simp [Addr.add]
    rw [List.getElem?_drop] at hj
    have hjl := (List.getElem?_eq_some_iff.1 hj).1
    rw [e]
    show w.cell? _ = _
    rw [hown.cellAt _ (by omega)]
    exact hj
  have hg1 : W1.heap[g]? = some (.cells (splice cur ((i + 1) * 6) (xs.drop (i * 6))).toArray 84 (0, 0)) := by rw [hW1]; exact setRow_heap w.drew g _ _ _ _ hcg
  have hv1 : W1.heap[vb]? = some (.cells cs.toArray 84 (0, 0)) := by rw [hW1]; exact (setRow_other w.drew g vb _ hne).trans hvb
  have hgr1 : w.grownBy W1 (some g) := by rw [hW1]; exact ⟨rfl, rfl, rfl, by simp [World.setRow], fun k _ hk => setRow_other w.drew g k _ (fun e => hk (by simp [e]))⟩
  obtain ⟨W2, hW2⟩ : ∃ W2 : World, W2 = W1.setRow g (splice (splice cur ((i + 1) * 6) (xs.drop (i * 6))) (i * 6) cs).toArray := ⟨_, rfl⟩
  obtain ⟨hs1, hs2⟩ := splice2 cur xs cs i n vc hcs hxl hcl hct hi hroom
  have hcp2 : ∀ ty dl dc, 0 < dl → (Builtin.copy_ #[119, 119] ty #[.slice (some ⟨g, i * 6, none⟩) dl dc, .slice (some ⟨vb, 0, none⟩) 1 1]).run Try.prog W1 = .ok (goInt ((1 : Nat) : Int)) W2 := fun ty dl dc hm => by
    have hmin : Nat.min 1 dl = 1 := by simp only [Nat.min_def]; split <;> omega
    rw [hW2]
    have h := run_copy_rowK (P := Try.prog) W1 119 119 ty 84 6 g (i * 6) dl dc ⟨vb, 0, none⟩ 1 1 _ 84 cs Try.underlying119 hsz hg1 (by rw [hcs, hmin]) (fun j u hj => ?_) (by rw [length_splice _ _ _ (by rw [hdl, hcl]; omega), hcs, hcl]; omega) h1c
    · rw [hmin] at h
      exact h
    · have e : (⟨vb, 0, none⟩ : Addr).add j = ⟨vb, j, none⟩ := by unfold Addr.add; split <;> simp_all
      rw [e, cell_of_row W1 vb j _ _ _ hv1]
      simpa using hj
  have HOUT := Lib.hid (show W2.ownsRow base 84 6 (.slice (some ⟨g, 0, none⟩) (n + 1) vc) (n + 1) (xs.take (i * 6) ++ cs ++ xs.drop (i * 6)) from by
    rw [hW2]
    exact own_of_block (setRow_heap W1 g _ _ _ _ hg1) (by omega) hcm hs2 hs1 hbg)
  have HGR := Lib.hid (show w.grownBy W2 (some g) from by rw [hW2]; exact grown_trans hgr1 (grown_setRow W1 g _))
  have HC1 := Lib.hid hcp1
  have HC2 := Lib.hid hcp2
  clear hcp1 hcp2 hW1 hW2 hg1 hv1 hgr1 hs1 hs2 hown h1 hcg hcl hct hvb h1c hcs hxl hdl hsz
  have hi0 : (0 : Int) ≤ (i : Int) := by omega
  have hi1 : (i : Int) ≤ (n : Int) := by omega
  have hin : ((i : Int) == (n : Int)) = false := by rw [beq_eq_false_iff_ne]; omega
  have hin2 : ¬ ((i : Int) = (n : Int)) := by omega
  have hw1 : IntKind.i64.wrap ((n : Int) + 1) = (n : Int) + 1 := IntWalk.i64_in _ (by omega)
  have hw2 : IntKind.i64.wrap ((i : Int) + 1) = (i : Int) + 1 := IntWalk.i64_in _ (by omega)
  have hb1 : decide ((n : Int) + 1 > (vc : Int)) = false := by rw [decide_eq_false_iff_not]; omega
  have hb2 : ¬ ((vc : Int) < (n : Int) + 1) := by omega
  have hb3 : (0 : Int) ≤ (n : Int) + 1 := by omega
  have hb4 : (n : Int) + 1 ≤ (vc : Int) := by omega
  have hb5 : (0 : Int) ≤ (i : Int) + 1 := by omega
  have hb6 : (i : Int) + 1 ≤ (n : Int) + 1 := by omega
  have hb7 : (i : Int) ≤ (n : Int) + 1 := by omega
  have ht1 : ((n : Int) + 1).toNat = n + 1 := by omega
  have ht2 : ((i : Int) + 1).toNat = i + 1 := by omega
  have hq1 : ¬ (vc = i + 1) := by omega
  have hq2 : ¬ (vc = i) := by omega
  have hq3 : (vc == i + 1) = false := by rw [beq_eq_false_iff_ne]; exact hq1
  have hq4 : (vc == i) = false := by rw [beq_eq_false_iff_ne]; exact hq2
  have hq5 : i ≤ n + 1 := by omega
  have hq6 : i + 1 ≤ n + 1 := by omega
  go_enter Try.func75, Try.ntmps75
  have HMN := Lib.hid (show Nat.min (n + 1 - i) (n - i) = n - i from Nat.min_eq_right (by omega))
  have HPN := Lib.hid (show 0 < n + 1 - i by omega)
  go_wp2_with (simp only [hov])
  clear hov
  go_region_law
    (first
      | (refine step_copy_rowK rfl (.tmp 73) (.tmp 76) 119 119 rfl _ _ (by simp [Act.eval, Act.put]) (by simp [Act.eval, Act.put]) (HC1.out _ (n - i) (vc - (i + 1)) (n + 1 - i) (vc - i) HMN.out) ?_)
      | fail)
  all_goals
    have hcq := fun ty => HC2.out ty (n + 1 - i) (vc - i) HPN.out
    go_wp2_with fail
    go_ret
    exact ⟨rfl, HOUT.out, HGR.out⟩


end Go.Proofs.Ytnfjdoeemnhkbaa
