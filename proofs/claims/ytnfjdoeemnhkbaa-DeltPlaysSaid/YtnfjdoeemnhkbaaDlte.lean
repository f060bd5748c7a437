/-
  Contracts: slices.Delete of one version; slices.Insert of one where there is room and it is not the end.
-/
import Derived.Test.YtnfjdoeemnhkbaaDltc
import Derived.Test.YtnfjdoeemnhkbaaRowops
namespace Go.Proofs.Ytnfjdoeemnhkbaa
set_option linter.unusedVariables false
set_option linter.unusedSimpArgs false
open Go.RowKit

theorem zeroVersion (w : World) : (zeroValue 84).run Try.prog w = .ok (.agg #[.int .i64 0, .slice none 0 0, .int .i64 0, .int .i64 0, .int .i64 0, .int .i64 0]) w := Try.zeroValue84 w

theorem clear_end {base g n vc : Nat} {xs : List Value} {w0 w : World} (h : w.ownsRow base 84 6 (.slice (some ⟨g, 0, none⟩) n vc) n xs) (hg : w0.grownBy w (some g)) (m c : Nat) (hm : n + m ≤ vc) (hp : 0 < m) :
    ∃ wc, (∀ ty, (Builtin.clear_ #[119] ty #[.slice (some ⟨g, n * 6, none⟩) m c]).run Try.prog w = .ok (.tuple #[]) wc) ∧ wc.ownsRow base 84 6 (.slice (some ⟨g, 0, none⟩) n vc) n xs ∧ w0.grownBy wc (some g) := by
  obtain ⟨cur, hc, hnc, hcm, hcl, hct, hb⟩ := own_block h
  have hfit : n * 6 + m * 6 ≤ cur.length := by rw [hcl, ← Nat.add_mul]; exact Nat.mul_le_mul_right _ hm
  refine ⟨_, fun ty => run_clear_rowK (P := Try.prog) w 119 84 ty [.int .i64 0, .slice none 0 0, .int .i64 0, .int .i64 0, .int .i64 0, .int .i64 0] _ Try.underlying119 zeroVersion rfl (by simp [Value.oneCell']) g (n * 6) m c cur 84 hc hfit hp, ?_, grown_trans hg (grown_setRow w g _)⟩
  have hzl : ((List.replicate m ([.int .i64 0, .slice none 0 0, .int .i64 0, .int .i64 0, .int .i64 0, .int .i64 0] : List Value)).flatten).length = m * 6 := by
    rw [flatten_len _ 6 (fun t ht => by rw [List.eq_of_mem_replicate ht]; rfl), List.length_replicate]
  refine own_of_block (setRow_heap w g cur.toArray _ _ _ hc) hnc hcm ?_ ?_ hb
  · rw [length_splice _ _ _ (by rw [hzl]; exact hfit)]; exact hcl
  · rw [← hct]
    unfold splice
    rw [List.take_append_of_le_length (by rw [List.length_take]; omega), List.take_take, Nat.min_self]

set_option maxRecDepth 100000 in
set_option maxHeartbeats 8000000 in
theorem del_one (base g n vc i : Nat) (xs : List Value) (hi : i < n) (hn : n ≤ 100000) (w : World) (hown : w.ownsRow base 84 6 (.slice (some ⟨g, 0, none⟩) n vc) n xs) (h1 : ∀ u ∈ xs, u.oneCell' = true) :
    Calls Try.prog 77 #[.slice (some ⟨g, 0, none⟩) n vc, .int .i64 (i : Int), .int .i64 ((i : Int) + 1)] w fun e w' => e = .returned (.slice (some ⟨g, 0, none⟩) (n - 1) vc) ∧ w'.ownsRow base 84 6 (.slice (some ⟨g, 0, none⟩) (n - 1) vc) (n - 1) (xs.take (i * 6) ++ xs.drop ((i + 1) * 6)) ∧ w.grownBy w' (some g) := by
  have hxl : xs.length = n * 6 := hown.1
  have hnc : n ≤ vc := by obtain ⟨_, _, h, _⟩ := own_block hown; exact h
  have hvm : vc ≤ maxLen := by obtain ⟨_, _, _, h, _⟩ := own_block hown; exact h
  have hi0 : (0 : Int) ≤ (i : Int) := by omega
  have hi1 : (i : Int) ≤ (i : Int) + 1 := by omega
  have hi2 : (i : Int) + 1 ≤ (n : Int) := by omega
  have hn1 : (n : Int) ≤ (vc : Int) := by omega
  have hij : ¬ ((i : Int) = (i : Int) + 1) := by omega
  have hij2 : ((i : Int) == (i : Int) + 1) = false := by rw [beq_eq_false_iff_ne]; exact hij
  have htn : ((i : Int) + 1).toNat = i + 1 := by omega
  have hi3 : (0 : Int) ≤ (i : Int) + 1 := by omega
  have hi4 : i ≤ vc := by omega
  have hi5 : i + 1 ≤ vc := by omega
  have hi6 : i + 1 ≤ n := by omega
  have hi7 : (i : Int) ≤ (vc : Int) := by omega
  have HO := Lib.hid hown
  have H1 := Lib.hid h1
  have HXL := Lib.hid hxl
  clear hown h1 hxl
  go_enter Try.func77, Try.ntmps77
  have hxl := HXL.out
  have hdl : (xs.drop ((i + 1) * 6)).length = (n - (i + 1)) * 6 := by rw [List.length_drop, hxl, Nat.sub_mul]
  have hO := own_take HO.out i (by omega)
  obtain ⟨ei, he1, he2, he3⟩ : ∃ ei, Try.prog.info? 84 = some ei ∧ ei.size = 6 ∧ True := by
    obtain ⟨_, ⟨ei, z, h1, h2, h3, _⟩, _, _⟩ := elmVersion
    exact ⟨ei, h1, h3, trivial⟩
  obtain ⟨cur, hcg, hnc', hcm, hcl, hct, hbg⟩ := own_block HO.out
  have hsrc : ∀ j u, (xs.drop ((i + 1) * 6))[j]? = some u → w.drew.cell? ((⟨g, (i + 1) * 6, none⟩ : Addr).add j) = some u := fun j u hj => by
    have e : (⟨g, (i + 1) * 6, none⟩ : Addr).add j = ⟨g, (i + 1) * 6 + j, none⟩ := by simp [Addr.add]
    rw [List.getElem?_drop] at hj
    have hjl := (List.getElem?_eq_some_iff.1 hj).1
    rw [e]
    show w.cell? _ = _
    rw [HO.out.cellAt _ (by omega)]
    exact hj
  obtain ⟨wa, hra, hoa, hga⟩ := run_append_fits (P := Try.prog) w.drew base 119 119 84 ei 6 Try.underlying119 he1 he2 g i vc (xs.take (i * 6)) hO ⟨g, (i + 1) * 6, none⟩ (n - (i + 1)) (vc - (i + 1)) (xs.drop ((i + 1) * 6)) hdl hsrc (fun u hu => H1.out u (List.mem_of_mem_drop hu)) (by omega)
  rw [show i + (n - (i + 1)) = n - 1 by omega] at hra hoa
  obtain ⟨wc, hcl1, hoc, hgc⟩ := clear_end hoa hga 1 (vc - (n - 1)) (by omega) (by decide)
  have HRA := Lib.hid hra
  have HOC := Lib.hid hoc
  have HGC := Lib.hid (show w.grownBy wc (some g) from ⟨hgc.os, hgc.tape, hgc.output, hgc.size, hgc.block⟩)
  have HCL := Lib.hid hcl1
  clear hO hsrc hra hoa hga hcl1 hoc hgc hxl hdl hcg hcl hct hcm hnc'
  by_cases hck : vc = i + 1
  · have hin : n = i + 1 := by omega
    have hO2 := own_take HO.out i (by omega)
    obtain ⟨wb, hrb, hob, hgb⟩ := run_append_fits (P := Try.prog) w.drew base 119 119 84 ei 6 Try.underlying119 he1 he2 g i vc (xs.take (i * 6)) hO2 ⟨g, 0, none⟩ 0 0 [] (by simp) (fun j u hj => by simp at hj) (fun u hu => by cases hu) (by omega)
    rw [List.append_nil, Nat.add_zero] at hob
    rw [Nat.add_zero] at hrb
    obtain ⟨wd, hcl2, hod, hgd⟩ := clear_end hob hgb 1 (vc - i) (by omega) (by decide)
    clear HRA HOC HGC HCL
    have hxl2 := HXL.out
    have hdn : xs.drop ((i + 1) * 6) = [] := List.drop_eq_nil_of_le (by rw [hxl2, hin]; exact Nat.le_refl _)
    subst hck
    obtain rfl : n = i + 1 := hin
    have HRA := Lib.hid hrb
    have HCL := Lib.hid (show ∀ ty, _ from fun ty => hcl2 ty)
    have HOC := Lib.hid hod
    have HGC := Lib.hid (show w.grownBy wd (some g) from ⟨hgd.os, hgd.tape, hgd.output, hgd.size, hgd.block⟩)
    have HDN := Lib.hid hdn
    clear hrb hob hgb hcl2 hO2 hod hgd hxl2 hdn he1 he2 he3 hvm hn wa wc
    rw [show i + 1 - i = 1 by omega] at HCL
    go_upto_region 5 with (fail)
    go_region_law
      (first
        | (refine step_append_runK rfl (.tmp 22) (.tmp 25) 119 119 rfl _ _ (by simp [Act.eval, Act.put]) (by simp [Act.eval, Act.put]) HRA.out ?_)
        | fail)
    all_goals
      have hclw := HCL.out
      go_wp2
      go_ret
      refine ⟨rfl, ?_, HGC.out⟩
      rw [HDN.out, List.append_nil]
      exact HOC.out
  · have hck2 : (vc == i + 1) = false := by rw [beq_eq_false_iff_ne]; exact hck
    clear he1 he2 he3 hvm hn
    have hnn : n - (n - 1) = 1 := by omega
    go_upto_region 5 with (fail)
    go_region_law
      (first
        | (refine step_append_runK rfl (.tmp 22) (.tmp 25) 119 119 rfl _ _ (by simp [Act.eval, Act.put]) (by simp [Act.eval, Act.put]) HRA.out ?_)
        | fail)
    all_goals
      have hclw := HCL.out
      go_wp2
      go_ret
      exact ⟨rfl, HOC.out, HGC.out⟩

end Go.Proofs.Ytnfjdoeemnhkbaa
