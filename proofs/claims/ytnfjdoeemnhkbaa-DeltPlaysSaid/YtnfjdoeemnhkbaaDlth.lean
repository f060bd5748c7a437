/-
  Contracts: slices.Insert of one version in the middle, where there is no room; layer 12's Add over it.
-/
import Derived.Test.YtnfjdoeemnhkbaaDltg
import Derived.Lib.AppendZerosOnto
namespace Go.Proofs.Ytnfjdoeemnhkbaa
set_option linter.unusedVariables false
set_option linter.unusedSimpArgs false
open Go.RowKit

theorem splice_two (R cs ds : List Value) (a : Nat) (h : a + cs.length + ds.length ≤ R.length) : (splice (splice R a cs) (a + cs.length) ds).take (a + cs.length + ds.length) = R.take a ++ cs ++ ds ∧ (splice (splice R a cs) (a + cs.length) ds).length = R.length := by
  have e1 : (splice R a cs).length = R.length := length_splice _ _ _ (by omega)
  have hl : (R.take a).length = a := by rw [List.length_take]; omega
  refine ⟨?_, by rw [length_splice _ _ _ (by rw [e1]; exact h), e1]⟩
  have e2 : (splice R a cs).take (a + cs.length) = R.take a ++ cs := by
    unfold splice
    rw [← List.append_assoc, List.take_append_of_le_length (by rw [List.length_append, hl]; exact Nat.le_refl _), List.take_of_length_le (by rw [List.length_append, hl]; exact Nat.le_refl _)]
  rw [splice, e2, ← List.append_assoc, List.take_append_of_le_length (by rw [List.length_append, List.length_append, hl]; exact Nat.le_refl _), List.take_of_length_le (by rw [List.length_append, List.length_append, hl]; exact Nat.le_refl _)]

set_option maxRecDepth 100000 in
set_option maxHeartbeats 8000000 in
theorem ins_grow (base g n i vb : Nat) (xs cs : List Value) (hi : i < n) (hn : n ≤ 100000) (w : World) (hown : w.ownsRow base 84 6 (.slice (some ⟨g, 0, none⟩) n n) n xs) (h1 : ∀ u ∈ xs, u.oneCell' = true)
    (hcs : cs.length = 6) (h1c : ∀ u ∈ cs, u.oneCell' = true) (hvb : w.heap[vb]? = some (.cells cs.toArray 84 (0, 0))) (hbw : base ≤ w.heap.size) :
    Calls Try.prog 75 #[.slice (some ⟨g, 0, none⟩) n n, .int .i64 (i : Int), .slice (some ⟨vb, 0, none⟩) 1 1] w fun e w' => ∃ ng cap, w.heap.size ≤ ng ∧ e = .returned (.slice (some ⟨ng, 0, none⟩) (n + 1) cap) ∧ w'.ownsRow base 84 6 (.slice (some ⟨ng, 0, none⟩) (n + 1) cap) (n + 1) (xs.take (i * 6) ++ cs ++ xs.drop (i * 6)) ∧ Below w.heap.size w w' := by
  have hxl : xs.length = n * 6 := hown.1
  obtain ⟨cur, hcg, hnc, hcm, hcl, hct, hbg⟩ := own_block hown
  have hsz : (Try.prog.info? 84).map (·.size) = some 6 := by
    obtain ⟨_, ⟨ei, z, e1, e2, e3, _⟩, _, _⟩ := elmVersion
    rw [e1]; simp [e3]
  have hgl : g < w.heap.size := (Array.getElem?_eq_some_iff.1 hcg).1
  have hvl : vb < w.heap.size := (Array.getElem?_eq_some_iff.1 hvb).1
  obtain ⟨_, ⟨i0, z0, hi0, hz0, hzs, hzb, hzc⟩, _, _⟩ := elmVersion
  have hdl : (xs.drop (i * 6)).length = (n - i) * 6 := by rw [List.length_drop, hxl, Nat.sub_mul]
  have htl : (xs.take (i * 6)).length = i * 6 := by rw [List.length_take, hxl]; omega
  have hold : (Builtin.firstCells i0.size i (.slice (some ⟨g, 0, none⟩) i n)).run Try.prog w.drew = .ok (xs.take (i * 6)).toArray w.drew := by
    rw [hzs]
    refine run_firstCells_some w.drew 6 i ⟨g, 0, none⟩ i n (xs.take (i * 6)) (by rw [htl]) (fun j v hj => ?_)
    rw [Addr.add_lit, Nat.zero_add]
    rw [List.getElem?_take] at hj
    split at hj
    · show w.cell? _ = _
      rw [hown.cellAt j (by omega)]; exact hj
    · cases hj
  obtain ⟨G, hG⟩ : ∃ G, G = grownCap w (n + 1) n 84 := ⟨_, rfl⟩
  have hGn : n + 1 ≤ G := by rw [hG]; exact grownCap_ge w _ _ _
  have hGm : G ≤ maxLen := by rw [hG]; exact grownCap_le_maxLen w (n + 1) n _ (by unfold maxLen; omega)
  obtain ⟨ROW, hROW⟩ : ∃ ROW : Array Value, ROW = (xs.take (i * 6)).toArray ++ Builtin.zeroCells z0.cells (n + 1 - i) ++ Builtin.zeroCells z0.cells (G - (n + 1)) := ⟨_, rfl⟩
  have hRs : ROW.size = G * 6 := by
    rw [hROW]
    simp only [Array.size_append, List.size_toArray, htl, Builtin.zeroCells, Array.size_map, Array.size_range, hzc]
    omega
  have hRt : ROW.toList.take (i * 6) = xs.take (i * 6) := by
    rw [hROW]
    simp only [Array.toList_append, List.append_assoc]
    rw [List.take_append_of_le_length (by rw [htl]; exact Nat.le_refl _), List.take_of_length_le (by rw [htl]; exact Nat.le_refl _)]
  have hik : i + (n + 1 - i) = n + 1 := by omega
  have hrz : ∀ ty, (Builtin.append_ #[119, 3] ty #[.slice (some ⟨g, 0, none⟩) i n, .int .i64 ((n : Int) + 1 - (i : Int))]).run Try.prog w = .ok (.slice (some ⟨w.heap.size, 0, none⟩) (n + 1) G) (w.drew.alloc (.cells ROW 84)) := fun ty => by
    have h := Lib.run_append_grow_zeros w 119 3 ty 84 i0 _ .i64 .i64 Try.underlying119 Try.underlying3 hi0 hz0 (some ⟨g, 0, none⟩) i n (xs.take (i * 6)) hold (n + 1 - i) (by omega) (by omega) (by omega) (by omega) (by rw [hzb]; omega) (by rw [hzb, hik]; exact growslice_fits (by omega) (by omega))
    rw [hik, ← hG, ← hROW] at h
    rw [show (n : Int) + 1 - (i : Int) = ((n + 1 - i : Nat) : Int) by omega]
    exact h
  obtain ⟨N, hN⟩ : ∃ N, N = w.heap.size := ⟨_, rfl⟩
  rw [← hN] at hrz ⊢
  obtain ⟨RA, hRA⟩ : ∃ RA, RA = splice ROW.toList (i * 6) cs := ⟨_, rfl⟩
  have hRAl : RA.length = G * 6 := by rw [hRA, length_splice _ _ _ (by rw [hcs, Array.length_toList, hRs]; have : (i + 1) * 6 ≤ G * 6 := Nat.mul_le_mul_right _ (by omega); omega), Array.length_toList, hRs]
  have hcpA : ∀ (W : World), W.heap[N]? = some (.cells ROW 84 (0, 0)) → W.heap[vb]? = some (.cells cs.toArray 84 (0, 0)) → ∀ ty dl dc, 0 < dl → (Builtin.copy_ #[119, 119] ty #[.slice (some ⟨N, i * 6, none⟩) dl dc, .slice (some ⟨vb, 0, none⟩) 1 1]).run Try.prog W = .ok (goInt ((1 : Nat) : Int)) (W.setRow N RA.toArray) := fun W hW hV ty dl dc hm => by
    have hmin : Nat.min 1 dl = 1 := by simp only [Nat.min_def]; split <;> omega
    rw [hRA]
    have h := run_copy_rowK (P := Try.prog) W 119 119 ty 84 6 N (i * 6) dl dc ⟨vb, 0, none⟩ 1 1 ROW.toList 84 cs Try.underlying119 hsz (by simpa using hW) (by rw [hcs, hmin]) (fun j u hj => ?_) (by rw [hcs, Array.length_toList, hRs]; have : (i + 1) * 6 ≤ G * 6 := Nat.mul_le_mul_right _ (by omega); omega) h1c
    · rw [hmin] at h
      exact h
    · rw [Addr.add_lit, Nat.zero_add, cell_of_row W vb j _ _ _ hV]
      simpa using hj
  obtain ⟨RB, hRB⟩ : ∃ RB, RB = splice RA ((i + 1) * 6) (xs.drop (i * 6)) := ⟨_, rfl⟩
  have hcpB : ∀ (W : World), W.heap[N]? = some (.cells RA.toArray 84 (0, 0)) → W.heap[g]? = some (.cells cur.toArray 84 (0, 0)) → ∀ ty dl dc sl sc, Nat.min sl dl = n - i → (Builtin.copy_ #[119, 119] ty #[.slice (some ⟨N, (i + 1) * 6, none⟩) dl dc, .slice (some ⟨g, i * 6, none⟩) sl sc]).run Try.prog W = .ok (goInt ((n - i : Nat) : Int)) (W.setRow N RB.toArray) := fun W hW hV ty dl dc sl sc hm => by
    rw [hRB, ← hm]
    refine run_copy_rowK W _ _ ty 84 6 N ((i + 1) * 6) dl dc ⟨g, i * 6, none⟩ sl sc RA 84 (xs.drop (i * 6)) Try.underlying119 hsz hW (by rw [hdl, hm]) (fun j u hj => ?_) (by rw [hdl, hRAl, ← Nat.add_mul]; exact Nat.mul_le_mul_right _ (by omega)) (fun u hu => h1 u (List.mem_of_mem_drop hu))
    rw [List.getElem?_drop] at hj
    have hjl := (List.getElem?_eq_some_iff.1 hj).1
    rw [Addr.add_lit, cell_of_row W g _ _ _ _ hV]
    rw [← hct, List.getElem?_take] at hj
    split at hj
    · simpa using hj
    · cases hj
  have hfin : RB.take ((n + 1) * 6) = xs.take (i * 6) ++ cs ++ xs.drop (i * 6) ∧ RB.length = G * 6 := by
    have h := splice_two ROW.toList cs (xs.drop (i * 6)) (i * 6) (by rw [hcs, hdl, Array.length_toList, hRs, ← Nat.succ_mul, ← Nat.add_mul]; exact Nat.mul_le_mul_right _ (by omega))
    have hRl : ROW.toList.length = G * 6 := by rw [Array.length_toList, hRs]
    rw [← hRA, hcs, hdl, hRt, ← Nat.succ_mul, ← Nat.add_mul, show i.succ + (n - i) = n + 1 by omega, hRl] at h
    rw [hRB]
    exact h
  have HOUT := Lib.hid (show ∀ W : World, W.heap[N]? = some (.cells RB.toArray 84 (0, 0)) → W.ownsRow base 84 6 (.slice (some ⟨N, 0, none⟩) (n + 1) G) (n + 1) (xs.take (i * 6) ++ cs ++ xs.drop (i * 6)) from fun W hW => own_of_block hW hGn hGm hfin.2 hfin.1 (by rw [hN]; exact hbw))
  have HRZ := Lib.hid hrz
  have HCA := Lib.hid hcpA
  have HCB := Lib.hid hcpB
  have HCG := Lib.hid hcg
  have HVB := Lib.hid hvb
  have HNN := Lib.hid hN
  clear hfin hcpA hcpB hrz hRB hRA hRAl hRt hRs hROW hold hG hown h1 hcg hcl hct hcm hcs h1c hvb hdl htl hsz hi0 hz0 hzs hzb hzc hxl hbg hN hik
  have hi0 : (0 : Int) ≤ (i : Int) := by omega
  have hi1 : (i : Int) ≤ (n : Int) := by omega
  have hin : ((i : Int) == (n : Int)) = false := by rw [beq_eq_false_iff_ne]; omega
  have hin2 : ¬ ((i : Int) = (n : Int)) := by omega
  have hw1 : IntKind.i64.wrap ((n : Int) + 1) = (n : Int) + 1 := IntWalk.i64_in _ (by omega)
  have hw2 : IntKind.i64.wrap ((i : Int) + 1) = (i : Int) + 1 := IntWalk.i64_in _ (by omega)
  have hw3 : IntKind.i64.wrap ((n : Int) + 1 - (i : Int)) = (n : Int) + 1 - (i : Int) := IntWalk.i64_in _ (by omega)
  have hb1 : decide ((n : Int) + 1 > (n : Int)) = true := by rw [decide_eq_true_iff]; omega
  have hb2 : (n : Int) < (n : Int) + 1 := by omega
  have hb3 : (0 : Int) ≤ (n : Int) + 1 := by omega
  have hb5 : (0 : Int) ≤ (i : Int) + 1 := by omega
  have hb6 : (i : Int) + 1 ≤ (n : Int) + 1 := by omega
  have hb7 : (i : Int) ≤ (n : Int) + 1 := by omega
  have ht2 : ((i : Int) + 1).toNat = i + 1 := by omega
  have hq5 : i ≤ n + 1 := by omega
  have hq6 : i + 1 ≤ n + 1 := by omega
  have hq7 : i ≤ n := by omega
  have hq8 : ¬ (G = i) := by omega
  have hq9 : ¬ (G = i + 1) := by omega
  have hq10 : ¬ (n = i) := by omega
  have hq11 : (G == i) = false := by rw [beq_eq_false_iff_ne]; exact hq8
  have hq12 : (G == i + 1) = false := by rw [beq_eq_false_iff_ne]; exact hq9
  have hq13 : (n == i) = false := by rw [beq_eq_false_iff_ne]; exact hq10
  have hG1 : (n : Int) + 1 ≤ (G : Int) := by omega
  have hG2 : (i : Int) ≤ (G : Int) := by omega
  go_enter Try.func75, Try.ntmps75
  go_upto_region 10 with (at_builtin; refine Lib.wpList_append_run _ rfl _ _ _ _ rfl _ _ rfl rfl _ _ (HRZ.out _) ?_)
  have hn1 : ((w.alloc (.cells ROW 84)).drew).heap[N]? = some (.cells ROW 84 (0, 0)) := by rw [HNN.out]; exact heap_alloc_new w _
  have hv1 : ((w.alloc (.cells ROW 84)).drew).heap[vb]? = some (.cells cs.toArray 84 (0, 0)) := (heap_alloc_old w _ hvl).trans HVB.out
  have hg1 : ((w.alloc (.cells ROW 84)).drew).heap[g]? = some (.cells cur.toArray 84 (0, 0)) := (heap_alloc_old w _ hgl).trans HCG.out
  have hb1 : Below w.heap.size w ((w.alloc (.cells ROW 84)).drew) := below_dr2 (below_alloc w _)
  obtain ⟨W1, hW1⟩ : ∃ W1 : World, W1 = (w.alloc (.cells ROW 84)).drew := ⟨_, rfl⟩
  rw [← hW1] at hn1 hv1 hg1 hb1 ⊢
  have HN1 := Lib.hid hn1
  have HV1 := Lib.hid hv1
  have HG1 := Lib.hid hg1
  have HB1 := Lib.hid hb1
  clear hn1 hv1 hg1 hb1 hW1
  have HPOS := Lib.hid (show 0 < n + 1 - i by omega)
  have hcq := fun ty => HCA.out W1 HN1.out HV1.out ty (n + 1 - i) (G - i) HPOS.out
  go_upto_region 11 with (fail)
  clear hcq
  have hn2 : (W1.setRow N RA.toArray).heap[N]? = some (.cells RA.toArray 84 (0, 0)) := setRow_heap W1 N _ _ _ _ HN1.out
  have hg2 := (setRow_other W1 N g RA.toArray (by have := HNN.out; omega)).trans HG1.out
  have hb2 : Below w.heap.size w (W1.setRow N RA.toArray) := (Below.grown HB1.out (grown_setRow W1 N _) HB1.out.size (fun k e => by cases e; exact Nat.le_of_eq HNN.out.symm))
  obtain ⟨W2, hW2⟩ : ∃ W2 : World, W2 = W1.setRow N RA.toArray := ⟨_, rfl⟩
  rw [← hW2] at hn2 hg2 hb2 ⊢
  have HN2 := Lib.hid hn2
  have HG2 := Lib.hid hg2
  have HB2 := Lib.hid hb2
  clear hn2 hg2 hb2 hW2
  have HMN := Lib.hid (show Nat.min (n - i) (n - i) = n - i from Nat.min_self _)
  have HFIN := Lib.hid (show ∀ W3 : World, W3.heap = W2.heap → W3.os = W2.os → W3.tape = W2.tape → W3.output = W2.output → (W3.setRow N RB.toArray).ownsRow base 84 6 (.slice (some ⟨N, 0, none⟩) (n + 1) G) (n + 1) (xs.take (i * 6) ++ cs ++ xs.drop (i * 6)) ∧ Below w.heap.size w (W3.setRow N RB.toArray) from fun W3 e1 e2 e3 e4 => by
    have hh : W3.heap[N]? = some (.cells RA.toArray 84 (0, 0)) := (by rw [e1]; exact HN2.out)
    refine ⟨HOUT.out _ (setRow_heap W3 N _ _ _ _ hh), ?_⟩
    have hb3 : Below w.heap.size w W3 := ⟨e2.trans HB2.out.os, e3.trans HB2.out.tape, e4.trans HB2.out.output, by rw [e1]; exact HB2.out.size, fun k hk => by rw [e1]; exact HB2.out.block k hk⟩
    exact Below.grown hb3 (grown_setRow W3 N _) hb3.size (fun k e => by cases e; exact Nat.le_of_eq HNN.out.symm))
  go_region_law
    (first
      | (refine step_copy_rowK rfl (.tmp 50) (.tmp 53) 119 119 rfl _ _ (by simp [Act.eval, Act.put]) (by simp [Act.eval, Act.put]) (HCB.out W2.drew HN2.out HG2.out _ (n - i) (G - (i + 1)) (n - i) (n - i) HMN.out) ?_)
      | fail)
  all_goals
    go_wp2_with fail
    go_ret
    exact ⟨N, G, Nat.le_refl _, rfl, (HFIN.out W2.drew rfl rfl rfl rfl).1, HNN.out ▸ (HFIN.out W2.drew rfl rfl rfl rfl).2⟩

set_option maxRecDepth 100000 in
set_option maxHeartbeats 8000000 in
theorem dadd_grow (vs : List Vr) (hl : vs.length ≤ 10000) (hs : Rise vs) (g n d base p : Nat) (most : Int) (xi x1 x2 x3 x4 : Int) (xra : Option Addr) (xrn xrc : Nat) (l : List (Vc × Value)) (hll : l.length ≤ 1000000) (w : World) (hn : n = vs.length)
    (hown : w.ownsRow base 84 6 (.slice (some ⟨g, 0, none⟩) n n) n (vs.map Vr.cells).flatten) (hbase : base ≤ d) (hdv : g ≠ d)
    (hd : w.heap[d]? = some (.cells #[.int .i64 most, .slice (some ⟨g, 0, none⟩) n n] 121 (0, 0))) (hmost : (n : Int) < most) (hp : p < n) (hlt : ∀ k y, k < p → vs[k]? = some y → y.i < xi) (hgt : ∀ k y, p ≤ k → vs[k]? = some y → xi < y.i) (hx : RdP w (.slice xra xrn xrc) l) (hbig : ∀ t ∈ l, t.1.b.length ≤ 1000000) :
    Calls Try.prog 36 #[.pointer (some ⟨d, 0, none⟩), .agg #[.int .i64 xi, .slice xra xrn xrc, .int .i64 x1, .int .i64 x2, .int .i64 x3, .int .i64 x4]] w fun e w' => e = .returned (.bool true) ∧ ∃ (ng cap : Nat) (na : Option Addr) (nn nc : Nat) (l' : List (Vc × Value)) (w1 : World), w1.heap.size ≤ ng ∧
      w'.heap[d]? = some (.cells #[.int .i64 most, .slice (some ⟨ng, 0, none⟩) (n + 1) cap] 121 (0, 0)) ∧ w'.ownsRow base 84 6 (.slice (some ⟨ng, 0, none⟩) (n + 1) cap) (n + 1) ((vs.take p ++ [(⟨xi, na, nn, nc, x1, x2, x3, x4⟩ : Vr)] ++ vs.drop p).map Vr.cells).flatten ∧
      l'.map Prod.fst = l.map Prod.fst ∧ RdRA w.heap.size w1 (.slice na nn nc) l' ∧ Above w.heap.size w1 w' ∧ w.heap.size ≤ w1.heap.size ∧ w1.heap.size ≤ w'.heap.size ∧
      Below base w w' ∧ (∀ b, b < w.heap.size → b ≠ d → w'.heap[b]? = w.heap[b]?) := by
  have hdl : d < w.heap.size := (Array.getElem?_eq_some_iff.1 hd).1
  have HR := Lib.hid (rdS_own hown (by rw [List.length_map]; exact hn) (vr_len vs))
  have HO := Lib.hid hown
  have HD := Lib.hid hd
  have HDV := Lib.hid hdv
  have HF := Lib.hid fun w' (h : Below w.heap.size w w') => find_any vs (by omega) hs (some ⟨g, 0, none⟩) n n d most xi w' hn (HR.out.kept h) ((h.block d hdl).trans hd)
  have HV := Lib.hid fun w' (h : Below w.heap.size w w') => fver_any xi x1 x2 x3 x4 xra xrn xrc l hll w' (hx.kept h) hbig
  have HN := Lib.hid hn
  have HGT := Lib.hid hgt
  have HLT := Lib.hid hlt
  have hgl : g < w.heap.size := own_lt hown g rfl
  have hnl : n ≤ 10000 := by omega
  have hdb : base ≤ w.heap.size := by omega
  clear hown hd hdv hx hbig hs hn hgt hlt hl hll
  go_enter Try.func36, Try.ntmps36
  go_upto_region 1 with (fail)
  have hz := heap_alloc_new w (.cells #[.int .i64 xi, .slice xra xrn xrc, .int .i64 x1, .int .i64 x2, .int .i64 x3, .int .i64 x4] 84)
  have HB0 := Lib.hid (below_alloc w (.cells #[.int .i64 xi, .slice xra xrn xrc, .int .i64 x1, .int .i64 x2, .int .i64 x3, .int .i64 x4] 84))
  obtain ⟨W, hW⟩ : ∃ W : World, W = w.alloc (.cells #[.int .i64 xi, .slice xra xrn xrc, .int .i64 x1, .int .i64 x2, .int .i64 x3, .int .i64 x4] 84) := ⟨_, rfl⟩
  obtain ⟨X, hX⟩ : ∃ X, X = w.heap.size := ⟨_, rfl⟩
  have HXX := Lib.hid hX
  rw [← hW] at hz HB0 ⊢
  rw [← hX] at hz ⊢
  have HX0 := Lib.hid hz
  have cx0 : W.cell? ⟨X, 0, none⟩ = some (.int .i64 xi) := by rw [cell_of_row W X 0 _ _ _ hz]; rfl
  clear hW hX hz
  go_wp2_with fail
  refine (HF.out W HB0.out).mono ?_
  rintro e w2 ⟨i, b, rfl, ⟨hi, hlo, hhi, hbb⟩, hb2⟩
  have hin : i = p := by
    rcases Nat.lt_trichotomy i p with h | h | h
    · exfalso
      obtain ⟨y, hy⟩ : ∃ y, vs[i]? = some y := ⟨_, List.getElem?_eq_getElem (by have := HN.out; omega)⟩
      have h2 := HLT.out i y h hy
      have h3 := hhi i y (Nat.le_refl _) hy
      omega
    · exact h
    · exfalso
      obtain ⟨y, hy⟩ : ∃ y, vs[p]? = some y := ⟨_, List.getElem?_eq_getElem (by have := HN.out; omega)⟩
      have h2 := HGT.out p y (Nat.le_refl _) hy
      have h3 := hlo p y h hy
      omega
  subst hin
  have hbf : b = false := by
    obtain ⟨y, hy⟩ : ∃ y, vs[i]? = some y := ⟨_, List.getElem?_eq_getElem (by have := HN.out; omega)⟩
    have h2 := HGT.out i y (Nat.le_refl _) hy
    rw [hbb, hy]
    show (some y.i == some xi) = false
    rw [beq_eq_false_iff_ne]
    intro h
    have := Option.some.inj h
    omega
  subst hbf
  have HB2 := Lib.hid (below_then HB0.out hb2)
  have hx2 := (hb2.block X (Array.getElem?_eq_some_iff.1 HX0.out).1).trans HX0.out
  have hd2 := (HB2.out.block d hdl).trans HD.out
  have HX2 := Lib.hid hx2
  have HD2 := Lib.hid hd2
  have c0 : w2.cell? ⟨d, 0, none⟩ = some (.int .i64 most) := by rw [cell_of_row w2 d 0 _ _ _ hd2]; rfl
  have c1 : w2.cell? ⟨d, 1, none⟩ = some (.slice (some ⟨g, 0, none⟩) n n) := by rw [cell_of_row w2 d 1 _ _ _ hd2]; rfl
  have hm1 : decide ((n : Int) ≥ most) = false := by rw [decide_eq_false_iff_not]; omega
  have hm2 : decide (most ≤ (n : Int)) = false := by rw [decide_eq_false_iff_not]; omega
  have hm3 : ¬ (most ≤ (n : Int)) := by omega
  clear hi hlo hhi hbb hb2 hx2 hd2 cx0
  go_upto_region 2 with (fail)
  go_quiet (fail)
  go_upto_region 4 with (fail)
  have hx4 := HX2.out
  obtain ⟨W4, hW4⟩ : ∃ W4 : World, W4 = w2.drewN nq := ⟨_, rfl⟩
  have hb4 : Below w2.heap.size w2 W4 := by rw [hW4]; exact below_draws (Below.refl _ _) _
  rw [← hW4]
  have HB4 := Lib.hid (below_then HB2.out hb4)
  replace hx4 := (hb4.block X (Array.getElem?_eq_some_iff.1 hx4).1).trans hx4
  have hd4 := (hb4.block d (Array.getElem?_eq_some_iff.1 HD2.out).1).trans HD2.out
  have HX4 := Lib.hid hx4
  have HD4 := Lib.hid hd4
  have c14 : W4.cell? ⟨d, 1, none⟩ = some (.slice (some ⟨g, 0, none⟩) n n) := by rw [cell_of_row W4 d 1 _ _ _ hd4]; rfl
  have hSX0 := sx6 hx4
  have hil : n ≤ 100000 := by omega
  have hdX : d ≠ X := by rw [HXX.out]; omega
  have hXd : X ≠ d := Ne.symm hdX
  have HVO := Lib.hid (vr_one vs)
  have HSZ4 := Lib.hid (show w.heap.size ≤ W4.heap.size from HB4.out.size)
  clear hW4 hb4 hx4 hd4 c0 c1 hm1 hm2 hm3
  go_region_law
    (first
      | (go_simp; go_at_call 76; refine (HV.out _ ?_).mono ?_; (exact below_dr2 HB4.out); rintro e w5 ⟨na, nn, nc, l', rfl, h1, h2, hb5⟩; have hB5 : Below W4.heap.size W4 w5 := below_then (below_drw _ _) hb5; have hx5 := (hB5.block X (Array.getElem?_eq_some_iff.1 HX4.out).1).trans HX4.out; have hd5 := (hB5.block d (Array.getElem?_eq_some_iff.1 HD4.out).1).trans HD4.out; have hx5a := fun o : Obj => (heap_alloc_old w5 o (Array.getElem?_eq_some_iff.1 hx5).1).trans hx5; have hd5a := fun o : Obj => (heap_alloc_old w5 o (Array.getElem?_eq_some_iff.1 hd5).1).trans hd5; have c15 : w5.cell? ⟨d, 1, none⟩ = some (.slice (some ⟨g, 0, none⟩) n n) := (by rw [cell_of_row w5 d 1 _ _ _ hd5]; rfl); have c15a : ∀ o : Obj, (w5.alloc o).cell? ⟨d, 1, none⟩ = some (.slice (some ⟨g, 0, none⟩) n n) := (fun o => by rw [cell_of_row _ d 1 _ _ _ (hd5a o)]; rfl); have H1 := Lib.hid h1; have H2 := Lib.hid h2; have HB5 := Lib.hid (below_then HB4.out hB5); have hdone5 := True.intro)
      | (go_simp; go_at_call 75; have q2 := le_alloc (Nat.le_trans hdb HB5.out.size) (.cells #[.int .i64 xi, .slice na nn nc, .int .i64 x1, .int .i64 x2, .int .i64 x3, .int .i64 x4] 84); have q40 : w5.ownsRow base 84 6 (.slice (some ⟨g, 0, none⟩) n n) n (vs.map Vr.cells).flatten := own_kept HO.out HB5.out; have q4 := q40.alloc (.cells #[.int .i64 xi, .slice na nn nc, .int .i64 x1, .int .i64 x2, .int .i64 x3, .int .i64 x4] 84); refine (ins_grow base g n i w5.heap.size _ [.int .i64 xi, .slice na nn nc, .int .i64 x1, .int .i64 x2, .int .i64 x3, .int .i64 x4] hp hil _ q4 HVO.out rfl (ones6 _ _ _ _ _ _ _ _ _ (List.mem_singleton.2 rfl)).2 (heap_alloc_new w5 _) q2).mono ?_; rintro e w6 ⟨ng, cap, hng, rfl, hown6, hgrow6⟩; have hd6 := (hgrow6.block d (lt_alloc (Nat.lt_of_lt_of_le hdl HB5.out.size) _)).trans (hd5a _); have hx6 := (hgrow6.block X (lt_alloc (Array.getElem?_eq_some_iff.1 hx5).1 _)).trans (hx5a _); have hx6s := fun v : Value => (heap_setCell_other w6 ⟨d, 1, none⟩ X v hXd).trans hx6; have HNG := Lib.hid hng; clear hng; have c16 : w6.cell? ⟨d, 1, none⟩ = some (.slice (some ⟨g, 0, none⟩) n n) := (by rw [cell_of_row w6 d 1 _ _ _ hd6]; rfl); have f16 : w6.frozen? ⟨d, 1, none⟩ = false := frozen_of_row w6 d 1 _ _ hd6; have HD6 := Lib.hid hd6; have HO6 := Lib.hid hown6; have HG6 := Lib.hid hgrow6)
      | fail)
  all_goals
    go_wp2_with fail
    go_ret
    have hsz5 := HB5.out.size
    have hng : w5.heap.size < ng := by have h := HNG.out; simp at h; omega
    have hbl : ∀ b, b < w5.heap.size → b ≠ d → (w6.setCell ⟨d, 1, none⟩ (.slice (some ⟨ng, 0, none⟩) (n + 1) cap)).heap[b]? = w5.heap[b]? := fun b h1 h2 =>
      (heap_setCell_other w6 ⟨d, 1, none⟩ b _ h2).trans ((HG6.out.block b (lt_alloc h1 _)).trans (heap_alloc_old w5 _ h1))
    refine ⟨rfl, ng, cap, na, nn, nc, l', w5, by omega, ?_, ?_, H1.out, H2.out.above (Above.refl _ _) HSZ4.out, ?_, hsz5, ?_, ?_, ?_⟩
    · have h := heap_setCell_same w6 d 1 _ _ (.slice (some ⟨ng, 0, none⟩) (n + 1) cap) HD6.out
      simpa only [List.setIfInBounds_toArray, List.set_cons_zero, List.set_cons_succ] using h
    · have h := HO6.out.kept (grown_setCell w6 ⟨d, 1, none⟩ (.slice (some ⟨ng, 0, none⟩) (n + 1) cap)) (.inr (fun e => absurd (Option.some.inj e) (by have := HB5.out.size; show ng ≠ d; omega)))
      obtain ⟨f1, f2⟩ := flat_cut 6 (vs.map Vr.cells) (vr_len vs) i
      rw [f1, f2, ← List.map_take, ← List.map_drop] at h
      rw [List.map_append, List.map_append, List.flatten_append, List.flatten_append]
      simpa [Vr.cells] using h
    · exact fun b h1 h2 => hbl b h2 (by omega)
    · have h1 := HG6.out.size
      simp at h1
      simp [World.setCell]
      omega
    · exact ((below_alloc_b (HB5.out.mono hdb) _ (Nat.le_trans hdb hsz5)).trans (HG6.out.mono (le_alloc (Nat.le_trans hdb hsz5) _))).setCell (p := ⟨d, 1, none⟩) hbase _
    · exact fun b h1 h2 => (hbl b (by omega) h2).trans (HB5.out.block b h1)


end Go.Proofs.Ytnfjdoeemnhkbaa
