/-
  The walk of SchmFits.
-/
import Derived.Test.YtlkjdclhgmkndaaFitm
import Derived.Test.YtlkjdclhgmkndaaFrv
import Derived.Test.YtlkjdclhgmkndaaAwake6
import Derived.Deep.CutBlock
import Derived.Deep.DeepCutAuto
namespace Go.Proofs.Ytlkjdclhgmkndaa
set_option linter.unusedVariables false
set_option linter.unusedSimpArgs false
open Go.RowKit

theorem made65 (n : Nat) : (madeCells (Value.int .u8 0).cells n).toList = (List.replicate n 0).map u8v := by
  first
  | (rw [show (Value.int .u8 0).cells = #[.int .u8 0] from rfl, toList_madeCells_one, List.map_replicate]; rfl)
  | (simp [madeCells, Value.cells, u8v]; apply List.ext_getElem <;> simp [Nat.mod_one])
theorem step_append_liesG {P : Program} {w : World} {ops : Array Oper} {o : Oper} {a : Act} {K : Act → World → Prop} {Q : Exit → Act → World → Prop} {E : Prop} (hw : Region.wanted o (yielded ops a.tmps) = true) (s x : Operand) (t : TypeId)
    (ho : o.op = .call { callee := .builtin .append, args := #[s, x], argTypes := #[t, t] })
    (base : Nat) (e : TypeId) (i : TypeInfo) (z : Value) (size bytes : Nat) (ht : P.underlying t = some (.slice e)) (hi : P.info? e = some i) (hz : i.zero = some z)
    (hsize : i.size = size) (hby : i.bytes = bytes) (hzs : z.cells.size = size) (hsz : 0 < size)
    (v : Value) (n : Nat) (xs : List Value) (hs : a.eval s = v) (hown : w.ownsRow base e size v n xs)
    (ad : Addr) (m c : Nat) (news : List Value) (hx : a.eval x = .slice (some ad) m c) (hl : news.length = m * size) (hnews : ∀ j u, news[j]? = some u → w.cell? (ad.add j) = some u) (h1 : ∀ u ∈ news, u.oneCell' = true)
    (hm : 0 < m) (h63 : n + m ≤ maxLen) (hbytes : (n + m) * bytes ≤ 140737488355328) (hbase : base ≤ w.heap.size) (H : Nat) (hH : w.heap.size = H) (N : Nat) (hN : n + m = N) (ys : List Value) (hys : xs ++ news = ys)
    (h : ∀ g cap w', w'.ownsRow base e size (.slice (some ⟨g, 0, none⟩) N cap) N ys → w.grownBy w' v.ownBlock → (v.ownBlock = some g ∨ g = H) → g < w'.heap.size → K (a.put o.dst (.slice (some ⟨g, 0, none⟩) N cap)) w') :
    if Region.wanted o (yielded ops a.tmps) = true then Oper.wp P o a w K Q else E := by
  subst hN hys
  rw [if_pos hw]
  exact wp_append_lies w s x t ho base e i z size bytes ht hi hz hsize hby hzs hsz v n xs hs hown ad m c news hx hl hnews h1 hm h63 hbytes hbase H hH h

set_option maxRecDepth 100000 in
set_option maxHeartbeats 16000000 in
theorem walk_SchmFits (a0 : Int) (a1 : Int) (a2 : Int) (a3 : Int) (w0 : (Lit.int .i64 a0).wf = true) (w1 : (Lit.int .i64 a1).wf = true) (w2 : (Lit.int .i64 a2).wf = true) (w3 : (Lit.int .i64 a3).wf = true) (w : World) :
    Calls Try.prog 3 #[.int .i64 a0, .int .i64 a1, .int .i64 a2, .int .i64 a3] w fun e w' => e = .returned (.bool true) ∧ Below w.heap.size w w' := by
  clear w0 w1 w2 w3
  go_enter Try.func3, Try.ntmps3
  go_wp2_with fail
  refine (schema_any a0 _).mono ?_
  rintro e w1 ⟨ao, cap, kl, rfl, hkl, hkinds, hown, hb⟩
  have HC1 := Lib.hid (rdC_own hown (by rw [colsOf_len]))
  have HOK := Lib.hid (colsOf_ok hkinds hkl)
  have HCL := Lib.hid (colsOf_len kl)
  obtain ⟨cols, hcols⟩ : ∃ cols, cols = colsOf kl := ⟨_, rfl⟩
  rw [← hcols] at HC1 HOK HCL
  obtain ⟨m, hm⟩ : ∃ m, m = kl.length + 1 := ⟨_, rfl⟩
  rw [← hm] at HC1 HCL ⊢
  have HB1 := Lib.hid hb
  have hm6 : m ≤ 6 := by omega
  have hm0 : 0 < m := by omega
  clear hkl hkinds hown hb hcols hm
  have HC0 := Lib.hid (RdC.kept HC1.out (below_alloc w1 (.cells #[.slice ao m cap] 24)))
  have HBW := Lib.hid (below_lay HB1.out (.cells #[.slice ao m cap] 24))
  have HZ := Lib.hid (heap_alloc_new w1 (.cells #[.slice ao m cap] 24))
  go_wp2_with fail
  obtain ⟨X, hX⟩ : ∃ X, X = w1.heap.size := ⟨_, rfl⟩
  obtain ⟨W0, hW0⟩ : ∃ W0 : World, W0 = w1.alloc (.cells #[.slice ao m cap] 24) := ⟨_, rfl⟩
  rw [← hW0] at HC0 HBW HZ ⊢
  rw [← hX] at HZ ⊢
  clear hW0 hX
  refine (row_any (.slice ao m cap) cols a1 W0 HC0.out HOK.out.le).mono ?_
  rintro e w2 ⟨u1, l, rfl, hl1, ho1, hb1⟩
  obtain ⟨oa1, oc1, hu1⟩ := oinv_shape ho1
  have e1 : l.length = m := by rw [← List.length_map (f := Prod.fst), hl1, rowOf_len]; exact HCL.out
  rw [e1] at hu1
  subst hu1
  obtain ⟨bg, rfl⟩ : ∃ bg, oa1 = some ⟨bg, 0, none⟩ := by
    rcases ho1.own.2 with ⟨h, h2⟩ | ⟨g, cap', cur, h, _⟩
    · rw [e1] at h2; omega
    · cases h; exact ⟨_, rfl⟩
  have HLL := Lib.hid e1
  have HLR := Lib.hid hl1
  have HO := Lib.hid ho1
  have HB2 := Lib.hid hb1
  have hcx : w2.cell? ⟨X, 0, none⟩ = some (.slice ao m cap) := by rw [cell_of_row w2 X 0 _ _ _ ((hb1.block X ((Array.getElem?_eq_some_iff.1 HZ.out).1)).trans HZ.out)]; rfl
  obtain ⟨t0, ht0⟩ : ∃ t0, l[0]? = some t0 := ⟨_, List.getElem?_eq_getElem (by rw [e1]; exact hm0)⟩
  have HT0 := Lib.hid ht0
  have hp0 := ho1.rdP.at ht0
  clear hl1 ho1 hb1 e1 ht0
  have hl0 : (rowOf cols a1).length ≤ 1000000 := by rw [rowOf_len, HCL.out]; omega
  obtain ⟨b0, o0, hbo, q0, q1, q2, q3, ok0⟩ := hp0
  cases hbo
  simp only [Nat.zero_mul, Nat.add_zero, Nat.zero_add] at q0 q1 q2 q3
  obtain ⟨sa0, sc0, hs0⟩ := rd_shape8 ok0.1
  obtain ⟨⟨tu, tk, tn, tb⟩, ts⟩ := t0
  simp only at q0 q1 q2 q3 hs0
  subst hs0
  have HOK0 := Lib.hid ok0
  have HRX := fun w' (h : Below w2.heap.size w2 w') => Lib.hid (show RdRow w' (.slice (some ⟨bg, 0, none⟩) m oc1) (rowOf cols a1) from ⟨l, HLR.out, (HO.out.kept h).rdP⟩)
  have HCX := fun w' (h : Below w2.heap.size w2 w') => Lib.hid (RdC.kept (RdC.kept HC0.out HB2.out) h)
  have HF1 := fun w' (h : Below w2.heap.size w2 w') => Lib.hid (fitsRow_any (.slice ao m cap) _ cols _ w' (HCX w' h).out (HRX w' h).out (by rw [HCL.out]; omega) hl0)
  have HRY := fun w' (h : Below w2.heap.size w2 w') => Lib.hid (show RdRow w' (.slice (some ⟨bg, 0, none⟩) (m - 1) oc1) ((rowOf cols a1).take (m - 1)) from ⟨l.take (m - 1), by rw [List.map_take, HLR.out], ((HO.out.kept h).rdP).take (m - 1) (by rw [HLL.out]; omega)⟩)
  have HF2 := fun w' (h : Below w2.heap.size w2 w') => Lib.hid (fitsRow_any (.slice ao m cap) _ cols _ w' (HCX w' h).out (HRY w' h).out (by rw [HCL.out]; omega) (by rw [List.length_take]; omega))
  rw [fitsR_len cols ((rowOf cols a1).take (m - 1)) (by rw [List.length_take, rowOf_len, HCL.out]; omega)] at HF2
  have HKP := Lib.hid (show ∀ w' : World, Below w2.heap.size w2 w' → w'.cell? ⟨X, 0, none⟩ = some (.slice ao m cap) ∧ w'.cell? ⟨bg, 0, none⟩ = some (.bool tu) ∧ w'.cell? ⟨bg, 1, none⟩ = some (.int .i64 tk) ∧ w'.cell? ⟨bg, 2, none⟩ = some (.int .i64 tn) ∧ w'.cell? ⟨bg, 3, none⟩ = some (.slice sa0 tb.length sc0) ∧ Below w2.heap.size w2 w' from fun w' h =>
    ⟨(h.cell (World.block_lt_of_cell? _ _ hcx)).trans hcx, (h.cell (World.block_lt_of_cell? _ _ q0)).trans q0, (h.cell (World.block_lt_of_cell? _ _ q1)).trans q1, (h.cell (World.block_lt_of_cell? _ _ q2)).trans q2, (h.cell (World.block_lt_of_cell? _ _ q3)).trans q3, h⟩)
  rw [fitsR_rowOf HOK.out] at HF1
  clear hl0 ok0 hcx q0 q1 q2 q3
  go_wp2_with fail
  have hk0 := HKP.out _ (Below.refl _ _)
  obtain ⟨hcx, q0, q1, q2, q3, _⟩ := hk0
  have HF3 := fun (g c : Nat) (w' : World) (h : Below w2.heap.size w2 w') (ho : w'.ownsRow w2.heap.size 31 4 (.slice (some ⟨g, 0, none⟩) (m + 1) c) (m + 1) ((l.map cellsV).flatten ++ cellsV (⟨tu, tk, tn, tb⟩, .slice sa0 tb.length sc0))) =>
    Lib.hid (fitsRow_any (.slice ao m cap) (.slice (some ⟨g, 0, none⟩) (m + 1) c) cols (rowOf cols a1 ++ [⟨tu, tk, tn, tb⟩]) w' (HCX w' h).out
      ⟨l ++ [(⟨tu, tk, tn, tb⟩, .slice sa0 tb.length sc0)], by rw [List.map_append, HLR.out]; rfl, rdP_own (B := w2.heap.size) (E := 31) (n := m + 1) (by rw [List.map_append, List.flatten_append]; simpa using ho) (by rw [List.length_append, HLL.out]; rfl) fun t ht => by
        rcases List.mem_append.1 ht with h1 | h1
        · exact (HO.out.kept h).ok t h1
        · rw [List.mem_singleton.1 h1]; exact HOK0.out.kept h⟩ (by rw [HCL.out]; omega) (by rw [List.length_append, rowOf_len, HCL.out]; simp; omega))
  rw [fitsR_len cols (rowOf cols a1 ++ [Vc.mk tu tk tn tb]) (by rw [List.length_append, rowOf_len, HCL.out]; simp)] at HF3
  have HNW := fun w' (h : Below w2.heap.size w2 w') => Lib.hid (own_news (show w'.ownsRow W0.heap.size 31 4 (.slice (some ⟨bg, 0, none⟩) m oc1) m (l.map cellsV).flatten from by have := (HO.out.kept h).own; rw [HLL.out] at this; exact this) (by rw [cellsV_len, HLL.out]))
  have HONE := Lib.hid (cellsV_one l fun t ht => okV_one (HO.out.ok t ht))
  have HLN := Lib.hid (show (l.map cellsV).flatten.length = m * 4 by rw [cellsV_len, HLL.out])
  obtain ⟨i0, hi, hz0, hz1, hz2⟩ := info_parts infoVal
  have hS := Below.refl w2.heap.size w2
  have hm1 : IntKind.i64.wrap ((m : Int) - 1) = (m : Int) - 1 := IntWalk.i64_in _ (by omega)
  have hm2 : (0 : Int) ≤ (m : Int) - 1 := by omega
  have hm3 : (m : Int) - 1 ≤ (oc1 : Int) := by
    rcases HO.out.own.2 with ⟨h, _⟩ | ⟨g, cap', cur, h, _, _, r⟩
    · cases h
    · cases h
      have := r.1
      rw [HLL.out] at this
      omega
  have hm4 : ((m : Int) - 1).toNat = m - 1 := by omega
  have hm5 : (m : Int) - 1 ≤ (m : Int) := by omega
  have hm7 : (1 : Int) ≤ (m : Int) := by omega
  go_upto_region 5 with (fail)
  go_cut [43] (fun s wx => s = .bool false ∧ Below w2.heap.size w2 wx)
  case first =>
   set_option maxRecDepth 1000000 in
   go_region_held3 (fun w' => w'.cell? ⟨X, 0, none⟩ = some (.slice ao m cap) ∧ w'.cell? ⟨bg, 0, none⟩ = some (.bool tu) ∧ w'.cell? ⟨bg, 1, none⟩ = some (.int .i64 tk) ∧ w'.cell? ⟨bg, 2, none⟩ = some (.int .i64 tn) ∧ w'.cell? ⟨bg, 3, none⟩ = some (.slice sa0 tb.length sc0) ∧ Below w2.heap.size w2 w') (first | assumption | exact HKP.out _ (by assumption) | exact HKP.out _ (Below.trans (by assumption) (below_drw _ _)) | exact HKP.out _ (below_lay (by assumption) _) | exact HKP.out _ (below_lay (below_lay (by assumption) _) _))
    (first
      | (have hh7 := hS7; go_at_call 17; refine (HF3 _ _ _ hS7 hown7).out.mono ?_; rintro e w8 ⟨rfl, hb8⟩; have hS8 : Below w2.heap.size w2 w8 := below_then hS7 hb8)
      | (go_at_call_of 17 (Value.slice (some ⟨bg, 0, none⟩) m oc1); refine (HF1 _ (by first | assumption | exact Below.trans (by assumption) (below_drw _ _))).out.mono ?_; rintro e w3 ⟨rfl, hb3⟩; have hS3 : Below w2.heap.size w2 w3 := below_then (by first | assumption | exact Below.trans (by assumption) (below_drw _ _)) hb3)
      | (have hh3 := hS3; go_at_call 17; refine (HF2 _ (by first | assumption | exact Below.trans (by assumption) (below_drw _ _))).out.mono ?_; rintro e w4 ⟨rfl, hb4⟩; have hS4 : Below w2.heap.size w2 w4 := below_then (by first | assumption | exact Below.trans (by assumption) (below_drw _ _)) hb4)
      | (have hh6 := hS9; refine step_append_liesG (by first | rfl | simp) _ _ _ (by rfl) w2.heap.size 31 i0 _ 4 48 Try.underlying26 hi hz0 hz1 hz2 rfl (by decide) (.slice (some ⟨g1, 0, none⟩) m cap1) m (l.map cellsV).flatten (by rfl) hown5 ⟨w4.heap.size, 0, none⟩ 1 1 (cellsV (⟨tu, tk, tn, tb⟩, .slice sa0 tb.length sc0)) (by rfl) (by rfl) (World.news_of_block (cs := #[.bool tu, .int .i64 tk, .int .i64 tn, .slice sa0 tb.length sc0]) (t := 31) (fr := (0, 0)) hlit5) (by simp [cellsV, Value.oneCell']) (by decide) (by unfold maxLen; omega) (by omega) hS9.size w5.heap.size rfl (m + 1) rfl _ rfl ?_; intro g2 cap2 w7 hown7 hgrow7 hat7 hlt7; have hS7 : Below w2.heap.size w2 w7 := hS9.grown hgrow7 hS9.size (own_base hown5); clear hgrow7)
      | (have hh6 := hS6; refine step_append_liesG (by first | rfl | simp) _ _ _ (by rfl) w2.heap.size 31 i0 _ 4 48 Try.underlying26 hi hz0 hz1 hz2 rfl (by decide) (.slice (some ⟨g1, 0, none⟩) m cap1) m (l.map cellsV).flatten (by rfl) hown5 ⟨w4.heap.size + 1, 0, none⟩ 1 1 (cellsV (⟨tu, tk, tn, tb⟩, .slice sa0 tb.length sc0)) (by rfl) (by rfl) (World.news_of_block (cs := #[.bool tu, .int .i64 tk, .int .i64 tn, .slice sa0 tb.length sc0]) (t := 31) (fr := (0, 0)) hlit5) (by simp [cellsV, Value.oneCell']) (by decide) (by unfold maxLen; omega) (by omega) hS6.size w5.heap.size rfl (m + 1) rfl _ rfl ?_; intro g2 cap2 w7 hown7 hgrow7 hat7 hlt7; have hS7 : Below w2.heap.size w2 w7 := hS6.grown hgrow7 hS6.size (own_base hown5); clear hgrow7)
      | (have hh5 := hS5; refine step_append_liesG (by first | rfl | simp) _ _ _ (by rfl) w2.heap.size 31 i0 _ 4 48 Try.underlying26 hi hz0 hz1 hz2 rfl (by decide) (.slice (some ⟨g1, 0, none⟩) m cap1) m (l.map cellsV).flatten (by rfl) (hown5.kept (World.grownBy_alloc w5 _ none) (by first | exact .inr (by simp [Value.ownBlock]) | simp [Value.ownBlock])) ⟨w5.heap.size, 0, none⟩ 1 1 (cellsV (⟨tu, tk, tn, tb⟩, .slice sa0 tb.length sc0)) (by rfl) (by rfl) (World.news_of_block (cs := #[.bool tu, .int .i64 tk, .int .i64 tn, .slice sa0 tb.length sc0]) (t := 31) (fr := (0, 0)) (heap_alloc_new w5 _)) (by simp [cellsV, Value.oneCell']) (by decide) (by unfold maxLen; omega) (by omega) (below_lay hS5 _).size (w5.heap.size + 1) (by simp) (m + 1) rfl _ rfl ?_; intro g2 cap2 w7 hown7 hgrow7 hat7 hlt7; have hS7 : Below w2.heap.size w2 w7 := (below_lay hS5 _).grown hgrow7 (below_lay hS5 _).size (own_base hown5); clear hgrow7)
      | (refine step_append_liesG (w := (w4.alloc (.cells #[.bool tu, .int .i64 tk, .int .i64 tn, .slice sa0 tb.length sc0] 31)).alloc (.cells #[] 31)) (by first | rfl | simp) _ _ _ (by rfl) w2.heap.size 31 i0 _ 4 48 Try.underlying26 hi hz0 hz1 hz2 rfl (by decide) (.slice (some ⟨w4.heap.size + 1, 0, none⟩) 0 0) 0 [] (by rfl) (by have := World.ownsRow_lit (base := w2.heap.size) (size := 4) (e := 31) (w4.alloc (.cells #[.bool tu, .int .i64 tk, .int .i64 tn, .slice sa0 tb.length sc0] 31)) #[] 0 (below_lay hS4 _).size (by decide) rfl; rw [show (w4.alloc (.cells #[.bool tu, .int .i64 tk, .int .i64 tn, .slice sa0 tb.length sc0] 31)).heap.size = w4.heap.size + 1 by simp] at this; exact this) ⟨bg, 0, none⟩ m oc1 (l.map cellsV).flatten (by rfl) HLN.out (HNW _ (below_lay (below_lay hS4 _) _)).out HONE.out hm0 (by unfold maxLen; omega) (by omega) (below_lay (below_lay hS4 _) _).size (w4.heap.size + 1 + 1) (by simp) m (by omega) _ (List.nil_append _) ?_; intro g1 cap1 w5 hown5 hgrow5 hat5 hlt5; have hS9 : Below w2.heap.size w2 w5 := (below_lay (below_lay hS4 _) _).grown hgrow5 (below_lay (below_lay hS4 _) _).size (fun k hk => by cases hk; exact Nat.le_succ_of_le hS4.size); have hlit5 : w5.heap[w4.heap.size]? = some (.cells #[.bool tu, .int .i64 tk, .int .i64 tn, .slice sa0 tb.length sc0] 31 (0, 0)) := (hgrow5.block w4.heap.size (by simp; try omega) (by simp [Value.ownBlock])).trans ((heap_alloc_old _ _ (by simp)).trans (heap_alloc_new w4 _)); clear hgrow5)
      | (refine step_append_liesG (w := (w4.alloc (.cells #[] 31)).alloc (.cells #[.bool tu, .int .i64 tk, .int .i64 tn, .slice sa0 tb.length sc0] 31)) (by first | rfl | simp) _ _ _ (by rfl) w2.heap.size 31 i0 _ 4 48 Try.underlying26 hi hz0 hz1 hz2 rfl (by decide) (.slice (some ⟨w4.heap.size, 0, none⟩) 0 0) 0 [] (by rfl) ((World.ownsRow_lit w4 #[] 0 hS4.size (by decide) rfl).kept (World.grownBy_alloc _ _ none) (by first | exact .inr (by simp [Value.ownBlock]) | simp [Value.ownBlock])) ⟨bg, 0, none⟩ m oc1 (l.map cellsV).flatten (by rfl) HLN.out (HNW _ (below_lay (below_lay hS4 _) _)).out HONE.out hm0 (by unfold maxLen; omega) (by omega) (below_lay (below_lay hS4 _) _).size (w4.heap.size + 1 + 1) (by simp) m (by omega) _ (List.nil_append _) ?_; intro g1 cap1 w5 hown5 hgrow5 hat5 hlt5; have hS6 : Below w2.heap.size w2 w5 := (below_lay (below_lay hS4 _) _).grown hgrow5 (below_lay (below_lay hS4 _) _).size (fun k hk => by cases hk; exact hS4.size); have hlit5 : w5.heap[w4.heap.size + 1]? = some (.cells #[.bool tu, .int .i64 tk, .int .i64 tn, .slice sa0 tb.length sc0] 31 (0, 0)) := (hgrow5.block (w4.heap.size + 1) (by simp) (by simp [Value.ownBlock])).trans (heap2 w4 _ _); clear hgrow5)
      | (refine step_append_liesG (by first | rfl | simp) _ _ _ (by rfl) w2.heap.size 31 i0 _ 4 48 Try.underlying26 hi hz0 hz1 hz2 rfl (by decide) (.slice (some ⟨w4.heap.size, 0, none⟩) 0 0) 0 [] (by rfl) (World.ownsRow_lit w4 #[] 0 hS4.size (by decide) rfl) ⟨bg, 0, none⟩ m oc1 (l.map cellsV).flatten (by rfl) HLN.out (HNW _ (below_lay hS4 _)).out HONE.out hm0 (by unfold maxLen; omega) (by omega) (below_lay hS4 _).size (w4.heap.size + 1) (by simp) m (by omega) _ (List.nil_append _) ?_; intro g1 cap1 w5 hown5 hgrow5 hat5 hlt5; have hS5 : Below w2.heap.size w2 w5 := (below_lay hS4 _).grown hgrow5 (below_lay hS4 _).size (fun k hk => by cases hk; exact hS4.size); clear hgrow5)
      | fail)
   all_goals
     go_wp2_with fail
     go_meet
     exact ⟨rfl, hS8⟩
  case rest =>
   obtain ⟨rfl, hS8⟩ := hcut
   clear hm1 hm2 hm3 hm4 hm5 hm7 hS hcx q0 q1 q2 q3 HF1 HF2 HF3 HRX HRY
   obtain ⟨c, hc, hc1⟩ := and_some a2 255 255 rfl (by decide)
   have HM : (c : Int).tmod (m : Int) = ((c % m : Nat) : Int) := by rw [Int.tmod_eq_emod_of_nonneg (by omega)]; exact (Int.natCast_emod c m).symm
   have hcm : c % m < m := Nat.mod_lt _ hm0
   obtain ⟨k, hk⟩ : ∃ k, k = c % m := ⟨_, rfl⟩
   rw [← hk] at HM hcm
   clear hk
   go_upto_region 6 with (fail)
   go_cut [12] (fun s wx => ∃ gy capy, s = .slice (some ⟨gy, 0, none⟩) m capy ∧ OInv w2 l (.slice (some ⟨gy, 0, none⟩) m capy) wx ∧ w2.heap.size ≤ gy ∧ Below w2.heap.size w2 wx)
   case first =>
     go_wp2_with (at_builtin; go_must (refine wpList_append_lies _ rfl _ _ 26 rfl _ 31 i0 _ 4 48 Try.underlying26 hi hz0 hz1 hz2 rfl (by decide) (.slice (some ⟨wc.heap.size, 0, none⟩) 0 0) 0 [] (by rfl) (World.ownsRow_lit wc #[] 0 hS8.size (by decide) rfl) ⟨bg, 0, none⟩ m oc1 (l.map cellsV).flatten (by rfl) HLN.out (HNW _ (below_lay hS8 _)).out HONE.out hm0 (by unfold maxLen; omega) (by omega) (below_lay hS8 _).size (wc.heap.size + 1) (by simp) ?_); intro gy capy wy hownY hgrowY hatY hltY)
     go_wp2_with fail
     go_meet
     rw [Nat.zero_add, List.nil_append] at hownY
     have hgy : wc.heap.size ≤ gy := by
       rcases hatY with h | h
       · have : wc.heap.size = gy := by simpa [Value.ownBlock] using h
         omega
       · omega
     have hSY : Below w2.heap.size w2 wy := (below_lay hS8 _).grown hgrowY (below_lay hS8 _).size (fun k hk => by cases hk; exact hS8.size)
     have hcy : Below wc.heap.size wc wy := (below_alloc wc _).grown hgrowY (by simp) (fun k hk => by cases hk; exact Nat.le_refl _)
     have HY := Lib.hid (show OInv w2 l (.slice (some ⟨gy, 0, none⟩) m capy) wy from ⟨by rw [HLL.out]; exact hownY, (HO.out.kept hSY).ok, fun t ht g hg hb a n c he => by
       have h1 := okV_lt ((HO.out.kept hS8).ok t ht) hb a n c he
       have : gy = g := by simpa [Value.ownBlock] using hg
       omega⟩)
     exact ⟨gy, capy, by simp, HY.out, Nat.le_trans hS8.size hgy, hSY⟩
   case rest =>
    obtain ⟨gy, capy, rfl, hY, hgY, hSY⟩ := hcut
    have HY := Lib.hid hY
    have HGY := Lib.hid hgY
    have hltY := own_lt hY.own gy rfl
    have HLT := Lib.hid hltY
    have HSY := Lib.hid hSY
    clear hY hgY
    obtain ⟨t, ht⟩ : ∃ t, l[k]? = some t := ⟨_, List.getElem?_eq_getElem (by rw [HLL.out]; exact hcm)⟩
    obtain ⟨ck, hck⟩ : ∃ ck, cols[k]? = some ck := ⟨_, List.getElem?_eq_getElem (by rw [HCL.out]; exact hcm)⟩
    have hkk : t.1.k = ck.k := by
      have m1 := map_at ht
      rw [HLR.out] at m1
      have h1 := congrArg (fun l : List Int => l[k]?) (rowOf_kinds cols HOK.out a1)
      simp only [List.getElem?_map, m1, hck, Option.map_some, Option.some.injEq] at h1
      exact h1
    have HKC := Lib.hid (HOK.out.ks ck (List.mem_of_getElem? hck))
    obtain ⟨bk, ok, hbk, _, p1, _, _, _⟩ := ((HO.out.kept hSY).rdP).at ht
    cases hbk
    rw [hkk] at p1
    obtain ⟨bc, oc, rfl, _, _, s2⟩ := (HCX _ hSY).out.at hck
    have zx : wc.cell? ⟨X, 0, none⟩ = some (.slice (some ⟨bc, oc, none⟩) m cap) := (HKP.out _ hSY).1
    have hy4 : ∀ j, j < 4 → ∃ u, wc.cell? ⟨gy, k * 4 + j, none⟩ = some u := fun j hj => by
      have hl := HLN.out
      have hlt2 : k * 4 + j < ((l.map cellsV).flatten).length := by omega
      have ho := HY.out.own
      rw [HLL.out] at ho
      exact ⟨_, (ho.cellAt (k * 4 + j) (by omega)).trans (List.getElem?_eq_getElem hlt2)⟩
    obtain ⟨u0, c0⟩ := hy4 0 (by decide)
    obtain ⟨u1, c1⟩ := hy4 1 (by decide)
    obtain ⟨u2, c2⟩ := hy4 2 (by decide)
    obtain ⟨u3, c3⟩ := hy4 3 (by decide)
    have hfz : ∀ j, wc.frozen? ⟨gy, k * 4 + j, none⟩ = false := fun j => by
      have ho := HY.out.own
      rw [HLL.out] at ho
      exact ho.frozenAt (k * 4 + j)
    have f0 := hfz 0
    have f1 := hfz 1
    have f2 := hfz 2
    have f3 := hfz 3
    simp only [Nat.add_zero, Nat.zero_add] at c0 f0 p1
    clear hy4 hfz hSY
    have HCK := Lib.hid hck
    have HKL := Lib.hid (show k < l.length by rw [HLL.out]; exact hcm)
    clear ht hck hkk hltY
    obtain ⟨d, hd, hd1⟩ := and_some a3 7 7 rfl (by decide)
    have hcols := HCK.out
    have HEND := fun (v : Vc) (ts : Value) (wq : World) (b : Bool) (h1 : fitsT ck v = b) (h2 : OInv w2 (l.set k (v, ts)) (.slice (some ⟨gy, 0, none⟩) m capy) wq) (h3 : Below w2.heap.size w2 wq) =>
      Lib.hid (show Calls Try.prog 17 #[.agg #[.slice (some ⟨bc, oc, none⟩) m cap], .slice (some ⟨gy, 0, none⟩) m capy] wq fun e w' => e = .returned (.bool b) ∧ Below wq.heap.size wq w' from by
        have hf := fitsRow_any (.slice (some ⟨bc, oc, none⟩) m cap) (.slice (some ⟨gy, 0, none⟩) m capy) cols ((rowOf cols a1).set k v) wq (HCX wq h3).out ⟨l.set k (v, ts), by rw [List.map_set, HLR.out], h2.rdP⟩ (by rw [HCL.out]; omega) (by rw [List.length_set, rowOf_len, HCL.out]; omega)
        rw [fitsR_set _ _ k ck v (fitsR_rowOf HOK.out a1) HCK.out, h1] at hf
        exact hf)
    clear hcols
    obtain ⟨r0, r1, r2, r3, r4, r5, r6, r7⟩ := turn_fits ck HKC.out
    have w3 : IntKind.i64.wrap (3 - ck.k) = 3 - ck.k := by rcases HKC.out with h | h <;> rw [h] <;> rfl
    have HS4 := fun (v : Vc) (ts : Value) (wq : World) (h : OInv w2 l (.slice (some ⟨gy, 0, none⟩) m capy) wq) (hq : Below w2.heap.size w2 wq) (ho : OkV wq (v, ts)) (hf : FarV gy (v, ts)) =>
      And.intro (h.set HLL.out HKL.out ho hf) ((((hq.setCell (p := ⟨gy, k * 4, none⟩) HGY.out (.bool v.u)).setCell (p := ⟨gy, k * 4 + 1, none⟩) HGY.out (.int .i64 v.k)).setCell (p := ⟨gy, k * 4 + 2, none⟩) HGY.out (.int .i64 v.n)).setCell (p := ⟨gy, k * 4 + 3, none⟩) HGY.out ts)
    have HBB := Lib.hid (below_then (below_then HBW.out HB2.out) HSY.out)
    have zxx : ∀ v0 v1 v2 v3 : Value, ((((wc.setCell ⟨gy, k * 4, none⟩ v0).setCell ⟨gy, k * 4 + 1, none⟩ v1).setCell ⟨gy, k * 4 + 2, none⟩ v2).setCell ⟨gy, k * 4 + 3, none⟩ v3).cell? ⟨X, 0, none⟩ = some (.slice (some ⟨bc, oc, none⟩) m cap) := fun v0 v1 v2 v3 =>
      (HKP.out _ ((((HSY.out.setCell (p := ⟨gy, k * 4, none⟩) HGY.out v0).setCell (p := ⟨gy, k * 4 + 1, none⟩) HGY.out v1).setCell (p := ⟨gy, k * 4 + 2, none⟩) HGY.out v2).setCell (p := ⟨gy, k * 4 + 3, none⟩) HGY.out v3)).1
    have HB4 := fun (wq : World) (hq : Below w2.heap.size w2 wq) (v0 v1 v2 v3 : Value) => (((hq.setCell (p := ⟨gy, k * 4, none⟩) HGY.out v0).setCell (p := ⟨gy, k * 4 + 1, none⟩) HGY.out v1).setCell (p := ⟨gy, k * 4 + 2, none⟩) HGY.out v2).setCell (p := ⟨gy, k * 4 + 3, none⟩) HGY.out v3
    have zxo : ∀ (o : Obj) (v0 v1 v2 v3 : Value), (((((wc.alloc o).setCell ⟨gy, k * 4, none⟩ v0).setCell ⟨gy, k * 4 + 1, none⟩ v1).setCell ⟨gy, k * 4 + 2, none⟩ v2).setCell ⟨gy, k * 4 + 3, none⟩ v3).cell? ⟨X, 0, none⟩ = some (.slice (some ⟨bc, oc, none⟩) m cap) := fun o v0 v1 v2 v3 =>
      (HKP.out _ (HB4 (wc.alloc o) (below_lay HSY.out o) v0 v1 v2 v3)).1
    have sxx : ∀ (v0 v1 v2 v3 : Value), ((((wc.setCell ⟨gy, k * 4, none⟩ v0).setCell ⟨gy, k * 4 + 1, none⟩ v1).setCell ⟨gy, k * 4 + 2, none⟩ v2).setCell ⟨gy, k * 4 + 3, none⟩ v3).cell? ⟨bc, oc + k * 3 + 2, none⟩ = some (.bool ck.u) := fun v0 v1 v2 v3 => by
      obtain ⟨b', o', hb', _, _, h2⟩ := (HCX _ (HB4 wc HSY.out v0 v1 v2 v3)).out.at HCK.out
      cases hb'
      exact h2
    have cao := fun o => Lib.cell?_alloc_some (W := wc) o c0
    have cbo := fun o => Lib.cell?_alloc_some (W := wc) o c1
    have cco := fun o => Lib.cell?_alloc_some (W := wc) o c2
    have cdo := fun o => Lib.cell?_alloc_some (W := wc) o c3
    have hfr : ∀ (cs : Array Value) (T : TypeId) j, (wc.alloc (.cells cs T)).frozen? ⟨gy, k * 4 + j, none⟩ = wc.frozen? ⟨gy, k * 4 + j, none⟩ := fun cs T j => frozen?_alloc_cells _ _ _ _
    have fao := fun cs T => (hfr cs T 0).trans f0
    have fbo := fun cs T => (hfr cs T 1).trans f1
    have fco := fun cs T => (hfr cs T 2).trans f2
    have fdo := fun cs T => (hfr cs T 3).trans f3
    simp only [Nat.add_zero] at fao
    clear hfr HB4
    obtain rfl | rfl | rfl | rfl | rfl | rfl | rfl | rfl : d = 0 ∨ d = 1 ∨ d = 2 ∨ d = 3 ∨ d = 4 ∨ d = 5 ∨ d = 6 ∨ d = 7 := by omega
    · obtain ⟨h1, h2⟩ := HS4 ⟨false, 3 - ck.k, 0, []⟩ (.slice none 0 0) wc HY.out HSY.out ⟨Rd.nil _, fun x hx => by cases hx⟩ (fun hb => absurd rfl hb)
      have HE := HEND _ _ _ _ r0 h1 h2
      have HW := Lib.hid (below_then (HB2.out |> below_then HBW.out) h2)
      clear h1 h2
      simp only at HE HW
      go_wp2_with fail
      refine HE.out.mono ?_
      rintro e w9 ⟨rfl, hb9⟩
      have HB9 := Lib.hid (below_then HW.out hb9)
      clear hb9
      go_wp2_with fail
      refine (awake6_any _).mono ?_
      rintro e wz ⟨rfl, hbz⟩
      have HBZ := Lib.hid (below_then HB9.out hbz)
      clear hbz
      go_wp2_with fail
      go_ret
      exact ⟨rfl, HBZ.out⟩
    · obtain ⟨h1, h2⟩ := HS4 ⟨false, 0, 0, []⟩ (.slice none 0 0) wc HY.out HSY.out ⟨Rd.nil _, fun x hx => by cases hx⟩ (fun hb => absurd rfl hb)
      have HE := HEND _ _ _ _ r1 h1 h2
      have HW := Lib.hid (below_then (HB2.out |> below_then HBW.out) h2)
      clear h1 h2
      simp only at HE HW
      go_wp2_with fail
      refine HE.out.mono ?_
      rintro e w9 ⟨rfl, hb9⟩
      have HB9 := Lib.hid (below_then HW.out hb9)
      clear hb9
      go_wp2_with fail
      refine (awake6_any _).mono ?_
      rintro e wz ⟨rfl, hbz⟩
      have HBZ := Lib.hid (below_then HB9.out hbz)
      clear hbz
      go_wp2_with fail
      go_ret
      exact ⟨rfl, HBZ.out⟩
    · obtain ⟨h1, h2⟩ := HS4 ⟨true, ck.k, 0, []⟩ (.slice none 0 0) wc HY.out HSY.out ⟨Rd.nil _, fun x hx => by cases hx⟩ (fun hb => absurd rfl hb)
      have HE := HEND _ _ _ _ r2 h1 h2
      have HW := Lib.hid (below_then (HB2.out |> below_then HBW.out) h2)
      clear h1 h2
      simp only at HE HW
      go_wp2_with fail
      refine HE.out.mono ?_
      rintro e w9 ⟨rfl, hb9⟩
      have HB9 := Lib.hid (below_then HW.out hb9)
      clear hb9
      go_wp2_with fail
      refine (awake6_any _).mono ?_
      rintro e wz ⟨rfl, hbz⟩
      have HBZ := Lib.hid (below_then HB9.out hbz)
      clear hbz
      go_wp2_with fail
      go_ret
      exact ⟨rfl, HBZ.out⟩
    · obtain ⟨h1, h2⟩ := HS4 ⟨true, ck.k, 1, []⟩ (.slice none 0 0) wc HY.out HSY.out ⟨Rd.nil _, fun x hx => by cases hx⟩ (fun hb => absurd rfl hb)
      have HE := HEND _ _ _ _ r3 h1 h2
      have HW := Lib.hid (below_then (HB2.out |> below_then HBW.out) h2)
      clear h1 h2
      simp only at HE HW
      go_wp2_with fail
      refine HE.out.mono ?_
      rintro e w9 ⟨rfl, hb9⟩
      have HB9 := Lib.hid (below_then HW.out hb9)
      clear hb9
      go_wp2_with fail
      refine (awake6_any _).mono ?_
      rintro e wz ⟨rfl, hbz⟩
      have HBZ := Lib.hid (below_then HB9.out hbz)
      clear hbz
      go_wp2_with fail
      go_ret
      exact ⟨rfl, HBZ.out⟩
    · obtain ⟨h1, h2⟩ := HS4 ⟨false, 1, 5, [1]⟩ (.slice (some ⟨wc.heap.size, 0, none⟩) 1 1) (wc.alloc (.cells #[.int .u8 1] 5)) (HY.out.kept (below_alloc wc _)) (below_lay HSY.out _) ⟨rd_lit wc #[.int .u8 1] 5 1 _ rfl rfl (by decide), fun x hx => by simp at hx; omega⟩ (fun _ a n' c' he => by cases he; have := HLT.out; show wc.heap.size ≠ gy; omega)
      have HE := HEND _ _ _ _ r4 h1 h2
      have HW := Lib.hid (below_then (HB2.out |> below_then HBW.out) h2)
      clear h1 h2
      simp only at HE HW
      go_wp2_with fail
      refine HE.out.mono ?_
      rintro e w9 ⟨rfl, hb9⟩
      have HB9 := Lib.hid (below_then HW.out hb9)
      clear hb9
      go_wp2_with fail
      refine (awake6_any _).mono ?_
      rintro e wz ⟨rfl, hbz⟩
      have HBZ := Lib.hid (below_then HB9.out hbz)
      clear hbz
      go_wp2_with fail
      go_ret
      exact ⟨rfl, HBZ.out⟩
    · obtain ⟨h1, h2⟩ := HS4 ⟨false, 2, 5, []⟩ (.slice none 0 0) wc HY.out HSY.out ⟨Rd.nil _, fun x hx => by cases hx⟩ (fun hb => absurd rfl hb)
      have HE := HEND _ _ _ _ r5 h1 h2
      have HW := Lib.hid (below_then (HB2.out |> below_then HBW.out) h2)
      clear h1 h2
      simp only at HE HW
      go_wp2_with fail
      refine HE.out.mono ?_
      rintro e w9 ⟨rfl, hb9⟩
      have HB9 := Lib.hid (below_then HW.out hb9)
      clear hb9
      go_wp2_with fail
      refine (awake6_any _).mono ?_
      rintro e wz ⟨rfl, hbz⟩
      have HBZ := Lib.hid (below_then HB9.out hbz)
      clear hbz
      go_wp2_with fail
      go_ret
      exact ⟨rfl, HBZ.out⟩
    · obtain ⟨j0, hj, hj0, hj1, hj2⟩ := info_parts info8v
      have hmk := run_makeSlice (P := Try.prog) (w := wc) 29 5 j0 (.int .u8 0) Try.underlying29 hj hj0 .i64 .i64 65 65 (by decide) (by decide) (by rw [hj1]; decide) (by rw [hj2]; decide) (by decide)
      rw [hj1] at hmk
      simp only [show (65 : Int).toNat = 65 from rfl, Nat.mul_one] at hmk
      obtain ⟨MC, hMC⟩ : ∃ MC, MC = madeCells (Value.int .u8 0).cells 65 := ⟨_, rfl⟩
      rw [← hMC] at hmk
      have hML : MC.toList = (List.replicate 65 0).map u8v := by rw [hMC]; exact made65 65
      clear hMC hj hj0 hj1 hj2
      obtain ⟨h1, h2⟩ := HS4 ⟨false, 2, 0, List.replicate 65 0⟩ (.slice (some ⟨wc.heap.size, 0, none⟩) 65 65) (wc.alloc (.cells MC 5)) (HY.out.kept (below_alloc wc _)) (below_lay HSY.out _) ⟨rd_lit wc MC 5 65 _ hML rfl (by decide), fun x hx => by rw [List.eq_of_mem_replicate hx]; decide⟩ (fun _ a n' c' he => by cases he; have := HLT.out; show wc.heap.size ≠ gy; omega)
      have HE := HEND _ _ _ _ r6 h1 h2
      have HW := Lib.hid (below_then (HB2.out |> below_then HBW.out) h2)
      clear h1 h2
      simp only at HE HW
      go_wp2_with fail
      refine HE.out.mono ?_
      rintro e w9 ⟨rfl, hb9⟩
      have HB9 := Lib.hid (below_then HW.out hb9)
      clear hb9
      go_wp2_with fail
      refine (awake6_any _).mono ?_
      rintro e wz ⟨rfl, hbz⟩
      have HBZ := Lib.hid (below_then HB9.out hbz)
      clear hbz
      go_wp2_with fail
      go_ret
      exact ⟨rfl, HBZ.out⟩
    · obtain ⟨h1, h2⟩ := HS4 ⟨false, ck.k, 0, []⟩ (.slice none 0 0) wc HY.out HSY.out ⟨Rd.nil _, fun x hx => by cases hx⟩ (fun hb => absurd rfl hb)
      have HE := HEND _ _ _ _ r7 h1 h2
      have HW := Lib.hid (below_then (HB2.out |> below_then HBW.out) h2)
      clear h1 h2
      simp only at HE HW
      go_wp2_with fail
      refine HE.out.mono ?_
      rintro e w9 ⟨rfl, hb9⟩
      have HB9 := Lib.hid (below_then HW.out hb9)
      clear hb9
      go_wp2_with fail
      refine (awake6_any _).mono ?_
      rintro e wz ⟨rfl, hbz⟩
      have HBZ := Lib.hid (below_then HB9.out hbz)
      clear hbz
      go_wp2_with fail
      go_ret
      exact ⟨rfl, HBZ.out⟩

end Go.Proofs.Ytlkjdclhgmkndaa
