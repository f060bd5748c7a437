/-
  Contract of expr.Program; the walk of ExprMany.
-/
import Derived.Test.YtfmkalnnpddefaaExop
import Derived.Test.YtfmkalnnpddefaaAppk
import Derived.Test.YtfmkalnnpddefaaAwake15
namespace Go.Proofs.Ytfmkalnnpddefaa
set_option linter.unusedVariables false
set_option linter.unusedSimpArgs false
open Go.RowKit

def opC (k : Int) : List Value := [.int .i64 k, .slice none 0 0, .int .i64 1, .int .i64 0, .int .i64 0, .bool false, .int .i64 0, .int .i64 0, .slice none 0 0, .slice none 0 0, .slice none 0 0, .slice none 0 0, .int .i64 0, .slice none 0 0]
def okP (ks : List Int) : Bool := decide (ks.length ≤ 16) && ks.all (fun k => k == 3)
theorem infoOp : (Try.prog.info? 54).map (fun i => (i.zero, i.size, i.bytes)) = some (some (.agg #[.int .i64 0, .slice none 0 0, .int .i64 0, .int .i64 0, .int .i64 0, .bool false, .int .i64 0, .int .i64 0, .slice none 0 0, .slice none 0 0, .slice none 0 0, .slice none 0 0, .int .i64 0, .slice none 0 0]), 14, 208) := by kernel_rfl
theorem elmOp : Elm Try.prog 49 54 14 208 := by
  have hi0 : ∃ i, Try.prog.info? 54 = some i ∧ i.zero = some (.agg #[.int .i64 0, .slice none 0 0, .int .i64 0, .int .i64 0, .int .i64 0, .bool false, .int .i64 0, .int .i64 0, .slice none 0 0, .slice none 0 0, .slice none 0 0, .slice none 0 0, .int .i64 0, .slice none 0 0]) ∧ i.size = 14 ∧ i.bytes = 208 := by
    have h := infoOp
    cases hq : Try.prog.info? 54 with
    | none => rw [hq] at h; cases h
    | some i =>
      rw [hq] at h
      simp only [Option.map_some, Option.some.injEq, Prod.mk.injEq] at h
      exact ⟨i, rfl, h⟩
  obtain ⟨i, h1, h2, h3, h4⟩ := hi0
  exact ⟨Try.underlying49, ⟨i, _, h1, h2, h3, h4, rfl⟩, by decide, by decide⟩
theorem flatten_set (sz : Nat) : ∀ (css : List (List Value)), (∀ t ∈ css, t.length = sz) → ∀ (j i : Nat) (t : List Value) (v : Value), css[j]? = some t → i < sz → css.flatten.set (j * sz + i) v = (css.set j (t.set i v)).flatten
  | [], _, j, i, t, v, h, _ => by simp at h
  | x :: r, hl, 0, i, t, v, h, hi => by
    simp only [List.getElem?_cons_zero, Option.some.injEq] at h
    subst h
    have hx := hl x List.mem_cons_self
    rw [List.flatten_cons, Nat.zero_mul, Nat.zero_add, List.set_append, if_pos (by rw [hx]; exact hi), List.set_cons_zero, List.flatten_cons]
  | x :: r, hl, j + 1, i, t, v, h, hi => by
    rw [List.getElem?_cons_succ] at h
    have hx := hl x List.mem_cons_self
    rw [List.flatten_cons, List.set_append, if_neg (by rw [hx, Nat.add_mul]; omega), hx, show (j + 1) * sz + i - sz = j * sz + i by rw [Nat.add_mul]; omega, flatten_set sz r (fun t ht => hl t (List.mem_cons_of_mem _ ht)) j i t v h hi, List.set_cons_succ, List.flatten_cons]
theorem opC_len (ks : List Int) : ∀ t ∈ ks.map opC, t.length = 14 := fun t ht => by obtain ⟨k, _, rfl⟩ := List.mem_map.1 ht; rfl
theorem ks_set (ks : List Int) (j : Nat) (hj : j < ks.length) (k : Int) : ((ks.map opC).flatten).set (j * 14) (.int .i64 k) = ((ks.set j k).map opC).flatten := by
  have h := flatten_set 14 (ks.map opC) (opC_len ks) j 0 (opC ks[j]) (.int .i64 k) (by rw [List.getElem?_map, List.getElem?_eq_getElem hj]; rfl) (by decide)
  rw [Nat.add_zero] at h
  rw [h, List.map_set]
  rfl
theorem okP_rep (c : Nat) : okP (List.replicate c 3) = decide (c ≤ 16) := by
  unfold okP
  rw [List.length_replicate, List.all_eq_true.2 (fun x hx => by rw [(List.mem_replicate.1 hx).2]; rfl), Bool.and_true]
theorem okP_bad (c j : Nat) (hj : j < c) : okP ((List.replicate c 3).set j 99) = false := by
  unfold okP
  rw [Bool.and_eq_false_iff]
  right
  rw [List.all_eq_false]
  exact ⟨99, List.mem_of_getElem? (i := j) (by rw [List.getElem?_set_self (by rw [List.length_replicate]; exact hj)]), by decide⟩

set_option maxRecDepth 100000 in
set_option maxHeartbeats 8000000 in
theorem prog_any (n : Int) (sv v : Value) (ks : List Int) (hk : ∀ k ∈ ks, k = 3 ∨ k = 99) (hl : ks.length ≤ 31) (w : World) (hv : RdC w sv (colsN n)) (hr : RdS w 14 v (ks.map opC)) :
    Calls Try.prog 30 #[.agg #[sv], v] w fun e w' => e = .returned (.bool (okP ks)) ∧ Below w.heap.size w w' := by
  obtain ⟨so, sc, rfl⟩ := rdC_shape hv
  obtain ⟨va, vc, rfl⟩ := rdS_shape hr
  rw [List.length_map] at hr ⊢
  obtain ⟨sn, hsn⟩ : ∃ sn, sn = (colsN n).length := ⟨_, rfl⟩
  rw [← hsn] at hv ⊢
  clear hsn
  obtain ⟨m, hm⟩ : ∃ m, m = ks.length := ⟨_, rfl⟩
  rw [← hm] at hr hl ⊢
  have HM := Lib.hid hm
  obtain ⟨ok, hok⟩ : ∃ ok, ok = okP ks := ⟨_, rfl⟩
  rw [← hok]
  have HOK := Lib.hid hok
  have HV := Lib.hid (RdC.kept hv (below_alloc w (.cells #[.slice so sn sc] 24)))
  have HR := Lib.hid (hr.kept (below_alloc w (.cells #[.slice so sn sc] 24)))
  have HK := Lib.hid hk
  have HW := Lib.hid (below_alloc w (.cells #[.slice so sn sc] 24))
  have hsb := heap_alloc_new w (.cells #[.slice so sn sc] 24)
  clear hv hr hm hok hk
  go_enter Try.func30, Try.ntmps30
  go_upto_region 1 with (fail)
  obtain ⟨W, hW⟩ : ∃ W : World, W = w.alloc (.cells #[.slice so sn sc] 24) := ⟨_, rfl⟩
  obtain ⟨SB, hSB⟩ : ∃ SB, SB = w.heap.size := ⟨_, rfl⟩
  rw [← hW] at HV HR HW hsb ⊢
  rw [← hSB] at hsb ⊢
  have HSB := Lib.hid hsb
  clear hW hSB hsb
  by_cases h16 : m ≤ 16
  · have q1 : ¬ (16 < (m : Int)) := by omega
    have q2 : ¬ (16 < m) := by omega
    go_wp2_with fail
    go_loopw [12] (fun i wr => ∃ q : Nat, q ≤ m ∧ i = .int .i64 (q : Int) ∧ (∀ k ∈ ks.take q, k = 3) ∧ Below W.heap.size W wr) (fun i _ => m - (intOf i).toNat)
    case atStart => exact ⟨0, Nat.zero_le _, rfl, by simp, Below.refl _ _⟩
    case round =>
      obtain ⟨q, hq, rfl, hall, hb⟩ := hrel
      have HB := Lib.hid hb
      have HA := Lib.hid hall
      have hsb := (hb.block SB (Array.getElem?_eq_some_iff.1 HSB.out).1).trans HSB.out
      clear hall
      by_cases hlt : q < m
      · obtain ⟨k, hkq⟩ : ∃ k, ks[q]? = some k := ⟨_, List.getElem?_eq_getElem (by rw [← HM.out]; exact hlt)⟩
        have hk3 := HK.out k (List.mem_of_getElem? hkq)
        have HKQ := Lib.hid hkq
        obtain ⟨b, off, rfl, hcell⟩ := (HR.out.kept hb).at (k := q) (t := opC k) (by rw [List.getElem?_map, hkq]; rfl)
        have k0 : wr.cell? ⟨b, off + q * 14, none⟩ = some (.int .i64 k) := by have h := hcell 0 _ rfl; simpa using h
        have k1 : wr.cell? ⟨b, off + q * 14 + 1, none⟩ = some (.slice none 0 0) := by have h := hcell 1 _ rfl; simpa using h
        have k2 : wr.cell? ⟨b, off + q * 14 + 2, none⟩ = some (.int .i64 1) := by have h := hcell 2 _ rfl; simpa using h
        have k3 : wr.cell? ⟨b, off + q * 14 + 3, none⟩ = some (.int .i64 0) := by have h := hcell 3 _ rfl; simpa using h
        have k4 : wr.cell? ⟨b, off + q * 14 + 4, none⟩ = some (.int .i64 0) := by have h := hcell 4 _ rfl; simpa using h
        have k5 : wr.cell? ⟨b, off + q * 14 + 5, none⟩ = some (.bool false) := by have h := hcell 5 _ rfl; simpa using h
        have k6 : wr.cell? ⟨b, off + q * 14 + 6, none⟩ = some (.int .i64 0) := by have h := hcell 6 _ rfl; simpa using h
        have k7 : wr.cell? ⟨b, off + q * 14 + 7, none⟩ = some (.int .i64 0) := by have h := hcell 7 _ rfl; simpa using h
        have k8 : wr.cell? ⟨b, off + q * 14 + 8, none⟩ = some (.slice none 0 0) := by have h := hcell 8 _ rfl; simpa using h
        have k9 : wr.cell? ⟨b, off + q * 14 + 9, none⟩ = some (.slice none 0 0) := by have h := hcell 9 _ rfl; simpa using h
        have k10 : wr.cell? ⟨b, off + q * 14 + 10, none⟩ = some (.slice none 0 0) := by have h := hcell 10 _ rfl; simpa using h
        have k11 : wr.cell? ⟨b, off + q * 14 + 11, none⟩ = some (.slice none 0 0) := by have h := hcell 11 _ rfl; simpa using h
        have k12 : wr.cell? ⟨b, off + q * 14 + 12, none⟩ = some (.int .i64 0) := by have h := hcell 12 _ rfl; simpa using h
        have k13 : wr.cell? ⟨b, off + q * 14 + 13, none⟩ = some (.slice none 0 0) := by have h := hcell 13 _ rfl; simpa using h
        clear hcell hkq hb
        go_upto_region 6 with (fail)
        obtain ⟨W5, hW5⟩ : ∃ W5 : World, W5 = wr.alloc (.cells #[.int .i64 k, .slice none 0 0, .int .i64 1, .int .i64 0, .int .i64 0, .bool false, .int .i64 0, .int .i64 0, .slice none 0 0, .slice none 0 0, .slice none 0 0, .slice none 0 0, .int .i64 0, .slice none 0 0] 54) := ⟨_, rfl⟩
        rw [← hW5]
        have hby : Below wr.heap.size wr W5 := by rw [hW5]; exact below_alloc _ _
        have hxb : W5.heap[wr.heap.size]? = some (.cells #[.int .i64 k, .slice none 0 0, .int .i64 1, .int .i64 0, .int .i64 0, .bool false, .int .i64 0, .int .i64 0, .slice none 0 0, .slice none 0 0, .slice none 0 0, .slice none 0 0, .int .i64 0, .slice none 0 0] 54 (0, 0)) := by rw [hW5]; exact heap_alloc_new wr _
        replace hsb := (hby.block SB (Array.getElem?_eq_some_iff.1 hsb).1).trans hsb
        obtain ⟨XB, hXB⟩ : ∃ XB, XB = wr.heap.size := ⟨_, rfl⟩
        rw [← hXB] at hxb ⊢
        have HB5 := Lib.hid (below_then HB.out hby)
        clear hby hW5 hXB k0 k1 k2 k3 k4 k5 k6 k7 k8 k9 k10 k11 k12 k13
        have cs0 : W5.cell? ⟨SB, 0, none⟩ = some (.slice so sn sc) := by rw [cell_of_row W5 SB 0 _ _ _ hsb]; rfl
        have cx0 : W5.cell? ⟨XB, 0, none⟩ = some (.int .i64 k) := by rw [cell_of_row W5 XB 0 _ _ _ hxb]; rfl
        have cx1 : W5.cell? ⟨XB, 1, none⟩ = some (.slice none 0 0) := by rw [cell_of_row W5 XB 1 _ _ _ hxb]; rfl
        have cx2 : W5.cell? ⟨XB, 2, none⟩ = some (.int .i64 1) := by rw [cell_of_row W5 XB 2 _ _ _ hxb]; rfl
        have cx3 : W5.cell? ⟨XB, 3, none⟩ = some (.int .i64 0) := by rw [cell_of_row W5 XB 3 _ _ _ hxb]; rfl
        have cx4 : W5.cell? ⟨XB, 4, none⟩ = some (.int .i64 0) := by rw [cell_of_row W5 XB 4 _ _ _ hxb]; rfl
        have cx5 : W5.cell? ⟨XB, 5, none⟩ = some (.bool false) := by rw [cell_of_row W5 XB 5 _ _ _ hxb]; rfl
        have cx6 : W5.cell? ⟨XB, 6, none⟩ = some (.int .i64 0) := by rw [cell_of_row W5 XB 6 _ _ _ hxb]; rfl
        have cx7 : W5.cell? ⟨XB, 7, none⟩ = some (.int .i64 0) := by rw [cell_of_row W5 XB 7 _ _ _ hxb]; rfl
        have cx8 : W5.cell? ⟨XB, 8, none⟩ = some (.slice none 0 0) := by rw [cell_of_row W5 XB 8 _ _ _ hxb]; rfl
        have cx9 : W5.cell? ⟨XB, 9, none⟩ = some (.slice none 0 0) := by rw [cell_of_row W5 XB 9 _ _ _ hxb]; rfl
        have cx10 : W5.cell? ⟨XB, 10, none⟩ = some (.slice none 0 0) := by rw [cell_of_row W5 XB 10 _ _ _ hxb]; rfl
        have cx11 : W5.cell? ⟨XB, 11, none⟩ = some (.slice none 0 0) := by rw [cell_of_row W5 XB 11 _ _ _ hxb]; rfl
        have cx12 : W5.cell? ⟨XB, 12, none⟩ = some (.int .i64 0) := by rw [cell_of_row W5 XB 12 _ _ _ hxb]; rfl
        have cx13 : W5.cell? ⟨XB, 13, none⟩ = some (.slice none 0 0) := by rw [cell_of_row W5 XB 13 _ _ _ hxb]; rfl
        have HV5 := Lib.hid (RdC.kept HV.out HB5.out)
        clear hsb hxb
        rcases hk3 with rfl | rfl
        · go_wp2_with fail
          refine (op_del n (.slice so sn sc) W5 HV5.out).mono ?_
          rintro e W6 ⟨rfl, hb6⟩
          have HB6 := Lib.hid (below_then HB5.out hb6)
          clear hb6
          go_wp2_with fail
          go_roundw
          case rel =>
            refine ⟨q + 1, by omega, by go_num, fun k hk => ?_, HB6.out⟩
            rw [List.take_add_one, HKQ.out] at hk
            rcases List.mem_append.1 hk with h | h
            · exact HA.out k h
            · simpa using h
          case measure => simp [intOf]; omega
        · have HF := Lib.hid (show ok = false by
            rw [HOK.out]
            unfold okP
            rw [Bool.and_eq_false_iff]
            right
            rw [List.all_eq_false]
            exact ⟨99, List.mem_of_getElem? HKQ.out, by decide⟩)
          go_wp2_with fail
          refine (op_bad n (.slice so sn sc) W5 HV5.out).mono ?_
          rintro e W6 ⟨rfl, hb6⟩
          have HB6 := Lib.hid (below_then HW.out (below_then HB5.out hb6))
          clear hb6
          go_wp2_with fail
          go_ret
          exact ⟨by rw [HF.out] <;> rfl, HB6.out⟩
      · have hqm : q = m := by omega
        have HF := Lib.hid (show ok = true by
          rw [HOK.out]
          unfold okP
          rw [Bool.and_eq_true, decide_eq_true_eq, ← HM.out, List.all_eq_true]
          refine ⟨h16, fun k hk => ?_⟩
          rw [beq_iff_eq]
          exact HA.out k (by rw [List.take_of_length_le (by rw [← HM.out]; omega)]; exact hk))
        have HBF := Lib.hid (below_then HW.out hb)
        clear hb hsb hqm
        go_wp2_with fail
        go_ret
        exact ⟨by rw [HF.out] <;> rfl, HBF.out⟩
  · have q1 : 16 < (m : Int) := by omega
    have q2 : 16 < m := by omega
    have HF := Lib.hid (show ok = false by
      rw [HOK.out]
      unfold okP
      rw [← HM.out, decide_eq_false (by omega), Bool.false_and])
    go_wp2_with fail
    go_ret
    exact ⟨by rw [HF.out] <;> rfl, HW.out⟩

set_option maxRecDepth 100000 in
set_option maxHeartbeats 32000000 in
theorem walk_ExprMany (a0 : Int) (a1 : Int) (a2 : Int) (w : World) (w0 : (Lit.int .i64 a0).wf = true) (w1 : (Lit.int .i64 a1).wf = true) (w2 : (Lit.int .i64 a2).wf = true) :
    Calls Try.prog 7 #[.int .i64 a0, .int .i64 a1, .int .i64 a2] w fun e w' => e = .returned (.bool true) ∧ Below w.heap.size w w' := by
  have HS := Lib.hid (schema_rd a0 w)
  obtain ⟨c, hc, hc31⟩ := and_some a1 31 31 rfl (by decide)
  have hb1 := and_one a2
  clear w0 w1 w2
  go_enter Try.func7, Try.ntmps7
  go_wp2_with fail
  refine HS.out.mono ?_
  rintro e W1 ⟨so, sc, rfl, hs1, hbl⟩
  obtain ⟨sn, hsn⟩ : ∃ sn, sn = (colsN a0).length := ⟨_, rfl⟩
  have hcc := rdC_of hs1
  rw [← hsn] at hs1 hcc ⊢
  have HC1 := Lib.hid (RdC.kept hcc (below_alloc W1 (.cells #[.slice so sn sc] 24)))
  have HB1 := Lib.hid (below_lay hbl (.cells #[.slice so sn sc] 24))
  have hsb := heap_alloc_new W1 (.cells #[.slice so sn sc] 24)
  clear hs1 hcc hbl hsn
  go_upto_region 2 with (fail)
  obtain ⟨W2, hW2⟩ : ∃ W2 : World, W2 = W1.alloc (.cells #[.slice so sn sc] 24) := ⟨_, rfl⟩
  obtain ⟨SB, hSB⟩ : ∃ SB, SB = W1.heap.size := ⟨_, rfl⟩
  rw [← hW2] at HC1 HB1 hsb ⊢
  rw [← hSB] at hsb ⊢
  have HSB := Lib.hid hsb
  clear hW2 hSB hsb
  have hci : (c : Int) ≤ 31 := by omega
  go_wp2_with fail
  go_loopw [8, 9] (fun l i wr => ∃ q : Nat, q ≤ c ∧ i = .int .i64 (q : Int) ∧ ∃ ao cap, l = .slice ao q cap ∧ wr.ownsRow W2.heap.size 54 14 (.slice ao q cap) q ((List.replicate q 3).map opC).flatten ∧ Below W2.heap.size W2 wr) (fun _ i _ => c - (intOf i).toNat)
  case atStart => exact ⟨0, Nat.zero_le _, rfl, none, 0, rfl, World.ownsRow_nil .., Below.refl _ _⟩
  case round =>
    obtain ⟨q, hq, rfl, ao, cap, rfl, hown, hb⟩ := hrel
    have HO := Lib.hid hown
    have HB := Lib.hid hb
    by_cases hlt : q < c
    · have hlti : (q : Int) < (c : Int) := by omega
      have HSZ := Lib.hid (show W2.heap.size ≤ wr.heap.size from hb.size)
      clear hown hb
      go_wp2_with (at_builtin; go_must (refine wpList_append_k elmOp rfl _ _ rfl W2.heap.size _ _ _ rfl (HO.out.alloc _) _ [opC 3] rfl (rdS_lit wr _ _ 14 rfl) (fun t ht => by rw [List.mem_singleton.1 ht]; exact ⟨rfl, by simp [opC, Value.oneCell']⟩) (by simp; omega) (by have := HSZ.out; simp; omega) (q + 1) rfl ?_); intro ao4 cap4 w4 hown4 hgrow4 hnew4; have HO4 := Lib.hid hown4; have HG4 := Lib.hid (Below.grown (below_lay HB.out _) hgrow4 (by have := HSZ.out; simp; omega) (own_base HO.out)); clear hown4 hgrow4 hnew4)
      go_roundw
      case rel =>
        refine ⟨q + 1, by omega, by go_num, _, _, rfl, ?_, HG4.out⟩
        have h := HO4.out
        rw [show (List.replicate (q + 1) (3 : Int)).map opC = (List.replicate q (3 : Int)).map opC ++ [opC 3] by rw [List.replicate_succ', List.map_append]; rfl, List.flatten_append]
        exact h
      case measure => simp [intOf]; omega
    · have hqc : q = c := by omega
      subst hqc
      have hlti : ¬ (q : Int) < (q : Int) := by omega
      have hsb := (hb.block SB (Array.getElem?_eq_some_iff.1 HSB.out).1).trans HSB.out
      have cs0 : wr.cell? ⟨SB, 0, none⟩ = some (.slice so sn sc) := by rw [cell_of_row wr SB 0 _ _ _ hsb]; rfl
      have HC := Lib.hid (RdC.kept HC1.out hb)
      have HBW := Lib.hid (below_then HB1.out hb)
      have HAW := Lib.hid fun w' => awake15_any w'
      by_cases hbad : a2 % 2 = 1 ∧ 0 < q
      · obtain ⟨hbo, hq0⟩ := hbad
        have hq0i : (0 : Int) < (q : Int) := by omega
        obtain ⟨d, hd, hd255⟩ := and_some (a2 / 2) 255 255 rfl (by decide)
        have hrem : (d : Int).tmod (q : Int) = ((d % q : Nat) : Int) := by
          rw [Int.tmod_eq_emod_of_nonneg (by omega)]
          push_cast
          rfl
        obtain ⟨j, hj⟩ : ∃ j, j = d % q := ⟨_, rfl⟩
        have hjq : j < q := by rw [hj]; exact Nat.mod_lt _ hq0
        rw [← hj] at hrem
        have hjqi : (j : Int) < (q : Int) := by omega
        have hj0 : (0 : Int) ≤ (j : Int) := by omega
        have hne : ((q : Int) == 0) = false := by rw [beq_eq_false_iff_ne]; omega
        have hne1 : ¬ ((q : Int) = 0) := by omega
        have hne2 : ¬ (q = 0) := by omega
        obtain ⟨g, rfl⟩ : ∃ g, ao = some ⟨g, 0, none⟩ := by
          rcases hown.2 with ⟨_, h1⟩ | ⟨g, cap', cur, hv, _⟩
          · exact absurd h1 hne2
          · simp only [Value.slice.injEq] at hv
            exact ⟨g, hv.1⟩
        have hgb : W2.heap.size ≤ g := own_base hown g rfl
        have hcell : ∃ u, wr.cell? ⟨g, j * 14, none⟩ = some u := by
          have hlt2 : j * 14 < (((List.replicate q (3 : Int)).map opC).flatten).length := by rw [flatten_len _ 14 (opC_len _), List.length_map, List.length_replicate]; omega
          exact ⟨_, (hown.cellAt (j * 14) (by omega)).trans (List.getElem?_eq_getElem hlt2)⟩
        obtain ⟨u0, c0⟩ := hcell
        have f0 := hown.frozenAt (j * 14)
        have hst := (hown.stored (j * 14) (.int .i64 99)).1
        rw [ks_set _ j (by rw [List.length_replicate]; exact hjq)] at hst
        have HST := Lib.hid hst
        have HSC := Lib.hid (show Below wr.heap.size wr (wr.setCell ⟨g, j * 14, none⟩ (.int .i64 99)) ∨ True from .inr trivial)
        have HBS := Lib.hid (hb.setCell (p := ⟨g, j * 14, none⟩) hgb (.int .i64 99))
        have HC2 := Lib.hid (RdC.kept HC1.out HBS.out)
        have HPR := Lib.hid (prog_any a0 (.slice so sn sc) (.slice (some ⟨g, 0, none⟩) q cap) ((List.replicate q 3).set j 99) (fun k hk => by
            rcases List.mem_or_eq_of_mem_set hk with h | h
            · exact .inl (List.mem_replicate.1 h).2
            · exact .inr h) (by rw [List.length_set, List.length_replicate]; omega) _ HC2.out (rdS_own HST.out (by rw [List.length_map, List.length_set, List.length_replicate]) (opC_len _)))
        rw [okP_bad q j hjq] at HPR
        have hgs : g ≠ SB := by
          have := (Array.getElem?_eq_some_iff.1 HSB.out).1
          omega
        have HBT := Lib.hid (below_then HB1.out HBS.out)
        clear hown hb hsb hst hj hq0 hgb
        go_wp2_with fail
        refine HPR.out.mono ?_
        rintro e W6 ⟨rfl, hb6⟩
        have HF6 := Lib.hid (below_then HBT.out hb6)
        clear hb6
        go_wp2_with fail
        refine (HAW.out _).mono ?_
        rintro e W7 ⟨rfl, hb7⟩
        have HF7 := Lib.hid (below_then HF6.out hb7)
        clear hb7
        go_wp2_with fail
        go_ret
        exact ⟨rfl, HF7.out⟩
      · have HPR := Lib.hid (prog_any a0 (.slice so sn sc) (.slice ao q cap) (List.replicate q 3) (fun k hk => .inl (List.mem_replicate.1 hk).2) (by rw [List.length_replicate]; omega) wr HC.out (rdS_own hown (by rw [List.length_map, List.length_replicate]) (opC_len _)))
        rw [okP_rep] at HPR
        obtain ⟨gd, hgd⟩ : ∃ gd, gd = decide (q ≤ 16) := ⟨_, rfl⟩
        rw [← hgd] at HPR
        have hgd2 : decide ((q : Int) ≤ 16) = gd := by rw [hgd, decide_eq_decide]; omega
        clear hgd
        clear hown hb hsb
        by_cases hbo : a2 % 2 = 1
        · have hq0 : q = 0 := by
            have := hbad
            omega
          subst hq0
          have hgt : gd = true := by rw [← hgd2]; rfl
          subst hgt
          clear hbad
          go_wp2_with fail
          refine HPR.out.mono ?_
          rintro e W6 ⟨rfl, hb6⟩
          have HF6 := Lib.hid (below_then HBW.out hb6)
          clear hb6
          go_wp2_with fail
          refine (HAW.out _).mono ?_
          rintro e W7 ⟨rfl, hb7⟩
          have HF7 := Lib.hid (below_then HF6.out hb7)
          clear hb7
          go_wp2_with fail
          go_ret
          exact ⟨rfl, HF7.out⟩
        · have hb0 : (a2 % 2 == 1) = false := by rw [beq_eq_false_iff_ne]; exact hbo
          clear hbad hbo
          cases gd
          all_goals
            go_wp2_with fail
            refine HPR.out.mono ?_
            rintro e W6 ⟨rfl, hb6⟩
            have HF6 := Lib.hid (below_then HBW.out hb6)
            clear hb6
            go_wp2_with fail
            refine (HAW.out _).mono ?_
            rintro e W7 ⟨rfl, hb7⟩
            have HF7 := Lib.hid (below_then HF6.out hb7)
            clear hb7
            go_wp2_with fail
            go_ret
            exact ⟨rfl, HF7.out⟩

end Go.Proofs.Ytfmkalnnpddefaa
