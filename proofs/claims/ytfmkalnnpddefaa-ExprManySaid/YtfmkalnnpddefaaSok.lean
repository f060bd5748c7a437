/-
  Contract of schm.Ok: the law's schemas are.
-/
import Derived.Test.YtfmkalnnpddefaaColn
import Derived.Test.YtfmkalnnpddefaaFit
namespace Go.Proofs.Ytfmkalnnpddefaa
set_option linter.unusedVariables false
set_option linter.unusedSimpArgs false
open Canon Go.RowKit

theorem RdC.take {w : World} {ao : Option Addr} {n cap : Nat} {l : List Co} (h : RdC w (.slice ao n cap) l) {k : Nat} (hk : k ≤ n) : RdC w (.slice ao k cap) (l.take k) := by
  obtain ⟨a, c, e, h0, hc⟩ := h
  simp only [Value.slice.injEq, List.length_map] at e
  obtain ⟨rfl, rfl, rfl⟩ := e
  simp only [List.length_map] at h0
  refine ⟨ao, cap, by simp [Nat.min_eq_left hk], ⟨h0.1, by simp only [List.length_map, List.length_take]; omega⟩, fun j t ht => ?_⟩
  rw [List.map_take, List.getElem?_take] at ht
  split at ht
  · exact hc j t ht
  · cases ht
/-- The names that the law's schemas have. -/
def nm6 (k : Nat) : ByteArray := match k with
  | 0 => ⟨#[107, 101, 121]⟩
  | k + 1 => nameOf k
theorem colsN_at {n : Int} {k : Nat} {co : Co} (h : (colsN n)[k]? = some co) : k < 6 ∧ co.n = nm6 k := by
  have hk := (List.getElem?_eq_some_iff.1 h).1
  have h6 := (colsN_ok n).le
  refine ⟨by omega, ?_⟩
  unfold colsN colsOf at h
  cases k with
  | zero => simp only [List.getElem?_cons_zero, Option.some.injEq] at h; rw [← h]; rfl
  | succ k =>
    rw [List.getElem?_cons_succ, List.getElem?_map, List.getElem?_zipIdx] at h
    cases hx : (kindsOf n)[k]? with
    | none => rw [hx] at h; simp at h
    | some c =>
      rw [hx] at h
      simp only [Option.map_some, Option.some.injEq, Nat.zero_add] at h
      rw [← h]
      rfl
theorem nm6_ne : ∀ {j k : Nat}, j < k → k < 6 → ((nm6 j).toList == (nm6 k).toList) = false := fun {j k} h1 h2 => by
  rcases (by omega : k = 1 ∨ k = 2 ∨ k = 3 ∨ k = 4 ∨ k = 5) with rfl | rfl | rfl | rfl | rfl
  all_goals
    rcases (by omega : j = 0 ∨ j = 1 ∨ j = 2 ∨ j = 3 ∨ j = 4) with rfl | rfl | rfl | rfl | rfl
    all_goals first | (exfalso; omega) | kernel_rfl
theorem colsN_apart {n : Int} {k : Nat} {co : Co} (h : (colsN n)[k]? = some co) : ∀ c ∈ (colsN n).take k, (c.n.toList == co.n.toList) = false := fun c hc => by
  obtain ⟨j, hj⟩ := List.getElem?_of_mem hc
  rw [List.getElem?_take] at hj
  split at hj
  · rename_i hjk
    rw [(colsN_at hj).2, (colsN_at h).2]
    exact nm6_ne hjk (colsN_at h).1
  · cases hj

theorem nameOk_row0 : isTrue (callN (envOf Try.prog) 60 167 [.string ⟨#[107, 101, 121]⟩] (Canon.start Try.prog)) = true := by kernel_rfl
theorem nameOk_row1 : isTrue (callN (envOf Try.prog) 60 167 [.string ⟨#[97]⟩] (Canon.start Try.prog)) = true := by kernel_rfl
theorem nameOk_row2 : isTrue (callN (envOf Try.prog) 60 167 [.string ⟨#[98, 98]⟩] (Canon.start Try.prog)) = true := by kernel_rfl
theorem nameOk_row3 : isTrue (callN (envOf Try.prog) 60 167 [.string ⟨#[99, 99, 99]⟩] (Canon.start Try.prog)) = true := by kernel_rfl
theorem nameOk_row4 : isTrue (callN (envOf Try.prog) 60 167 [.string ⟨#[110, 117, 108, 108]⟩] (Canon.start Try.prog)) = true := by kernel_rfl
theorem nameOk_row5 : isTrue (callN (envOf Try.prog) 60 167 [.string ⟨#[97, 110, 100]⟩] (Canon.start Try.prog)) = true := by kernel_rfl
theorem nameOk_body : hasBody Try.prog 167 = true := by kernel_rfl
theorem nameOk_any {k : Nat} (hk : k < 6) (w : World) :
    Calls Try.prog 167 #[.string (nm6 k)] w fun e w' => e = .returned (.bool true) ∧ Below w.heap.size w w' := by
  rcases (by omega : k = 0 ∨ k = 1 ∨ k = 2 ∨ k = 3 ∨ k = 4 ∨ k = 5) with rfl | rfl | rfl | rfl | rfl | rfl
  · exact fit.args nameOk_body (fun c => LR.cons (.string _) LR.nil) nameOk_row0 w
  · exact fit.args nameOk_body (fun c => LR.cons (.string _) LR.nil) nameOk_row1 w
  · exact fit.args nameOk_body (fun c => LR.cons (.string _) LR.nil) nameOk_row2 w
  · exact fit.args nameOk_body (fun c => LR.cons (.string _) LR.nil) nameOk_row3 w
  · exact fit.args nameOk_body (fun c => LR.cons (.string _) LR.nil) nameOk_row4 w
  · exact fit.args nameOk_body (fun c => LR.cons (.string _) LR.nil) nameOk_row5 w
theorem kindOk_any (k : Int) (hk : k = 1 ∨ k = 2) (w : World) :
    Calls Try.prog 168 #[.int .i64 k] w fun e w' => e = .returned (.bool true) ∧ Below w.heap.size w w' := by
  rcases hk with rfl | rfl
  · go_enter Try.func168, Try.ntmps168
    go_wp2_with fail
    go_ret
    exact ⟨rfl, Below.refl _ _⟩
  · go_enter Try.func168, Try.ntmps168
    go_wp2_with fail
    go_ret
    exact ⟨rfl, Below.refl _ _⟩

set_option maxRecDepth 100000 in
set_option maxHeartbeats 8000000 in
theorem named1_no (nm x : ByteArray) (k : Int) (u : Bool) (c : Nat) (w : World) (hne : (x.toList == nm.toList) = false) (hc : w.cell? ⟨c, 0, none⟩ = some (.string nm)) :
    Calls Try.prog 201 #[.agg #[.string x, .int .i64 k, .bool u], .pointer (some ⟨c, 0, none⟩)] w fun e w' => e = .returned (.bool false) ∧ Below w.heap.size w w' := by
  have lc := World.block_lt_of_cell? w _ hc
  have hc2 : (w.alloc (.cells #[.string x, .int .i64 k, .bool u] 102)).cell? ⟨c, 0, none⟩ = some (.string nm) := Lib.cell?_alloc_some _ hc
  go_enter Try.func201, Try.ntmps201
  go_wp2_with fail
  go_ret
  exact ⟨rfl, below_alloc w _⟩

set_option maxRecDepth 100000 in
set_option maxHeartbeats 8000000 in
theorem indexNamed_no (l : List Co) (hl : l.length ≤ 1000) (v : Value) (nm : ByteArray) (c : Nat) (w : World) (hr : RdC w v l) (hno : ∀ x ∈ l, (x.n.toList == nm.toList) = false) (hc : w.cell? ⟨c, 0, none⟩ = some (.string nm)) :
    Calls Try.prog 218 #[v, .func (.func 201) #[] #[.pointer (some ⟨c, 0, none⟩)]] w fun e w' => e = .returned (.int .i64 (-1)) ∧ Below w.heap.size w w' := by
  obtain ⟨ao, cap, rfl⟩ := rdC_shape hr
  obtain ⟨n, hn⟩ : ∃ n, n = l.length := ⟨_, rfl⟩
  rw [← hn] at hr hl ⊢
  have HN := Lib.hid hn
  have HR := Lib.hid hr
  have HC := Lib.hid hc
  have HNO := Lib.hid hno
  clear hn hr hc hno
  go_enter Try.func218, Try.ntmps218
  go_wp2_with fail
  go_loopw [8] (fun i wr => ∃ q : Nat, q ≤ n ∧ i = .int .i64 (q : Int) ∧ Below w.heap.size w wr) (fun i _ => n - (intOf i).toNat)
  case atStart => exact ⟨0, Nat.zero_le _, rfl, Below.refl _ _⟩
  case round =>
    obtain ⟨q, hq, rfl, hb⟩ := hrel
    have HB := Lib.hid hb
    by_cases hlt : q < n
    · obtain ⟨x, hx⟩ : ∃ x, l[q]? = some x := ⟨_, List.getElem?_eq_getElem (by rw [← HN.out]; exact hlt)⟩
      obtain ⟨b, off, rfl, k0, k1, k2⟩ := RdC.at (RdC.kept HR.out hb) hx
      have HCALL := Lib.hid (named1_no nm x.n x.k x.u c wr (HNO.out x (List.mem_of_getElem? hx)) ((hb.cell (p := ⟨c, 0, none⟩) (World.block_lt_of_cell? _ _ HC.out)).trans HC.out))
      clear hb hx
      go_wp2_with fail
      refine HCALL.out.mono ?_
      rintro e w2 ⟨rfl, hb2⟩
      have HB2 := Lib.hid (below_then HB.out hb2)
      clear hb2
      go_wp2_with fail
      go_roundw
      case rel => exact ⟨q + 1, by omega, by go_num, HB2.out⟩
      case measure => simp [intOf]; omega
    · have hqn : q = n := by omega
      clear hb hqn
      go_wp2_with fail
      go_ret
      exact ⟨rfl, HB.out⟩

set_option maxRecDepth 100000 in
set_option maxHeartbeats 8000000 in
theorem named_no (l : List Co) (hl : l.length ≤ 1000) (v : Value) (nm : ByteArray) (w : World) (hr : RdC w v l) (hno : ∀ x ∈ l, (x.n.toList == nm.toList) = false) :
    Calls Try.prog 169 #[v, .string nm] w fun e w' => e = .returned (.bool false) ∧ Below w.heap.size w w' := by
  obtain ⟨ao, cap, rfl⟩ := rdC_shape hr
  obtain ⟨n, hn⟩ : ∃ n, n = l.length := ⟨_, rfl⟩
  rw [← hn] at hr ⊢
  have hc : (w.alloc (.cells #[.string nm] 9)).cell? ⟨w.heap.size, 0, none⟩ = some (.string nm) := by rw [cell_of_row _ _ 0 _ _ _ (heap_alloc_new w _)]; rfl
  have HI := Lib.hid (indexNamed_no l hl _ nm w.heap.size (w.alloc (.cells #[.string nm] 9)) (RdC.kept hr (below_alloc w _)) hno hc)
  have HBA := Lib.hid (below_alloc w (.cells #[.string nm] 9))
  clear hr hn hc hno
  go_enter Try.func169, Try.ntmps169
  go_wp2_with fail
  refine (show Calls Try.prog 200 #[.slice ao n cap, .func (.func 201) #[] #[.pointer (some ⟨w.heap.size, 0, none⟩)]] _ (fun e w' => e = .returned (.bool false) ∧ Below w.heap.size w w') from ?_).mono ?_
  · go_enter Try.func200, Try.ntmps200
    go_wp2_with fail
    refine HI.out.mono ?_
    rintro e w2 ⟨rfl, hb2⟩
    have HB2 := Lib.hid (below_then HBA.out hb2)
    clear hb2
    go_wp2_with fail
    go_ret
    exact ⟨rfl, HB2.out⟩
  · rintro e w2 ⟨rfl, hb2⟩
    have HB2 := Lib.hid hb2
    clear hb2
    go_wp2_with fail
    go_ret
    exact ⟨rfl, HB2.out⟩

set_option maxRecDepth 100000 in
set_option maxHeartbeats 8000000 in
theorem schmOk_N (n : Int) (sv : Value) (w : World) (hv : RdC w sv (colsN n)) :
    Calls Try.prog 109 #[.agg #[sv]] w fun e w' => e = .returned (.bool true) ∧ Below w.heap.size w w' := by
  obtain ⟨so, sc, rfl⟩ := rdC_shape hv
  obtain ⟨sn, hsn⟩ : ∃ sn, sn = (colsN n).length := ⟨_, rfl⟩
  rw [← hsn] at hv ⊢
  have hne : 0 < sn := by have := (colsN_ok n).ne; omega
  have hle : sn ≤ 6 := by have := (colsN_ok n).le; omega
  have q0 : ((sn : Int) == 0) = false := by rw [beq_eq_false_iff_ne]; omega
  have q1 : decide ((sn : Int) > 6) = false := by rw [decide_eq_false_iff_not]; omega
  have q2 : ¬ (6 < (sn : Int)) := by omega
  have q3 : ¬ (6 < sn) := by omega
  have q4 : ¬ (sn = 0) := by omega
  have HV := Lib.hid (RdC.kept hv (below_alloc w (.cells #[.slice so sn sc] 24)))
  have HW := Lib.hid (below_alloc w (.cells #[.slice so sn sc] 24))
  have hsb := heap_alloc_new w (.cells #[.slice so sn sc] 24)
  obtain ⟨W, hW⟩ : ∃ W : World, W = w.alloc (.cells #[.slice so sn sc] 24) := ⟨_, rfl⟩
  obtain ⟨SB, hSB⟩ : ∃ SB, SB = w.heap.size := ⟨_, rfl⟩
  have HSN := Lib.hid hsn
  go_enter Try.func109, Try.ntmps109
  clear hv hsn
  go_upto_region 1 with (fail)
  rw [← hW] at HV HW hsb ⊢
  rw [← hSB] at hsb ⊢
  have HSB := Lib.hid hsb
  have cs0 : W.cell? ⟨SB, 0, none⟩ = some (.slice so sn sc) := by rw [cell_of_row W SB 0 _ _ _ hsb]; rfl
  clear hW hSB hsb
  go_wp2_with fail
  clear cs0
  go_loopw [19] (fun i wr => ∃ q : Nat, q ≤ sn ∧ i = .int .i64 (q : Int) ∧ Below W.heap.size W wr) (fun i _ => sn - (intOf i).toNat)
  case atStart => exact ⟨0, Nat.zero_le _, rfl, Below.refl _ _⟩
  case round =>
    obtain ⟨q, hq, rfl, hb⟩ := hrel
    have HB := Lib.hid hb
    have hsb := (hb.block SB (Array.getElem?_eq_some_iff.1 HSB.out).1).trans HSB.out
    by_cases hlt : q < sn
    · obtain ⟨x, hx⟩ : ∃ x, (colsN n)[q]? = some x := ⟨_, List.getElem?_eq_getElem (by rw [← HSN.out]; exact hlt)⟩
      have HX := Lib.hid hx
      have hk := (colsN_ok n).ks x (List.mem_of_getElem? hx)
      have hV := RdC.kept HV.out hb
      obtain ⟨b, off, rfl, k0, k1, k2⟩ := RdC.at hV hx
      have HVR := Lib.hid hV
      obtain ⟨xn, xk, xu⟩ := x
      simp only at k0 k1 k2 hk
      have hxn := (colsN_at hx).2
      have hx6 := (colsN_at hx).1
      simp only at hxn
      have HC1 := Lib.hid fun w' => nameOk_any hx6 w'
      rw [← hxn] at HC1
      have HC2 := Lib.hid fun w' => kindOk_any xk hk w'
      have HTK := Lib.hid fun w' (h : Below W.heap.size W w') => named_no ((colsN n).take q) (by rw [List.length_take, ← HSN.out]; omega) _ xn w' (RdC.take (RdC.kept HV.out h) hq) (colsN_apart hx)
      clear hb hx hk hV hxn hx6
      have hqs : q ≤ sn := hq
      have hqi : (q : Int) ≤ (sn : Int) := by omega
      go_upto_region 6 with (fail)
      obtain ⟨W5, hW5⟩ : ∃ W5 : World, W5 = wr.alloc (.cells #[.string xn, .int .i64 xk, .bool xu] 102) := ⟨_, rfl⟩
      rw [← hW5]
      have hby : Below wr.heap.size wr W5 := by rw [hW5]; exact below_alloc _ _
      have hxb : W5.heap[wr.heap.size]? = some (.cells #[.string xn, .int .i64 xk, .bool xu] 102 (0, 0)) := by rw [hW5]; exact heap_alloc_new wr _
      replace hsb := (hby.block SB (Array.getElem?_eq_some_iff.1 hsb).1).trans hsb
      obtain ⟨XB, hXB⟩ : ∃ XB, XB = wr.heap.size := ⟨_, rfl⟩
      rw [← hXB] at hxb ⊢
      have HB5 := Lib.hid (below_then HB.out hby)
      clear hby hW5 hXB k0 k1 k2
      have cs0 : W5.cell? ⟨SB, 0, none⟩ = some (.slice (some ⟨b, off, none⟩) sn sc) := by rw [cell_of_row W5 SB 0 _ _ _ hsb]; rfl
      have cx0 : W5.cell? ⟨XB, 0, none⟩ = some (.string xn) := by rw [cell_of_row W5 XB 0 _ _ _ hxb]; rfl
      have cx1 : W5.cell? ⟨XB, 1, none⟩ = some (.int .i64 xk) := by rw [cell_of_row W5 XB 1 _ _ _ hxb]; rfl
      clear hsb hxb
      have hcap : sn ≤ sc := by
        obtain ⟨_, _, e0, h0, _⟩ := HVR.out
        simp only [Value.slice.injEq, List.length_map] at e0
        obtain ⟨_, e1, e2⟩ := e0
        have := h0.2
        rw [List.length_map] at this
        omega
      have hqc : q ≤ sc := by omega
      have hqci : (q : Int) ≤ (sc : Int) := by omega
      set_option maxRecDepth 1000000 in
      go_region_held3 (fun w' => w'.cell? ⟨SB, 0, none⟩ = some (.slice (some ⟨b, off, none⟩) sn sc) ∧ w'.cell? ⟨XB, 0, none⟩ = some (.string xn) ∧ w'.cell? ⟨XB, 1, none⟩ = some (.int .i64 xk) ∧ Below W5.heap.size W5 w')
        (first | assumption | exact below_drw _ _ | exact Below.refl _ _ | exact ⟨(by first | assumption | exact (hB9.cell (World.block_lt_of_cell? _ _ cs0)).trans cs0), (by first | assumption | exact (hB9.cell (World.block_lt_of_cell? _ _ cx0)).trans cx0), (by first | assumption | exact (hB9.cell (World.block_lt_of_cell? _ _ cx1)).trans cx1), (by first | assumption | exact below_drw _ _ | exact Below.refl _ _)⟩)
        (first
          | (go_at_call 167; refine (HC1.out _).mono ?_; rintro e wA ⟨rfl, hbA⟩; have hBA : Below W5.heap.size W5 wA := (by first | exact hbA | exact below_then (below_drw _ _) hbA); have hB9 := hBA)
          | (go_at_call 168; refine (HC2.out _).mono ?_; rintro e wB ⟨rfl, hbB⟩; have hBB : Below W5.heap.size W5 wB := below_then hBA hbB; have hB9 := hBB)
          | (go_at_call 169; refine (HTK.out _ (below_then HB5.out hBB)).mono ?_; rintro e wC ⟨rfl, hbC⟩; have hBC : Below W5.heap.size W5 wC := below_then hBB hbC; have hB9 := hBC))
      all_goals
        go_wp2_with fail
        go_roundw
        case rel => exact ⟨q + 1, by omega, by go_num, below_then HB5.out hBC⟩
        case measure => simp [intOf]; omega
    · have hqn : q = sn := by omega
      have cs0 : wr.cell? ⟨SB, 0, none⟩ = some (.slice so sn sc) := by rw [cell_of_row wr SB 0 _ _ _ hsb]; rfl
      obtain ⟨x, hx⟩ : ∃ x, (colsN n)[0]? = some x := ⟨_, List.getElem?_eq_getElem (by rw [← HSN.out]; exact hne)⟩
      have hk := (colsN_ok n).hd x hx
      have hV := RdC.kept HV.out hb
      obtain ⟨b, off, rfl, k0, k1, k2⟩ := RdC.at hV hx
      simp only [Nat.zero_mul, Nat.add_zero] at k0 k1 k2
      rw [hk.1] at k1
      rw [hk.2] at k2
      have HF := fun o => Lib.hid (below_lay (below_then HW.out hb) o)
      clear hb hsb hqn hx hk hV
      go_wp2_with fail
      go_ret
      exact ⟨rfl, (HF _).out⟩

end Go.Proofs.Ytfmkalnnpddefaa
