/-
  Contracts of layer 12: Set; Get, Set, Put, Drop of an ID that is not there.
-/
import Derived.Test.YtnfjdoeemnhkbaaDltd
namespace Go.Proofs.Ytnfjdoeemnhkbaa
set_option linter.unusedVariables false
set_option linter.unusedSimpArgs false
open Go.RowKit

theorem find_none {vs : List Vr} {t : Int} {i : Nat} {b : Bool} (h : FindR vs t i b) (hno : ∀ y ∈ vs, y.i ≠ t) : b = false := by
  rw [h.2.2.2]
  cases hx : vs[i]? with
  | none => rfl
  | some y =>
    show (some y.i == some t) = false
    rw [beq_eq_false_iff_ne]
    intro e
    exact hno y (List.mem_of_getElem? hx) (Option.some.inj e)
theorem find_some {vs : List Vr} (hs : Rise vs) {t : Int} {p i : Nat} {x : Vr} {b : Bool} (h : FindR vs t i b) (hp : vs[p]? = some x) (hx : x.i = t) : i = p ∧ b = true := by
  obtain ⟨hi, hlo, hhi, hbb⟩ := h
  have hpl := (List.getElem?_eq_some_iff.1 hp).1
  have hip : i = p := by
    rcases Nat.lt_trichotomy i p with h | h | h
    · exfalso
      obtain ⟨y, hy⟩ : ∃ y, vs[i]? = some y := ⟨_, List.getElem?_eq_getElem (by omega)⟩
      have h2 := hs i p y _ h hy hp
      have h3 := hhi i y (Nat.le_refl _) hy
      omega
    · exact h
    · exfalso
      have h2 := hlo p _ h hp
      omega
  subst hip
  exact ⟨rfl, by rw [hbb, hp, ← hx]; simp⟩
theorem cells_set4 (vs : List Vr) (p : Nat) (x : Vr) (hp : vs[p]? = some x) (y1 y2 y3 y4 : Int) : ((((((vs.map Vr.cells).flatten).set (p * 6 + 2) (.int .i64 y1)).set (p * 6 + 3) (.int .i64 y2)).set (p * 6 + 4) (.int .i64 y3)).set (p * 6 + 5) (.int .i64 y4)) = ((vs.set p ⟨x.i, x.ra, x.rn, x.rc, y1, y2, y3, y4⟩).map Vr.cells).flatten := by
  have hpl := (List.getElem?_eq_some_iff.1 hp).1
  have hl : ∀ (css : List (List Value)) (t : List Value), (∀ u ∈ css, u.length = 6) → t.length = 6 → ∀ u ∈ css.set p t, u.length = 6 := fun css t h ht u hu => by
    rcases List.mem_or_eq_of_mem_set hu with h1 | h1
    · exact h u h1
    · rw [h1]; exact ht
  have a0 := vr_len vs
  have l1 := hl _ (x.cells.set 2 (.int .i64 y1)) a0 rfl
  have l2 := hl _ ((x.cells.set 2 (.int .i64 y1)).set 3 (.int .i64 y2)) l1 rfl
  have l3 := hl _ (((x.cells.set 2 (.int .i64 y1)).set 3 (.int .i64 y2)).set 4 (.int .i64 y3)) l2 rfl
  have hm : p < (vs.map Vr.cells).length := by rw [List.length_map]; exact hpl
  rw [flatten_set6 6 (vs.map Vr.cells) a0 p 2 x.cells _ (by rw [List.getElem?_map, hp]; rfl) (by decide),
    flatten_set6 6 _ l1 p 3 _ _ (List.getElem?_set_self hm) (by decide),
    flatten_set6 6 _ l2 p 4 _ _ (List.getElem?_set_self (by rw [List.length_set]; exact hm)) (by decide),
    flatten_set6 6 _ l3 p 5 _ _ (List.getElem?_set_self (by rw [List.length_set, List.length_set]; exact hm)) (by decide),
    List.set_set, List.set_set, List.set_set, List.map_set]
  rfl

set_option maxRecDepth 100000 in
set_option maxHeartbeats 8000000 in
theorem dset_at (vs : List Vr) (hl : vs.length ≤ 10000) (hs : Rise vs) (g n vc d base : Nat) (most t : Int) (p : Nat) (x : Vr) (y1 y2 y3 y4 : Int) (w : World) (hn : n = vs.length)
    (hown : w.ownsRow base 84 6 (.slice (some ⟨g, 0, none⟩) n vc) n (vs.map Vr.cells).flatten) (hbase : base ≤ d) (hdv : g ≠ d)
    (hd : w.heap[d]? = some (.cells #[.int .i64 most, .slice (some ⟨g, 0, none⟩) n vc] 121 (0, 0))) (hp : vs[p]? = some x) (hxt : x.i = t) :
    Calls Try.prog 37 #[.pointer (some ⟨d, 0, none⟩), .int .i64 t, .agg #[.int .i64 y1, .int .i64 y2, .int .i64 y3, .int .i64 y4]] w fun e w' => e = .returned (.bool true) ∧
      w'.heap[d]? = some (.cells #[.int .i64 most, .slice (some ⟨g, 0, none⟩) n vc] 121 (0, 0)) ∧ w'.ownsRow base 84 6 (.slice (some ⟨g, 0, none⟩) n vc) n ((vs.set p ⟨x.i, x.ra, x.rn, x.rc, y1, y2, y3, y4⟩).map Vr.cells).flatten ∧
      w.heap.size ≤ w'.heap.size ∧ Below base w w' ∧ (∀ b, b < w.heap.size → b ≠ g → w'.heap[b]? = w.heap[b]?) := by
  have hdl : d < w.heap.size := (Array.getElem?_eq_some_iff.1 hd).1
  have hgl : g < w.heap.size := own_lt hown g rfl
  have hgb : base ≤ g := own_base hown g rfl
  have HR := Lib.hid (rdS_own hown (by rw [List.length_map]; exact hn) (vr_len vs))
  have HO := Lib.hid hown
  have HD := Lib.hid hd
  have HF := Lib.hid fun w' (h : Below w.heap.size w w') => find_any vs (by omega) hs (some ⟨g, 0, none⟩) n vc d most t w' hn (HR.out.kept h) ((h.block d hdl).trans hd)
  have HN := Lib.hid hn
  have HP := Lib.hid hp
  have HRI := Lib.hid hs
  have HXT := Lib.hid hxt
  have hpn : p < n := by rw [hn]; exact (List.getElem?_eq_some_iff.1 hp).1
  have HLEN := Lib.hid (show ((vs.map Vr.cells).flatten).length = n * 6 by rw [flatten_len _ 6 (vr_len vs), List.length_map, hn])
  have hnl : n ≤ 10000 := by omega
  have hdb : base ≤ w.heap.size := by omega
  clear hown hd hs hn hl hp hxt
  go_enter Try.func37, Try.ntmps37
  go_upto_region 1 with (fail)
  have hz := heap_alloc_new w (.cells #[.int .i64 y1, .int .i64 y2, .int .i64 y3, .int .i64 y4] 82)
  have HB0 := Lib.hid (below_alloc w (.cells #[.int .i64 y1, .int .i64 y2, .int .i64 y3, .int .i64 y4] 82))
  obtain ⟨W, hW⟩ : ∃ W : World, W = w.alloc (.cells #[.int .i64 y1, .int .i64 y2, .int .i64 y3, .int .i64 y4] 82) := ⟨_, rfl⟩
  obtain ⟨X, hX⟩ : ∃ X, X = w.heap.size := ⟨_, rfl⟩
  rw [← hW] at hz HB0 ⊢
  rw [← hX] at hz ⊢
  have HZ := Lib.hid hz
  clear hW hX hz
  go_wp2_with fail
  refine (HF.out W HB0.out).mono ?_
  rintro e w2 ⟨i, b, rfl, hfr, hb2⟩
  obtain ⟨hip, rfl⟩ := find_some HRI.out hfr HP.out HXT.out
  subst hip
  have HB2 := Lib.hid (below_then HB0.out hb2)
  have hz2 := (hb2.block X (Array.getElem?_eq_some_iff.1 HZ.out).1).trans HZ.out
  have hd2 := (HB2.out.block d hdl).trans HD.out
  have HD2 := Lib.hid hd2
  have HO2 := Lib.hid (own_kept HO.out HB2.out)
  clear hfr hb2
  have hini : (i : Int) < (n : Int) := by omega
  have hi0 : (0 : Int) ≤ (i : Int) := by omega
  have c1 : w2.cell? ⟨d, 1, none⟩ = some (.slice (some ⟨g, 0, none⟩) n vc) := by rw [cell_of_row w2 d 1 _ _ _ hd2]; rfl
  have z0 : w2.cell? ⟨X, 0, none⟩ = some (.int .i64 y1) := by rw [cell_of_row w2 X 0 _ _ _ hz2]; rfl
  have z1 : w2.cell? ⟨X, 1, none⟩ = some (.int .i64 y2) := by rw [cell_of_row w2 X 1 _ _ _ hz2]; rfl
  have z2 : w2.cell? ⟨X, 2, none⟩ = some (.int .i64 y3) := by rw [cell_of_row w2 X 2 _ _ _ hz2]; rfl
  have z3 : w2.cell? ⟨X, 3, none⟩ = some (.int .i64 y4) := by rw [cell_of_row w2 X 3 _ _ _ hz2]; rfl
  have hx : ∀ q, q < 6 → ∃ u, w2.cell? ⟨g, i * 6 + q, none⟩ = some u := fun q hq => by
    have hlt2 : i * 6 + q < ((vs.map Vr.cells).flatten).length := by rw [HLEN.out]; omega
    exact ⟨_, (HO2.out.cellAt (i * 6 + q) (by omega)).trans (List.getElem?_eq_getElem hlt2)⟩
  obtain ⟨u2, e2⟩ := hx 2 (by decide)
  obtain ⟨u3, e3⟩ := hx 3 (by decide)
  obtain ⟨u4, e4⟩ := hx 4 (by decide)
  obtain ⟨u5, e5⟩ := hx 5 (by decide)
  have f2 := HO2.out.frozenAt (i * 6 + 2)
  have f3 := HO2.out.frozenAt (i * 6 + 3)
  have f4 := HO2.out.frozenAt (i * 6 + 4)
  have f5 := HO2.out.frozenAt (i * 6 + 5)
  clear hd2 hz2 hx HF
  go_upto_region 3 with (fail)
  go_region
  all_goals
    go_wp2_with fail
    go_ret
    have hst := ((((((HO2.out.stored (i * 6 + 2) (.int .i64 y1)).1).stored (i * 6 + 3) (.int .i64 y2)).1).stored (i * 6 + 4) (.int .i64 y3)).1.stored (i * 6 + 5) (.int .i64 y4)).1
    rw [cells_set4 vs i x HP.out] at hst
    have hbl : ∀ b, b ≠ g → ((((w2.setCell ⟨g, i * 6 + 2, none⟩ (.int .i64 y1)).setCell ⟨g, i * 6 + 2 + 1, none⟩ (.int .i64 y2)).setCell ⟨g, i * 6 + 2 + 2, none⟩ (.int .i64 y3)).setCell ⟨g, i * 6 + 2 + 3, none⟩ (.int .i64 y4)).heap[b]? = w2.heap[b]? := fun b h2 =>
      (heap_setCell_other _ ⟨g, i * 6 + 2 + 3, none⟩ b _ h2).trans ((heap_setCell_other _ ⟨g, i * 6 + 2 + 2, none⟩ b _ h2).trans ((heap_setCell_other _ ⟨g, i * 6 + 2 + 1, none⟩ b _ h2).trans (heap_setCell_other w2 ⟨g, i * 6 + 2, none⟩ b _ h2)))
    refine ⟨rfl, ?_, hst, ?_, ?_, ?_⟩
    · exact (hbl d (Ne.symm hdv)).trans HD2.out
    · have := HB2.out.size; simp [World.setCell]; exact this
    · exact below_dr2 (((((HB2.out.mono hdb).setCell (p := ⟨g, i * 6 + 2, none⟩) hgb _).setCell (p := ⟨g, i * 6 + 2 + 1, none⟩) hgb _).setCell (p := ⟨g, i * 6 + 2 + 2, none⟩) hgb _).setCell (p := ⟨g, i * 6 + 2 + 3, none⟩) hgb _)
    · exact fun b h1 h2 => (hbl b h2).trans (HB2.out.block b h1)

set_option maxRecDepth 100000 in
set_option maxHeartbeats 8000000 in
theorem dput_no (vs : List Vr) (hl : vs.length ≤ 10000) (hs : Rise vs) (va : Option Addr) (n vc d : Nat) (most t : Int) (w : World) (hn : n = vs.length) (hr : RdS w 6 (.slice va n vc) (vs.map Vr.cells)) (hd : w.heap[d]? = some (.cells #[.int .i64 most, .slice va n vc] 121 (0, 0))) (hno : ∀ y ∈ vs, y.i ≠ t) (ra : Option Addr) (rn rc : Nat) :
    Calls Try.prog 38 #[.pointer (some ⟨d, 0, none⟩), .int .i64 t, .slice ra rn rc] w fun e w' => e = .returned (.bool false) ∧ Below w.heap.size w w' := by
  have hdl : d < w.heap.size := (Array.getElem?_eq_some_iff.1 hd).1
  have HR := Lib.hid hr
  have HF := Lib.hid fun w' (h : Below w.heap.size w w') => find_any vs (by omega) hs va n vc d most t w' hn (HR.out.kept h) ((h.block d hdl).trans hd)
  have HNO := Lib.hid hno
  clear hr hd hn hno hs hl
  go_enter Try.func38, Try.ntmps38
  go_wp2_with fail
  refine (HF.out w (Below.refl _ _)).mono ?_
  rintro e w2 ⟨i, b, rfl, hfr, hb2⟩
  obtain rfl := find_none hfr HNO.out
  have HB2 := Lib.hid hb2
  clear hfr hb2 HF
  go_wp2_with fail
  go_ret
  exact ⟨rfl, HB2.out⟩

set_option maxRecDepth 100000 in
set_option maxHeartbeats 8000000 in
theorem ddrop_no (vs : List Vr) (hl : vs.length ≤ 10000) (hs : Rise vs) (va : Option Addr) (n vc d : Nat) (most t : Int) (w : World) (hn : n = vs.length) (hr : RdS w 6 (.slice va n vc) (vs.map Vr.cells)) (hd : w.heap[d]? = some (.cells #[.int .i64 most, .slice va n vc] 121 (0, 0))) (hno : ∀ y ∈ vs, y.i ≠ t) :
    Calls Try.prog 39 #[.pointer (some ⟨d, 0, none⟩), .int .i64 t] w fun e w' => e = .returned (.bool false) ∧ Below w.heap.size w w' := by
  have hdl : d < w.heap.size := (Array.getElem?_eq_some_iff.1 hd).1
  have HR := Lib.hid hr
  have HF := Lib.hid fun w' (h : Below w.heap.size w w') => find_any vs (by omega) hs va n vc d most t w' hn (HR.out.kept h) ((h.block d hdl).trans hd)
  have HNO := Lib.hid hno
  clear hr hd hn hno hs hl
  go_enter Try.func39, Try.ntmps39
  go_wp2_with fail
  refine (HF.out w (Below.refl _ _)).mono ?_
  rintro e w2 ⟨i, b, rfl, hfr, hb2⟩
  obtain rfl := find_none hfr HNO.out
  have HB2 := Lib.hid hb2
  clear hfr hb2 HF
  go_wp2_with fail
  go_ret
  exact ⟨rfl, HB2.out⟩

set_option maxRecDepth 100000 in
set_option maxHeartbeats 8000000 in
theorem dset_no (vs : List Vr) (hl : vs.length ≤ 10000) (hs : Rise vs) (va : Option Addr) (n vc d : Nat) (most t : Int) (w : World) (hn : n = vs.length) (hr : RdS w 6 (.slice va n vc) (vs.map Vr.cells)) (hd : w.heap[d]? = some (.cells #[.int .i64 most, .slice va n vc] 121 (0, 0))) (hno : ∀ y ∈ vs, y.i ≠ t) (y1 y2 y3 y4 : Int) :
    Calls Try.prog 37 #[.pointer (some ⟨d, 0, none⟩), .int .i64 t, .agg #[.int .i64 y1, .int .i64 y2, .int .i64 y3, .int .i64 y4]] w fun e w' => e = .returned (.bool false) ∧ Below w.heap.size w w' := by
  have hdl : d < w.heap.size := (Array.getElem?_eq_some_iff.1 hd).1
  have HR := Lib.hid hr
  have HF := Lib.hid fun w' (h : Below w.heap.size w w') => find_any vs (by omega) hs va n vc d most t w' hn (HR.out.kept h) ((h.block d hdl).trans hd)
  have HNO := Lib.hid hno
  clear hr hd hn hno hs hl
  go_enter Try.func37, Try.ntmps37
  go_wp2_with fail
  refine (HF.out _ (below_alloc w _)).mono ?_
  rintro e w2 ⟨i, b, rfl, hfr, hb2⟩
  obtain rfl := find_none hfr HNO.out
  have HB2 := Lib.hid hb2
  clear hfr hb2 HF
  go_wp2_with fail
  go_ret
  exact ⟨rfl, below_then (below_alloc w _) HB2.out⟩

set_option maxRecDepth 100000 in
set_option maxHeartbeats 8000000 in
theorem dget_no (vs : List Vr) (hl : vs.length ≤ 10000) (hs : Rise vs) (va : Option Addr) (n vc d : Nat) (most t : Int) (w : World) (hn : n = vs.length) (hr : RdS w 6 (.slice va n vc) (vs.map Vr.cells)) (hd : w.heap[d]? = some (.cells #[.int .i64 most, .slice va n vc] 121 (0, 0))) (hno : ∀ y ∈ vs, y.i ≠ t) :
    Calls Try.prog 40 #[.pointer (some ⟨d, 0, none⟩), .int .i64 t] w fun e w' => e = .returned (.tuple #[.agg #[.int .i64 0, .slice none 0 0, .int .i64 0, .int .i64 0, .int .i64 0, .int .i64 0], .bool false]) ∧ Below w.heap.size w w' := by
  have hdl : d < w.heap.size := (Array.getElem?_eq_some_iff.1 hd).1
  have HR := Lib.hid hr
  have HF := Lib.hid fun w' (h : Below w.heap.size w w') => find_any vs (by omega) hs va n vc d most t w' hn (HR.out.kept h) ((h.block d hdl).trans hd)
  have HNO := Lib.hid hno
  clear hr hd hn hno hs hl
  go_enter Try.func40, Try.ntmps40
  go_upto_region 1 with (fail)
  have hz := heap_alloc_new w (.cells #[.int .i64 0, .slice none 0 0, .int .i64 0, .int .i64 0, .int .i64 0, .int .i64 0] 84)
  have HB0 := Lib.hid (below_alloc w (.cells #[.int .i64 0, .slice none 0 0, .int .i64 0, .int .i64 0, .int .i64 0, .int .i64 0] 84))
  obtain ⟨W, hW⟩ : ∃ W : World, W = w.alloc (.cells #[.int .i64 0, .slice none 0 0, .int .i64 0, .int .i64 0, .int .i64 0, .int .i64 0] 84) := ⟨_, rfl⟩
  rw [← hW] at hz HB0 ⊢
  obtain ⟨Y, hY⟩ : ∃ Y, Y = w.heap.size := ⟨_, rfl⟩
  have HYY := Lib.hid hY
  rw [← hY] at hz ⊢
  have HZ := Lib.hid hz
  clear hW hY hz
  go_wp2_with fail
  refine (HF.out W HB0.out).mono ?_
  rintro e w2 ⟨i, b, rfl, hfr, hb2⟩
  obtain rfl := find_none hfr HNO.out
  have HB2 := Lib.hid (below_then HB0.out hb2)
  have hy := (hb2.block Y (Array.getElem?_eq_some_iff.1 HZ.out).1).trans HZ.out
  have HY2 := Lib.hid hy
  have cy0 : w2.cell? ⟨Y, 0, none⟩ = some (.int .i64 0) := by rw [cell_of_row w2 Y 0 _ _ _ hy]; rfl
  have cyf0 : w2.frozen? ⟨Y, 0, none⟩ = false := frozen_of_row w2 Y 0 _ _ hy
  have cy1 : w2.cell? ⟨Y, 1, none⟩ = some (.slice none 0 0) := by rw [cell_of_row w2 Y 1 _ _ _ hy]; rfl
  have cyf1 : w2.frozen? ⟨Y, 1, none⟩ = false := frozen_of_row w2 Y 1 _ _ hy
  have cy2 : w2.cell? ⟨Y, 2, none⟩ = some (.int .i64 0) := by rw [cell_of_row w2 Y 2 _ _ _ hy]; rfl
  have cyf2 : w2.frozen? ⟨Y, 2, none⟩ = false := frozen_of_row w2 Y 2 _ _ hy
  have cy3 : w2.cell? ⟨Y, 3, none⟩ = some (.int .i64 0) := by rw [cell_of_row w2 Y 3 _ _ _ hy]; rfl
  have cyf3 : w2.frozen? ⟨Y, 3, none⟩ = false := frozen_of_row w2 Y 3 _ _ hy
  have cy4 : w2.cell? ⟨Y, 4, none⟩ = some (.int .i64 0) := by rw [cell_of_row w2 Y 4 _ _ _ hy]; rfl
  have cyf4 : w2.frozen? ⟨Y, 4, none⟩ = false := frozen_of_row w2 Y 4 _ _ hy
  have cy5 : w2.cell? ⟨Y, 5, none⟩ = some (.int .i64 0) := by rw [cell_of_row w2 Y 5 _ _ _ hy]; rfl
  have cyf5 : w2.frozen? ⟨Y, 5, none⟩ = false := frozen_of_row w2 Y 5 _ _ hy
  clear hfr hb2 hy HF
  go_wp2_with fail
  refine bodyPost_ret (results_cell_tmp rfl _ _ Y _ _ (0, 0) _ _ rfl rfl (six_heap HY2.out) Try.underlying84 rfl infoVersion) rfl ?_
  have hY := HYY.out
  refine ⟨rfl, ?_⟩
  exact (((((HB2.out.setCell (p := ⟨Y, 0, none⟩) (by show _ ≤ Y; omega) _).setCell (p := ⟨Y, 1, none⟩) (by show _ ≤ Y; omega) _).setCell (p := ⟨Y, 2, none⟩) (by show _ ≤ Y; omega) _).setCell (p := ⟨Y, 3, none⟩) (by show _ ≤ Y; omega) _).setCell (p := ⟨Y, 4, none⟩) (by show _ ≤ Y; omega) _).setCell (p := ⟨Y, 5, none⟩) (by show _ ≤ Y; omega) _

end Go.Proofs.Ytnfjdoeemnhkbaa
