/-
  Contracts of layer 12: Add in the middle where there is room, Add refused, Drop.
-/
import Derived.Test.YtnfjdoeemnhkbaaDltf
namespace Go.Proofs.Ytnfjdoeemnhkbaa
set_option linter.unusedVariables false
set_option linter.unusedSimpArgs false
open Go.RowKit

theorem flat_cut (sz : Nat) : ∀ (css : List (List Value)), (∀ t ∈ css, t.length = sz) → ∀ p, css.flatten.take (p * sz) = (css.take p).flatten ∧ css.flatten.drop (p * sz) = (css.drop p).flatten
  | [], _, p => by simp
  | x :: r, h, 0 => by simp
  | x :: r, h, p + 1 => by
    have hx := h x List.mem_cons_self
    obtain ⟨h1, h2⟩ := flat_cut sz r (fun t ht => h t (List.mem_cons_of_mem _ ht)) p
    rw [List.flatten_cons, List.take_succ_cons, List.drop_succ_cons, List.flatten_cons, List.take_append, List.drop_append, List.take_of_length_le (by rw [hx, Nat.add_mul]; omega), List.drop_eq_nil_of_le (by rw [hx, Nat.add_mul]; omega), hx,
      show (p + 1) * sz - sz = p * sz by rw [Nat.add_mul]; omega, h1, h2, List.nil_append]
    exact ⟨rfl, rfl⟩
theorem vr_one (vs : List Vr) : ∀ u ∈ (vs.map Vr.cells).flatten, u.oneCell' = true := fun u hu => by
  obtain ⟨t, ht, hu2⟩ := List.mem_flatten.1 hu
  obtain ⟨x, _, rfl⟩ := List.mem_map.1 ht
  simp [Vr.cells] at hu2
  rcases hu2 with h | h | h | h | h | h <;> rw [h] <;> rfl

set_option maxRecDepth 100000 in
set_option maxHeartbeats 8000000 in
theorem dadd_mid (vs : List Vr) (hl : vs.length ≤ 10000) (hs : Rise vs) (g n vc d base p : Nat) (most : Int) (xi x1 x2 x3 x4 : Int) (xra : Option Addr) (xrn xrc : Nat) (l : List (Vc × Value)) (hll : l.length ≤ 1000000) (w : World) (hn : n = vs.length)
    (hown : w.ownsRow base 84 6 (.slice (some ⟨g, 0, none⟩) n vc) n (vs.map Vr.cells).flatten) (hbase : base ≤ d) (hdv : g ≠ d)
    (hd : w.heap[d]? = some (.cells #[.int .i64 most, .slice (some ⟨g, 0, none⟩) n vc] 121 (0, 0))) (hmost : (n : Int) < most) (hp : p < n) (hroom : n < vc) (hlt : ∀ k y, k < p → vs[k]? = some y → y.i < xi) (hgt : ∀ k y, p ≤ k → vs[k]? = some y → xi < y.i) (hx : RdP w (.slice xra xrn xrc) l) (hbig : ∀ t ∈ l, t.1.b.length ≤ 1000000) :
    Calls Try.prog 36 #[.pointer (some ⟨d, 0, none⟩), .agg #[.int .i64 xi, .slice xra xrn xrc, .int .i64 x1, .int .i64 x2, .int .i64 x3, .int .i64 x4]] w fun e w' => e = .returned (.bool true) ∧ ∃ (na : Option Addr) (nn nc : Nat) (l' : List (Vc × Value)) (w1 : World),
      w'.heap[d]? = some (.cells #[.int .i64 most, .slice (some ⟨g, 0, none⟩) (n + 1) vc] 121 (0, 0)) ∧ w'.ownsRow base 84 6 (.slice (some ⟨g, 0, none⟩) (n + 1) vc) (n + 1) ((vs.take p ++ [(⟨xi, na, nn, nc, x1, x2, x3, x4⟩ : Vr)] ++ vs.drop p).map Vr.cells).flatten ∧
      l'.map Prod.fst = l.map Prod.fst ∧ RdRA w.heap.size w1 (.slice na nn nc) l' ∧ Above w.heap.size w1 w' ∧ w.heap.size ≤ w1.heap.size ∧ w1.heap.size ≤ w'.heap.size ∧
      Below base w w' ∧ (∀ b, b < w.heap.size → b ≠ d → b ≠ g → w'.heap[b]? = w.heap[b]?) := by
  have hdl : d < w.heap.size := (Array.getElem?_eq_some_iff.1 hd).1
  have HR := Lib.hid (rdS_own hown (by rw [List.length_map]; exact hn) (vr_len vs))
  have HO := Lib.hid hown
  have HD := Lib.hid hd
  have HDV := Lib.hid hdv
  have HF := Lib.hid fun w' (h : Below w.heap.size w w') => find_any vs (by omega) hs (some ⟨g, 0, none⟩) n vc d most xi w' hn (HR.out.kept h) ((h.block d hdl).trans hd)
  have HV := Lib.hid fun w' (h : Below w.heap.size w w') => fver_any xi x1 x2 x3 x4 xra xrn xrc l hll w' (hx.kept h) hbig
  have HN := Lib.hid hn
  have HGT := Lib.hid hgt
  have HLT := Lib.hid hlt
  have hgl : g < w.heap.size := own_lt hown g rfl
  have hnl : n ≤ 10000 := by omega
  have hdb : base ≤ w.heap.size := by omega
  clear hown hd hdv hx hbig hs hn hgt hlt hl hll
  go_enter Try.func36, Try.ntmps36
  go_upto_region 1 with (fail)
  have hz := heap_alloc_new w (.cells #[.int .i64 xi, .slice xra xrn xrc, .int .i64 x1, .int .i64 x2, .int .i64 x3, .int .i64 x4] 84)
  have HB0 := Lib.hid (below_alloc w (.cells #[.int .i64 xi, .slice xra xrn xrc, .int .i64 x1, .int .i64 x2, .int .i64 x3, .int .i64 x4] 84))
  obtain ⟨W, hW⟩ : ∃ W : World, W = w.alloc (.cells #[.int .i64 xi, .slice xra xrn xrc, .int .i64 x1, .int .i64 x2, .int .i64 x3, .int .i64 x4] 84) := ⟨_, rfl⟩
  obtain ⟨X, hX⟩ : ∃ X, X = w.heap.size := ⟨_, rfl⟩
  have HXX := Lib.hid hX
  rw [← hW] at hz HB0 ⊢
  rw [← hX] at hz ⊢
  have HX0 := Lib.hid hz
  have cx0 : W.cell? ⟨X, 0, none⟩ = some (.int .i64 xi) := by rw [cell_of_row W X 0 _ _ _ hz]; rfl
  clear hW hX hz
  go_wp2_with fail
  refine (HF.out W HB0.out).mono ?_
  rintro e w2 ⟨i, b, rfl, ⟨hi, hlo, hhi, hbb⟩, hb2⟩
  have hin : i = p := by
    rcases Nat.lt_trichotomy i p with h | h | h
    · exfalso
      obtain ⟨y, hy⟩ : ∃ y, vs[i]? = some y := ⟨_, List.getElem?_eq_getElem (by have := HN.out; omega)⟩
      have h2 := HLT.out i y h hy
      have h3 := hhi i y (Nat.le_refl _) hy
      omega
    · exact h
    · exfalso
      obtain ⟨y, hy⟩ : ∃ y, vs[p]? = some y := ⟨_, List.getElem?_eq_getElem (by have := HN.out; omega)⟩
      have h2 := HGT.out p y (Nat.le_refl _) hy
      have h3 := hlo p y h hy
      omega
  subst hin
  have hbf : b = false := by
    obtain ⟨y, hy⟩ : ∃ y, vs[i]? = some y := ⟨_, List.getElem?_eq_getElem (by have := HN.out; omega)⟩
    have h2 := HGT.out i y (Nat.le_refl _) hy
    rw [hbb, hy]
    show (some y.i == some xi) = false
    rw [beq_eq_false_iff_ne]
    intro h
    have := Option.some.inj h
    omega
  subst hbf
  have HB2 := Lib.hid (below_then HB0.out hb2)
  have hx2 := (hb2.block X (Array.getElem?_eq_some_iff.1 HX0.out).1).trans HX0.out
  have hd2 := (HB2.out.block d hdl).trans HD.out
  have HX2 := Lib.hid hx2
  have HD2 := Lib.hid hd2
  have c0 : w2.cell? ⟨d, 0, none⟩ = some (.int .i64 most) := by rw [cell_of_row w2 d 0 _ _ _ hd2]; rfl
  have c1 : w2.cell? ⟨d, 1, none⟩ = some (.slice (some ⟨g, 0, none⟩) n vc) := by rw [cell_of_row w2 d 1 _ _ _ hd2]; rfl
  have hm1 : decide ((n : Int) ≥ most) = false := by rw [decide_eq_false_iff_not]; omega
  have hm2 : decide (most ≤ (n : Int)) = false := by rw [decide_eq_false_iff_not]; omega
  have hm3 : ¬ (most ≤ (n : Int)) := by omega
  clear hi hlo hhi hbb hb2 hx2 hd2 cx0
  go_upto_region 2 with (fail)
  go_quiet (fail)
  go_upto_region 4 with (fail)
  have hx4 := HX2.out
  obtain ⟨W4, hW4⟩ : ∃ W4 : World, W4 = w2.drewN nq := ⟨_, rfl⟩
  have hb4 : Below w2.heap.size w2 W4 := by rw [hW4]; exact below_draws (Below.refl _ _) _
  rw [← hW4]
  have HB4 := Lib.hid (below_then HB2.out hb4)
  replace hx4 := (hb4.block X (Array.getElem?_eq_some_iff.1 hx4).1).trans hx4
  have hd4 := (hb4.block d (Array.getElem?_eq_some_iff.1 HD2.out).1).trans HD2.out
  have HX4 := Lib.hid hx4
  have HD4 := Lib.hid hd4
  have c14 : W4.cell? ⟨d, 1, none⟩ = some (.slice (some ⟨g, 0, none⟩) n vc) := by rw [cell_of_row W4 d 1 _ _ _ hd4]; rfl
  have hSX0 := sx6 hx4
  have hil : n ≤ 100000 := by omega
  have hdX : d ≠ X := by rw [HXX.out]; omega
  have hXd : X ≠ d := Ne.symm hdX
  have HVO := Lib.hid (vr_one vs)
  have HSZ4 := Lib.hid (show w.heap.size ≤ W4.heap.size from HB4.out.size)
  clear hW4 hb4 hx4 hd4 c0 c1 hm1 hm2 hm3
  go_region_law
    (first
      | (go_simp; go_at_call 76; refine (HV.out _ ?_).mono ?_; (exact below_dr2 HB4.out); rintro e w5 ⟨na, nn, nc, l', rfl, h1, h2, hb5⟩; have hB5 : Below W4.heap.size W4 w5 := below_then (below_drw _ _) hb5; have hx5 := (hB5.block X (Array.getElem?_eq_some_iff.1 HX4.out).1).trans HX4.out; have hd5 := (hB5.block d (Array.getElem?_eq_some_iff.1 HD4.out).1).trans HD4.out; have hx5a := fun o : Obj => (heap_alloc_old w5 o (Array.getElem?_eq_some_iff.1 hx5).1).trans hx5; have hd5a := fun o : Obj => (heap_alloc_old w5 o (Array.getElem?_eq_some_iff.1 hd5).1).trans hd5; have c15 : w5.cell? ⟨d, 1, none⟩ = some (.slice (some ⟨g, 0, none⟩) n vc) := (by rw [cell_of_row w5 d 1 _ _ _ hd5]; rfl); have c15a : ∀ o : Obj, (w5.alloc o).cell? ⟨d, 1, none⟩ = some (.slice (some ⟨g, 0, none⟩) n vc) := (fun o => by rw [cell_of_row _ d 1 _ _ _ (hd5a o)]; rfl); have H1 := Lib.hid h1; have H2 := Lib.hid h2; have HB5 := Lib.hid (below_then HB4.out hB5); have hdone5 := True.intro)
      | (go_simp; go_at_call 75; have q2 := le_alloc (Nat.le_trans hdb HB5.out.size) (.cells #[.int .i64 xi, .slice na nn nc, .int .i64 x1, .int .i64 x2, .int .i64 x3, .int .i64 x4] 84); have q40 : w5.ownsRow base 84 6 (.slice (some ⟨g, 0, none⟩) n vc) n (vs.map Vr.cells).flatten := own_kept HO.out HB5.out; have q4 := q40.alloc (.cells #[.int .i64 xi, .slice na nn nc, .int .i64 x1, .int .i64 x2, .int .i64 x3, .int .i64 x4] 84); have hneg : w5.heap.size ≠ g := (by have h := HB5.out.size; omega); refine (ins_mid base g n vc i w5.heap.size _ [.int .i64 xi, .slice na nn nc, .int .i64 x1, .int .i64 x2, .int .i64 x3, .int .i64 x4] hp hil hroom _ q4 HVO.out rfl (ones6 _ _ _ _ _ _ _ _ _ (List.mem_singleton.2 rfl)).2 (heap_alloc_new w5 _) hneg).mono ?_; rintro e w6 ⟨rfl, hown6, hgrow6⟩; have hd6 := (hgrow6.block d (lt_alloc (Nat.lt_of_lt_of_le hdl HB5.out.size) _) (fun e => HDV.out (Option.some.inj e).symm)).trans (hd5a _); have hx6 := (hgrow6.block X (lt_alloc (Array.getElem?_eq_some_iff.1 hx5).1 _) (fun e => Nat.lt_irrefl _ ((HXX.out ▸ Option.some.inj e) ▸ hgl))).trans (hx5a _); have hx6s := fun v : Value => (heap_setCell_other w6 ⟨d, 1, none⟩ X v hXd).trans hx6; have c16 : w6.cell? ⟨d, 1, none⟩ = some (.slice (some ⟨g, 0, none⟩) n vc) := (by rw [cell_of_row w6 d 1 _ _ _ hd6]; rfl); have f16 : w6.frozen? ⟨d, 1, none⟩ = false := frozen_of_row w6 d 1 _ _ hd6; have HD6 := Lib.hid hd6; have HO6 := Lib.hid hown6; have HG6 := Lib.hid hgrow6)
      | fail)
  all_goals
    go_wp2_with fail
    go_ret
    have hsz5 := HB5.out.size
    have hbl : ∀ b, b < w5.heap.size → b ≠ d → b ≠ g → (w6.setCell ⟨d, 1, none⟩ (.slice (some ⟨g, 0, none⟩) (n + 1) vc)).heap[b]? = w5.heap[b]? := fun b h1 h2 h3 =>
      (heap_setCell_other w6 ⟨d, 1, none⟩ b _ h2).trans ((HG6.out.block b (lt_alloc h1 _) (fun e => h3 (Option.some.inj e))).trans (heap_alloc_old w5 _ h1))
    refine ⟨rfl, na, nn, nc, l', w5, ?_, ?_, H1.out, H2.out.above (Above.refl _ _) HSZ4.out, ?_, hsz5, ?_, ?_, ?_⟩
    · have h := heap_setCell_same w6 d 1 _ _ (.slice (some ⟨g, 0, none⟩) (n + 1) vc) HD6.out
      simpa only [List.setIfInBounds_toArray, List.set_cons_zero, List.set_cons_succ] using h
    · have h := HO6.out.kept (grown_setCell w6 ⟨d, 1, none⟩ (.slice (some ⟨g, 0, none⟩) (n + 1) vc)) (.inr (fun e => HDV.out (Option.some.inj e)))
      obtain ⟨f1, f2⟩ := flat_cut 6 (vs.map Vr.cells) (vr_len vs) i
      rw [f1, f2, ← List.map_take, ← List.map_drop] at h
      rw [List.map_append, List.map_append, List.flatten_append, List.flatten_append]
      simpa [Vr.cells] using h
    · exact fun b h1 h2 => hbl b h2 (by omega) (by omega)
    · have h1 := HG6.out.size
      simp at h1
      simp [World.setCell]
      omega
    · exact (Below.grown (below_alloc_b (HB5.out.mono hdb) _ (Nat.le_trans hdb hsz5)) HG6.out (le_alloc (Nat.le_trans hdb hsz5) _) (fun k e => by cases e; exact own_base HO.out _ rfl)).setCell (p := ⟨d, 1, none⟩) hbase _
    · exact fun b h1 h2 h3 => (hbl b (by omega) h2 h3).trans (HB5.out.block b h1)

set_option maxRecDepth 100000 in
set_option maxHeartbeats 8000000 in
theorem dadd_no (vs : List Vr) (hl : vs.length ≤ 10000) (hs : Rise vs) (va : Option Addr) (n vc d : Nat) (most : Int) (xi x1 x2 x3 x4 : Int) (xra : Option Addr) (xrn xrc : Nat) (w : World) (hn : n = vs.length)
    (hr : RdS w 6 (.slice va n vc) (vs.map Vr.cells)) (hd : w.heap[d]? = some (.cells #[.int .i64 most, .slice va n vc] 121 (0, 0))) (hno : most ≤ (n : Int) ∨ ∃ y ∈ vs, y.i = xi) :
    Calls Try.prog 36 #[.pointer (some ⟨d, 0, none⟩), .agg #[.int .i64 xi, .slice xra xrn xrc, .int .i64 x1, .int .i64 x2, .int .i64 x3, .int .i64 x4]] w fun e w' => e = .returned (.bool false) ∧ Below w.heap.size w w' := by
  have hdl : d < w.heap.size := (Array.getElem?_eq_some_iff.1 hd).1
  have HR := Lib.hid hr
  have HD := Lib.hid hd
  have HF := Lib.hid fun w' (h : Below w.heap.size w w') => find_any vs (by omega) hs va n vc d most xi w' hn (HR.out.kept h) ((h.block d hdl).trans hd)
  have HN := Lib.hid hn
  have HNO := Lib.hid hno
  have HRI := Lib.hid hs
  clear hr hd hn hno hs
  go_enter Try.func36, Try.ntmps36
  go_upto_region 1 with (fail)
  have hz := heap_alloc_new w (.cells #[.int .i64 xi, .slice xra xrn xrc, .int .i64 x1, .int .i64 x2, .int .i64 x3, .int .i64 x4] 84)
  have HB0 := Lib.hid (below_alloc w (.cells #[.int .i64 xi, .slice xra xrn xrc, .int .i64 x1, .int .i64 x2, .int .i64 x3, .int .i64 x4] 84))
  obtain ⟨W, hW⟩ : ∃ W : World, W = w.alloc (.cells #[.int .i64 xi, .slice xra xrn xrc, .int .i64 x1, .int .i64 x2, .int .i64 x3, .int .i64 x4] 84) := ⟨_, rfl⟩
  obtain ⟨X, hX⟩ : ∃ X, X = w.heap.size := ⟨_, rfl⟩
  rw [← hW] at hz HB0 ⊢
  rw [← hX] at hz ⊢
  have cx0 : W.cell? ⟨X, 0, none⟩ = some (.int .i64 xi) := by rw [cell_of_row W X 0 _ _ _ hz]; rfl
  clear hW hX hz
  go_wp2_with fail
  refine (HF.out W HB0.out).mono ?_
  rintro e w2 ⟨i, b, rfl, ⟨hi, hlo, hhi, hbb⟩, hb2⟩
  have HB2 := Lib.hid (below_then HB0.out hb2)
  have hd2 := (HB2.out.block d hdl).trans HD.out
  have c0 : w2.cell? ⟨d, 0, none⟩ = some (.int .i64 most) := by rw [cell_of_row w2 d 0 _ _ _ hd2]; rfl
  have c1 : w2.cell? ⟨d, 1, none⟩ = some (.slice va n vc) := by rw [cell_of_row w2 d 1 _ _ _ hd2]; rfl
  have hbm : b = false → most ≤ (n : Int) := fun hb => by
    rcases HNO.out with h | ⟨y, hy, hyx⟩
    · exact h
    · exfalso
      obtain ⟨k, hk⟩ := List.getElem?_of_mem hy
      have h1 : ¬ k < i := fun h => by have := hlo k y h hk; omega
      have hik : i < vs.length := by have := (List.getElem?_eq_some_iff.1 hk).1; omega
      obtain ⟨z, hz⟩ : ∃ z, vs[i]? = some z := ⟨_, List.getElem?_eq_getElem hik⟩
      have h2 := hhi i z (Nat.le_refl _) hz
      have h3 : z.i = xi := by
        rcases Nat.lt_or_ge i k with h | h
        · have := HRI.out i k z y h hz hk
          omega
        · have : i = k := by omega
          subst this
          rw [hk] at hz
          rw [← Option.some.inj hz]
          exact hyx
      rw [hbb, hz] at hb
      rw [show (some z).map Vr.i = some xi by rw [← h3]; rfl] at hb
      simp at hb
  clear hi hlo hhi hbb hb2 hd2 cx0
  cases b
  · have hm := hbm rfl
    have hm1 : decide ((n : Int) ≥ most) = true := by rw [decide_eq_true_iff]; exact hm
    have hm2 : decide (most ≤ (n : Int)) = true := by rw [decide_eq_true_iff]; exact hm
    clear hbm
    go_upto_region 2 with (fail)
    go_quiet (fail)
    go_wp2_with fail
    go_ret
    exact ⟨rfl, below_draws HB2.out _⟩
  · clear hbm
    go_upto_region 2 with (fail)
    go_quiet (fail)
    go_wp2_with fail
    go_ret
    exact ⟨rfl, below_draws HB2.out _⟩

set_option maxRecDepth 100000 in
set_option maxHeartbeats 8000000 in
theorem ddrop_at (vs : List Vr) (hl : vs.length ≤ 10000) (hs : Rise vs) (g n vc d base : Nat) (most t : Int) (p : Nat) (x : Vr) (w : World) (hn : n = vs.length)
    (hown : w.ownsRow base 84 6 (.slice (some ⟨g, 0, none⟩) n vc) n (vs.map Vr.cells).flatten) (hbase : base ≤ d) (hdv : g ≠ d)
    (hd : w.heap[d]? = some (.cells #[.int .i64 most, .slice (some ⟨g, 0, none⟩) n vc] 121 (0, 0))) (hp : vs[p]? = some x) (hxt : x.i = t) :
    Calls Try.prog 39 #[.pointer (some ⟨d, 0, none⟩), .int .i64 t] w fun e w' => e = .returned (.bool true) ∧
      w'.heap[d]? = some (.cells #[.int .i64 most, .slice (some ⟨g, 0, none⟩) (n - 1) vc] 121 (0, 0)) ∧ w'.ownsRow base 84 6 (.slice (some ⟨g, 0, none⟩) (n - 1) vc) (n - 1) ((vs.take p ++ vs.drop (p + 1)).map Vr.cells).flatten ∧
      Below base w w' ∧ (∀ b, b < w.heap.size → b ≠ d → b ≠ g → w'.heap[b]? = w.heap[b]?) := by
  have hdl : d < w.heap.size := (Array.getElem?_eq_some_iff.1 hd).1
  have hgl : g < w.heap.size := own_lt hown g rfl
  have hgb : base ≤ g := own_base hown g rfl
  have HR := Lib.hid (rdS_own hown (by rw [List.length_map]; exact hn) (vr_len vs))
  have HO := Lib.hid hown
  have HD := Lib.hid hd
  have HF := Lib.hid fun w' (h : Below w.heap.size w w') => find_any vs (by omega) hs (some ⟨g, 0, none⟩) n vc d most t w' hn (HR.out.kept h) ((h.block d hdl).trans hd)
  have HN := Lib.hid hn
  have HP := Lib.hid hp
  have HRI := Lib.hid hs
  have HXT := Lib.hid hxt
  have hpn : p < n := by rw [hn]; exact (List.getElem?_eq_some_iff.1 hp).1
  have hnl : n ≤ 10000 := by omega
  have hdb : base ≤ w.heap.size := by omega
  have HVO := Lib.hid (vr_one vs)
  clear hown hd hs hn hl hp hxt
  go_enter Try.func39, Try.ntmps39
  go_wp2_with fail
  refine (HF.out w (Below.refl _ _)).mono ?_
  rintro e w2 ⟨i, b, rfl, ⟨hi, hlo, hhi, hbb⟩, hb2⟩
  have hip : i = p := by
    have h1 := HXT.out
    rcases Nat.lt_trichotomy i p with h | h | h
    · exfalso
      obtain ⟨y, hy⟩ : ∃ y, vs[i]? = some y := ⟨_, List.getElem?_eq_getElem (by have := HN.out; omega)⟩
      have h2 := HRI.out i p y _ h hy HP.out
      have h3 := hhi i y (Nat.le_refl _) hy
      omega
    · exact h
    · exfalso
      have h2 := hlo p _ h HP.out
      omega
  subst hip
  have hbt : b = true := by
    rw [hbb, HP.out, ← HXT.out]
    simp
  subst hbt
  have HB2 := Lib.hid hb2
  have hd2 := (hb2.block d hdl).trans HD.out
  have HD2 := Lib.hid hd2
  have c1 : w2.cell? ⟨d, 1, none⟩ = some (.slice (some ⟨g, 0, none⟩) n vc) := by rw [cell_of_row w2 d 1 _ _ _ hd2]; rfl
  have HDE := Lib.hid (del_one base g n vc i _ hpn (by omega) w2 (own_kept HO.out HB2.out) HVO.out)
  clear hi hlo hhi hbb hb2 hd2
  have hini : (i : Int) < (n : Int) := by omega
  have hi0 : (0 : Int) ≤ (i : Int) := by omega
  go_wp2_with fail
  refine HDE.out.mono ?_
  rintro e w6 ⟨rfl, hown6, hgrow6⟩
  have hd6 := (hgrow6.block d (Array.getElem?_eq_some_iff.1 HD2.out).1 (fun e => hdv (Option.some.inj e).symm)).trans HD2.out
  have HD6 := Lib.hid hd6
  have c16 : w6.cell? ⟨d, 1, none⟩ = some (.slice (some ⟨g, 0, none⟩) n vc) := by rw [cell_of_row w6 d 1 _ _ _ hd6]; rfl
  have f16 : w6.frozen? ⟨d, 1, none⟩ = false := frozen_of_row w6 d 1 _ _ hd6
  have HO6 := Lib.hid hown6
  have HG6 := Lib.hid hgrow6
  clear hd6 hown6 hgrow6 c1
  go_wp2_with fail
  go_ret
  refine ⟨rfl, ?_, ?_, ?_, ?_⟩
  · have h := heap_setCell_same w6 d 1 _ _ (.slice (some ⟨g, 0, none⟩) (n - 1) vc) HD6.out
    simpa only [List.setIfInBounds_toArray, List.set_cons_zero, List.set_cons_succ] using h
  · have h := HO6.out.kept (grown_setCell w6 ⟨d, 1, none⟩ (.slice (some ⟨g, 0, none⟩) (n - 1) vc)) (.inr (fun e => hdv (Option.some.inj e)))
    obtain ⟨f1, _⟩ := flat_cut 6 (vs.map Vr.cells) (vr_len vs) i
    obtain ⟨_, f2⟩ := flat_cut 6 (vs.map Vr.cells) (vr_len vs) (i + 1)
    rw [f1, f2, ← List.map_take, ← List.map_drop] at h
    rw [List.map_append, List.flatten_append]
    exact h
  · exact (Below.grown (HB2.out.mono hdb) HG6.out (Nat.le_trans hdb HB2.out.size) (fun k e => by cases e; exact hgb)).setCell (p := ⟨d, 1, none⟩) hbase _
  · exact fun b h1 h2 h3 => (heap_setCell_other w6 ⟨d, 1, none⟩ b _ h2).trans ((HG6.out.block b (Nat.lt_of_lt_of_le h1 HB2.out.size) (fun e => h3 (Option.some.inj e))).trans (HB2.out.block b h1))

end Go.Proofs.Ytnfjdoeemnhkbaa
