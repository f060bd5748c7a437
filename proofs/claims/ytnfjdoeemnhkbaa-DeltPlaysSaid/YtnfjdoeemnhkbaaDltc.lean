/-
  Contracts: slices.Insert of versions, at their end; layer 12's Add of the greatest ID, Put.
-/
import Derived.Test.YtnfjdoeemnhkbaaDltb
import Derived.Test.YtnfjdoeemnhkbaaLpred
namespace Go.Proofs.Ytnfjdoeemnhkbaa
set_option linter.unusedVariables false
set_option linter.unusedSimpArgs false
open Go.RowKit

theorem elmVersion : Elm Try.prog 119 84 6 64 := by
  have hi0 : ∃ i, Try.prog.info? 84 = some i ∧ i.zero = some (.agg #[.int .i64 0, .slice none 0 0, .int .i64 0, .int .i64 0, .int .i64 0, .int .i64 0]) ∧ i.size = 6 ∧ i.bytes = 64 := by
    have h := infoVersion3
    cases hq : Try.prog.info? 84 with
    | none => rw [hq] at h; cases h
    | some i =>
      rw [hq] at h
      simp only [Option.map_some, Option.some.injEq, Prod.mk.injEq] at h
      exact ⟨i, rfl, h⟩
  obtain ⟨i, h1, h2, h3, h4⟩ := hi0
  exact ⟨Try.underlying119, ⟨i, _, h1, h2, h3, h4, rfl⟩, by decide, by decide⟩
theorem flatten_set6 (sz : Nat) : ∀ (css : List (List Value)), (∀ t ∈ css, t.length = sz) → ∀ (j i : Nat) (t : List Value) (v : Value), css[j]? = some t → i < sz → css.flatten.set (j * sz + i) v = (css.set j (t.set i v)).flatten
  | [], _, j, i, t, v, h, _ => by simp at h
  | x :: r, hl, 0, i, t, v, h, hi => by
    simp only [List.getElem?_cons_zero, Option.some.injEq] at h
    subst h
    have hx := hl x List.mem_cons_self
    rw [List.flatten_cons, Nat.zero_mul, Nat.zero_add, List.set_append, if_pos (by rw [hx]; exact hi), List.set_cons_zero, List.flatten_cons]
  | x :: r, hl, j + 1, i, t, v, h, hi => by
    rw [List.getElem?_cons_succ] at h
    have hx := hl x List.mem_cons_self
    rw [List.flatten_cons, List.set_append, if_neg (by rw [hx, Nat.add_mul]; omega), hx, show (j + 1) * sz + i - sz = j * sz + i by rw [Nat.add_mul]; omega, flatten_set6 sz r (fun t ht => hl t (List.mem_cons_of_mem _ ht)) j i t v h hi, List.set_cons_succ, List.flatten_cons]
theorem vr_len (vs : List Vr) : ∀ t ∈ vs.map Vr.cells, t.length = 6 := fun t ht => by obtain ⟨x, _, rfl⟩ := List.mem_map.1 ht; rfl

set_option maxRecDepth 100000 in
set_option maxHeartbeats 8000000 in
theorem ins_end (base : Nat) (va : Option Addr) (n vc : Nat) (xs cs : List Value) (y : Value) (hn : n ≤ 100000) (w : World) (hown : w.ownsRow base 84 6 (.slice va n vc) n xs) (hb : base ≤ w.heap.size) (hy : RdS w 6 y [cs]) (h1 : Ones 6 [cs]) :
    Calls Try.prog 75 #[.slice va n vc, .int .i64 (n : Int), y] w fun e w' => ∃ (ao : Option Addr) (cap : Nat), e = .returned (.slice ao (n + 1) cap) ∧ w'.ownsRow base 84 6 (.slice ao (n + 1) cap) (n + 1) (xs ++ cs) ∧ w.grownBy w' (Value.slice va n vc).ownBlock ∧ (∀ g, (Value.slice ao (n + 1) cap).ownBlock = some g → (Value.slice va n vc).ownBlock = some g ∨ g = w.heap.size) := by
  obtain ⟨ya, yc, rfl⟩ := rdS_shape hy
  have e1 : [cs].length = 1 := rfl
  rw [e1] at hy ⊢
  have HO := Lib.hid hown
  have HY := Lib.hid hy
  have HON := Lib.hid h1
  rcases hown.2 with ⟨hv, h0⟩ | ⟨g, cap, cur, hv, hbg, hh, r⟩
  · simp only [Value.slice.injEq] at hv
    obtain ⟨rfl, rfl, rfl⟩ := hv
    clear hown hy h1 h0
    go_enter Try.func75, Try.ntmps75
    go_wp2_with (at_builtin; go_must (refine wpList_append_k elmVersion rfl _ _ rfl base _ _ _ rfl HO.out _ [cs] rfl HY.out HON.out (by simp) hb (0 + 1) rfl ?_); intro ao4 cap4 w4 hown4 hgrow4 hnew4; have HO4 := Lib.hid hown4; have HG4 := Lib.hid hgrow4; have HN4 := Lib.hid hnew4; clear hown4 hgrow4 hnew4)
    go_ret
    exact ⟨ao4, cap4, rfl, by have h := HO4.out; rw [List.flatten_cons, List.flatten_nil, List.append_nil] at h; exact h, HG4.out, HN4.out⟩
  · simp only [Value.slice.injEq] at hv
    obtain ⟨rfl, _, rfl⟩ := hv
    have hnc : n ≤ vc := r.1
    have hnci : (n : Int) ≤ (vc : Int) := by omega
    have hn0 : (0 : Int) ≤ (n : Int) := by omega
    clear hown hy h1 hh r
    by_cases hck : vc = n
    · subst hck
      go_enter Try.func75, Try.ntmps75
      go_wp2_with (at_builtin; go_must (refine wpList_append_k elmVersion rfl _ _ rfl base _ _ _ rfl HO.out _ [cs] rfl HY.out HON.out (by simp; omega) hb (vc + 1) rfl ?_); intro ao4 cap4 w4 hown4 hgrow4 hnew4; have HO4 := Lib.hid hown4; have HG4 := Lib.hid hgrow4; have HN4 := Lib.hid hnew4; clear hown4 hgrow4 hnew4)
      go_ret
      exact ⟨ao4, cap4, rfl, by have h := HO4.out; rw [List.flatten_cons, List.flatten_nil, List.append_nil] at h; exact h, HG4.out, HN4.out⟩
    · have hck2 : (vc == n) = false := by rw [beq_eq_false_iff_ne]; exact hck
      go_enter Try.func75, Try.ntmps75
      go_wp2_with (at_builtin; go_must (refine wpList_append_k elmVersion rfl _ _ rfl base _ _ _ rfl HO.out _ [cs] rfl HY.out HON.out (by simp; omega) hb (n + 1) rfl ?_); intro ao4 cap4 w4 hown4 hgrow4 hnew4; have HO4 := Lib.hid hown4; have HG4 := Lib.hid hgrow4; have HN4 := Lib.hid hnew4; clear hown4 hgrow4 hnew4)
      go_ret
      exact ⟨ao4, cap4, rfl, by have h := HO4.out; rw [List.flatten_cons, List.flatten_nil, List.append_nil] at h; exact h, HG4.out, HN4.out⟩

theorem below_alloc_b {B : Nat} {w0 w : World} (h : Below B w0 w) (o : Obj) (hB : B ≤ w.heap.size) : Below B w0 (w.alloc o) := h.alloc hB o
theorem le_alloc {b : Nat} {w : World} (h : b ≤ w.heap.size) (o : Obj) : b ≤ (w.alloc o).heap.size := by simp; omega
theorem lt_alloc {b : Nat} {w : World} (h : b < w.heap.size) (o : Obj) : b < (w.alloc o).heap.size := by simp; omega
theorem ones6 (xi : Int) (na : Option Addr) (nn nc : Nat) (x1 x2 x3 x4 : Int) : Ones 6 [[.int .i64 xi, .slice na nn nc, .int .i64 x1, .int .i64 x2, .int .i64 x3, .int .i64 x4]] := fun t ht => by rw [List.mem_singleton.1 ht]; exact ⟨rfl, by simp [Value.oneCell']⟩
theorem below_dr2 {B : Nat} {w0 w : World} (h : Below B w0 w) : Below B w0 w.drew := Below.trans h ⟨rfl, rfl, rfl, Nat.le_refl _, fun _ _ => rfl⟩
theorem sx6 {w' : World} {X : Nat} {a b c d e f : Value} {T : TypeId} (h : w'.heap[X]? = some (.cells #[a, b, c, d, e, f] T (0, 0))) : w'.cell? ⟨X, 0, none⟩ = some a ∧ w'.cell? ⟨X, 1, none⟩ = some b ∧ w'.cell? ⟨X, 2, none⟩ = some c ∧ w'.cell? ⟨X, 3, none⟩ = some d ∧ w'.cell? ⟨X, 4, none⟩ = some e ∧ w'.cell? ⟨X, 5, none⟩ = some f :=
  ⟨by rw [cell_of_row w' X 0 _ _ _ h]; rfl, by rw [cell_of_row w' X 1 _ _ _ h]; rfl, by rw [cell_of_row w' X 2 _ _ _ h]; rfl, by rw [cell_of_row w' X 3 _ _ _ h]; rfl, by rw [cell_of_row w' X 4 _ _ _ h]; rfl, by rw [cell_of_row w' X 5 _ _ _ h]; rfl⟩
set_option maxRecDepth 100000 in
set_option maxHeartbeats 8000000 in
/-- What an Add, or a Put, leaves: the row of the new version lies between two worlds, and stays as it was laid. -/
theorem dadd_end (vs : List Vr) (hl : vs.length ≤ 10000) (hs : Rise vs) (va : Option Addr) (n vc d base : Nat) (most : Int) (xi x1 x2 x3 x4 : Int) (xra : Option Addr) (xrn xrc : Nat) (l : List (Vc × Value)) (hll : l.length ≤ 1000000) (w : World) (hn : n = vs.length)
    (hown : w.ownsRow base 84 6 (.slice va n vc) n (vs.map Vr.cells).flatten) (hbase : base ≤ d) (hdv : (Value.slice va n vc).ownBlock ≠ some d)
    (hd : w.heap[d]? = some (.cells #[.int .i64 most, .slice va n vc] 121 (0, 0))) (hmost : (n : Int) < most) (hgt : ∀ y ∈ vs, y.i < xi) (hx : RdP w (.slice xra xrn xrc) l) (hbig : ∀ t ∈ l, t.1.b.length ≤ 1000000) :
    Calls Try.prog 36 #[.pointer (some ⟨d, 0, none⟩), .agg #[.int .i64 xi, .slice xra xrn xrc, .int .i64 x1, .int .i64 x2, .int .i64 x3, .int .i64 x4]] w fun e w' => e = .returned (.bool true) ∧ ∃ (ao : Option Addr) (cap : Nat) (na : Option Addr) (nn nc : Nat) (l' : List (Vc × Value)) (w1 : World),
      w'.heap[d]? = some (.cells #[.int .i64 most, .slice ao (n + 1) cap] 121 (0, 0)) ∧ w'.ownsRow base 84 6 (.slice ao (n + 1) cap) (n + 1) ((vs ++ [(⟨xi, na, nn, nc, x1, x2, x3, x4⟩ : Vr)]).map Vr.cells).flatten ∧
      l'.map Prod.fst = l.map Prod.fst ∧ RdRA w.heap.size w1 (.slice na nn nc) l' ∧ Above w.heap.size w1 w' ∧ w.heap.size ≤ w1.heap.size ∧ w1.heap.size ≤ w'.heap.size ∧
      (∀ g, (Value.slice ao (n + 1) cap).ownBlock = some g → (Value.slice va n vc).ownBlock = some g ∨ w1.heap.size ≤ g) ∧
      Below base w w' ∧ (∀ b, b < w.heap.size → b ≠ d → (Value.slice va n vc).ownBlock ≠ some b → w'.heap[b]? = w.heap[b]?) := by
  have hdl : d < w.heap.size := (Array.getElem?_eq_some_iff.1 hd).1
  have HR := Lib.hid (rdS_own hown (by rw [List.length_map]; exact hn) (vr_len vs))
  have HO := Lib.hid hown
  have HD := Lib.hid hd
  have HDV := Lib.hid hdv
  have HF := Lib.hid fun w' (h : Below w.heap.size w w') => find_any vs (by omega) hs va n vc d most xi w' hn (HR.out.kept h) ((h.block d hdl).trans hd)
  have HV := Lib.hid fun w' (h : Below w.heap.size w w') => fver_any xi x1 x2 x3 x4 xra xrn xrc l hll w' (hx.kept h) hbig
  have HN := Lib.hid hn
  have HGT := Lib.hid hgt
  have hnl : n ≤ 10000 := by omega
  have hdb : base ≤ w.heap.size := by omega
  clear hown hd hdv hx hbig hs hn hgt hl hll
  go_enter Try.func36, Try.ntmps36
  go_upto_region 1 with (fail)
  have hz := heap_alloc_new w (.cells #[.int .i64 xi, .slice xra xrn xrc, .int .i64 x1, .int .i64 x2, .int .i64 x3, .int .i64 x4] 84)
  have HB0 := Lib.hid (below_alloc w (.cells #[.int .i64 xi, .slice xra xrn xrc, .int .i64 x1, .int .i64 x2, .int .i64 x3, .int .i64 x4] 84))
  obtain ⟨W, hW⟩ : ∃ W : World, W = w.alloc (.cells #[.int .i64 xi, .slice xra xrn xrc, .int .i64 x1, .int .i64 x2, .int .i64 x3, .int .i64 x4] 84) := ⟨_, rfl⟩
  obtain ⟨X, hX⟩ : ∃ X, X = w.heap.size := ⟨_, rfl⟩
  have HXX := Lib.hid hX
  rw [← hW] at hz HB0 ⊢
  rw [← hX] at hz ⊢
  have HX0 := Lib.hid hz
  have cx0 : W.cell? ⟨X, 0, none⟩ = some (.int .i64 xi) := by rw [cell_of_row W X 0 _ _ _ hz]; rfl
  clear hW hX hz
  go_wp2_with fail
  refine (HF.out W HB0.out).mono ?_
  rintro e w2 ⟨i, b, rfl, ⟨hi, hlo, hhi, hbb⟩, hb2⟩
  have hin : i = n := by
    rcases Nat.lt_or_ge i n with h | h
    · exfalso
      obtain ⟨y, hy⟩ : ∃ y, vs[i]? = some y := ⟨_, List.getElem?_eq_getElem (by have := HN.out; omega)⟩
      have h2 := HGT.out y (List.mem_of_getElem? hy)
      have h3 := hhi i y (Nat.le_refl _) hy
      omega
    · have := HN.out; omega
  subst hin
  have hbf : b = false := by
    rw [hbb, List.getElem?_eq_none (by rw [← HN.out]; exact Nat.le_refl _)]
    rfl
  subst hbf
  have HB2 := Lib.hid (below_then HB0.out hb2)
  have hx2 := (hb2.block X (Array.getElem?_eq_some_iff.1 HX0.out).1).trans HX0.out
  have hd2 := (HB2.out.block d hdl).trans HD.out
  have HX2 := Lib.hid hx2
  have HD2 := Lib.hid hd2
  have c0 : w2.cell? ⟨d, 0, none⟩ = some (.int .i64 most) := by rw [cell_of_row w2 d 0 _ _ _ hd2]; rfl
  have c1 : w2.cell? ⟨d, 1, none⟩ = some (.slice va i vc) := by rw [cell_of_row w2 d 1 _ _ _ hd2]; rfl
  have hm1 : decide ((i : Int) ≥ most) = false := by rw [decide_eq_false_iff_not]; omega
  have hm2 : decide (most ≤ (i : Int)) = false := by rw [decide_eq_false_iff_not]; omega
  have hm3 : ¬ (most ≤ (i : Int)) := by omega
  clear hi hlo hhi hbb hb2 hx2 hd2 cx0
  go_upto_region 2 with (fail)
  go_quiet (fail)
  go_upto_region 4 with (fail)
  have hx4 := HX2.out
  obtain ⟨W4, hW4⟩ : ∃ W4 : World, W4 = w2.drewN nq := ⟨_, rfl⟩
  have hb4 : Below w2.heap.size w2 W4 := by rw [hW4]; exact below_draws (Below.refl _ _) _
  rw [← hW4]
  have HB4 := Lib.hid (below_then HB2.out hb4)
  replace hx4 := (hb4.block X (Array.getElem?_eq_some_iff.1 hx4).1).trans hx4
  have hd4 := (hb4.block d (Array.getElem?_eq_some_iff.1 HD2.out).1).trans HD2.out
  have HX4 := Lib.hid hx4
  have HD4 := Lib.hid hd4
  have c14 : W4.cell? ⟨d, 1, none⟩ = some (.slice va i vc) := by rw [cell_of_row W4 d 1 _ _ _ hd4]; rfl
  have hSX0 := sx6 hx4
  have hil : i ≤ 100000 := by omega
  have hdX : d ≠ X := by rw [HXX.out]; omega
  have hXd : X ≠ d := Ne.symm hdX
  have HOL := Lib.hid (show ∀ g, (Value.slice va i vc).ownBlock = some g → g < w.heap.size from own_lt HO.out)
  have HSZ4 := Lib.hid (show w.heap.size ≤ W4.heap.size from HB4.out.size)
  clear hW4 hb4 hx4 hd4 c0 c1 hm1 hm2 hm3
  go_region_law
    (first
      | (go_simp; go_at_call 76; refine (HV.out _ ?_).mono ?_; (exact below_dr2 HB4.out); rintro e w5 ⟨na, nn, nc, l', rfl, h1, h2, hb5⟩; have hB5 : Below W4.heap.size W4 w5 := below_then (below_drw _ _) hb5; have hx5 := (hB5.block X (Array.getElem?_eq_some_iff.1 HX4.out).1).trans HX4.out; have hd5 := (hB5.block d (Array.getElem?_eq_some_iff.1 HD4.out).1).trans HD4.out; have hx5a := fun o : Obj => (heap_alloc_old w5 o (Array.getElem?_eq_some_iff.1 hx5).1).trans hx5; have hd5a := fun o : Obj => (heap_alloc_old w5 o (Array.getElem?_eq_some_iff.1 hd5).1).trans hd5; have c15 : w5.cell? ⟨d, 1, none⟩ = some (.slice va i vc) := (by rw [cell_of_row w5 d 1 _ _ _ hd5]; rfl); have c15a : ∀ o : Obj, (w5.alloc o).cell? ⟨d, 1, none⟩ = some (.slice va i vc) := (fun o => by rw [cell_of_row _ d 1 _ _ _ (hd5a o)]; rfl); have H1 := Lib.hid h1; have H2 := Lib.hid h2; have HB5 := Lib.hid (below_then HB4.out hB5); have hdone5 := True.intro)
      | (go_simp; go_at_call 75; have q2 := le_alloc (Nat.le_trans hdb HB5.out.size) (.cells #[.int .i64 xi, .slice na nn nc, .int .i64 x1, .int .i64 x2, .int .i64 x3, .int .i64 x4] 84); have q40 : w5.ownsRow base 84 6 (.slice va i vc) i (vs.map Vr.cells).flatten := own_kept HO.out HB5.out; have q4 := q40.alloc (.cells #[.int .i64 xi, .slice na nn nc, .int .i64 x1, .int .i64 x2, .int .i64 x3, .int .i64 x4] 84); refine (ins_end base va i vc _ [.int .i64 xi, .slice na nn nc, .int .i64 x1, .int .i64 x2, .int .i64 x3, .int .i64 x4] _ hil _ q4 q2 (rdS_lit w5 #[.int .i64 xi, .slice na nn nc, .int .i64 x1, .int .i64 x2, .int .i64 x3, .int .i64 x4] 84 6 rfl) (ones6 _ _ _ _ _ _ _ _)).mono ?_; rintro e w6 ⟨ao, cap, rfl, hown6, hgrow6, hnew6⟩; have hd6 := (hgrow6.block d (lt_alloc (Nat.lt_of_lt_of_le hdl HB5.out.size) _) (fun e => HDV.out e.symm)).trans (hd5a _); have hx6 := (hgrow6.block X (lt_alloc (Array.getElem?_eq_some_iff.1 hx5).1 _) (fun e => Nat.lt_irrefl _ (HXX.out ▸ HOL.out X e.symm))).trans (hx5a _); have hx6s := fun v : Value => (heap_setCell_other w6 ⟨d, 1, none⟩ X v hXd).trans hx6; have c16 : w6.cell? ⟨d, 1, none⟩ = some (.slice va i vc) := (by rw [cell_of_row w6 d 1 _ _ _ hd6]; rfl); have f16 : w6.frozen? ⟨d, 1, none⟩ = false := frozen_of_row w6 d 1 _ _ hd6; have HD6 := Lib.hid hd6; have HO6 := Lib.hid hown6; have HG6 := Lib.hid hgrow6; have HN6 := Lib.hid hnew6)
      | fail)
  all_goals
    go_wp2_with fail
    go_ret
    have hsz5 := HB5.out.size
    have hng : ∀ g, (Value.slice ao (i + 1) cap).ownBlock = some g → (Value.slice va i vc).ownBlock = some g ∨ w5.heap.size ≤ g := fun g hg => by
      rcases HN6.out g hg with h | h
      · exact .inl h
      · exact .inr (by rw [h]; simp)
    have hnd : (Value.slice ao (i + 1) cap).ownBlock ≠ some d := fun e => by
      rcases hng d e with h | h
      · exact HDV.out h
      · omega
    have hbl : ∀ b, b < w5.heap.size → b ≠ d → (Value.slice va i vc).ownBlock ≠ some b → (w6.setCell ⟨d, 1, none⟩ (.slice ao (i + 1) cap)).heap[b]? = w5.heap[b]? := fun b h1 h2 h3 =>
      (heap_setCell_other w6 ⟨d, 1, none⟩ b _ h2).trans ((HG6.out.block b (lt_alloc h1 _) (fun e => h3 e.symm)).trans (heap_alloc_old w5 _ h1))
    refine ⟨rfl, ao, cap, na, nn, nc, l', w5, ?_, ?_, H1.out, H2.out.above (Above.refl _ _) HSZ4.out, ?_, hsz5, ?_, hng, ?_, ?_⟩
    · have h := heap_setCell_same w6 d 1 _ _ (.slice ao (i + 1) cap) HD6.out
      simpa only [List.setIfInBounds_toArray, List.set_cons_zero, List.set_cons_succ] using h
    · have h := HO6.out.kept (grown_setCell w6 ⟨d, 1, none⟩ (.slice ao (i + 1) cap)) (.inr hnd)
      rw [List.map_append, List.flatten_append]
      simpa [Vr.cells] using h
    · exact fun b h1 h2 => hbl b h2 (by omega) (fun e => by have := HOL.out b e; omega)
    · have h1 := HG6.out.size
      simp at h1
      simp [World.setCell]
      omega
    · exact (Below.grown (below_alloc_b (HB5.out.mono hdb) _ (Nat.le_trans hdb hsz5)) HG6.out (le_alloc (Nat.le_trans hdb hsz5) _) (own_base HO.out)).setCell (p := ⟨d, 1, none⟩) hbase _
    · exact fun b h1 h2 h3 => (hbl b (by omega) h2 h3).trans (HB5.out.block b h1)

end Go.Proofs.Ytnfjdoeemnhkbaa
