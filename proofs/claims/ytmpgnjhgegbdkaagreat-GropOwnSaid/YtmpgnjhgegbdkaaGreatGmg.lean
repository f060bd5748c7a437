import Derived.Test.YtmpgnjhgegbdkaaGreatGme
set_option linter.unusedVariables false
set_option linter.unusedSimpArgs false
set_option maxRecDepth 100000
set_option maxHeartbeats 3200000
open Go.Lib (hid)
namespace Go.Proofs.YtmpgnjhgegbdkaaGreat
open Go.RowKit
open _root_.List renaming mem_cons -> Qa, not_mem_nil -> Qb, map_cons -> Qe, map_nil -> Qf
open Go.World renaming block_lt_of_cell? -> Qc
open _root_.Array renaming getElem?_eq_some_iff -> Qd
open _root_.Bool renaming and_true -> Qg
open Go renaming cell_of_row -> Qh, heap_alloc_new -> Qi
theorem zL5 (w : World) (o : Obj) (k : Nat) (h : w.heap.size = k) : (w.alloc o).heap[k]? = some o := by subst h; exact Qi w o
theorem zIi {w : World} {b sz : Nat} {cs : Array Value} {T : TypeId} {fr : Nat × Nat} (h : w.heap[b]? = some (.cells cs T fr)) (ls : List (List Value)) (hc : cs.toList = ls.flatten) (hl : ∀ t ∈ ls, t.length = sz) (n : Nat) (hn : n = ls.length) : RdS w sz (.slice (some ⟨b, 0, none⟩) n n) ls := by
 subst hn
 refine ⟨some ⟨b, 0, none⟩, ls.length, rfl, ⟨(fun h => by cases h), Nat.le_refl _⟩, fun k t hk => ⟨b, 0, rfl, fun j u hu => ?_⟩⟩
 have h1 := zDi ls sz hl k t j u hk hu
 rw [Nat.zero_add, Qh w b _ _ _ _ h, <- h1, <- hc]
 simp
theorem zGo (id x : Int) (w : World) : Calls Tryz.prog 64 #[.int .i64 id, .int .i64 x] w fun e w' =>
  ∃ b, e = .returned (.agg #[.int .i64 id, .slice (some ⟨b, 0, none⟩) 1 1, .int .i64 0, .int .i64 0, .int .i64 0, .int .i64 0]) ∧ w'.heap[b]? = some (.cells #[.bool false, .int .i64 1, .int .i64 x, .slice none 0 0] 31 (0, 0)) ∧ Below w.heap.size w w' := by
 go_enter Tryz.func64, Tryz.ntmps64
 go_wp2_with fail
 have hx : ((w.alloc (.cells #[.int .i64 id, .slice (some ⟨w.heap.size + 1, 0, none⟩) 1 1, .int .i64 0, .int .i64 0, .int .i64 0, .int .i64 0] 81)).alloc (.cells #[.bool false, .int .i64 1, .int .i64 x, .slice none 0 0] 31)).heap[w.heap.size]? = some (.cells #[.int .i64 id, .slice (some ⟨w.heap.size + 1, 0, none⟩) 1 1, .int .i64 0, .int .i64 0, .int .i64 0, .int .i64 0] 81 (0, 0)) :=
  (heap_alloc_old _ _ (by simp)).trans (Qi _ _)
 refine bodyPost_ret (results_cell_row rfl _ _ w.heap.size _ _ (0, 0) _ rfl hx Tryz.underlying81 rfl zFs) rfl ?_
 refine ⟨w.heap.size + 1, rfl, ?_, zAl (zAd _ _) _⟩
 have h := Qi (w.alloc (.cells #[.int .i64 id, .slice (some ⟨w.heap.size + 1, 0, none⟩) 1 1, .int .i64 0, .int .i64 0, .int .i64 0, .int .i64 0] 81)) (.cells #[.bool false, .int .i64 1, .int .i64 x, .slice none 0 0] 31)
 simpa using h
theorem GrpAt.mono {K K0 G : Nat} {w : World} {cols : List Co} {rows : List (List Vc)} {ids : List Int} {sps : List (Int × Int × Int × Int)} (h : GrpAt K w G cols rows ids sps) (hk : K0 <= K) : GrpAt K0 w G cols rows ids sps := by
 obtain ⟨h0, K2, sg, n, ic, tc, ia, ta, h1, h2, h2b, h3, h4, h5, h6, h7⟩ := h
 exact ⟨by omega, K2, sg, n, ic, tc, ia, ta, h1, h2, h2b, h3, h4, zD9 h5 (Above.refl _ _) hk, zD9 h6 (Above.refl _ _) hk, h7⟩
def a13C : List Co := [⟨⟨#[107, 101, 121]⟩, 1, false⟩]
theorem zRs : SchOk a13C := by
 have h : a13C = colsN 0 := by rfl
 rw [h]
 exact zNc 0
def a13R : List (List Vc) := [[⟨false, 1, 10, []⟩], [⟨false, 1, 20, []⟩]]
theorem zS3 : RowsC a13C a13R := zLy (by rfl) fun r hr v hv => by
 unfold a13R at hr
 simp only [Qa, Qb, or_false] at hr
 rcases hr with rfl | rfl
 all_goals
  simp only [Qa, Qb, or_false] at hv
  rw [hv]
  exact ⟨⟨by decide, by decide⟩, by decide⟩
def ver1 (i x : Int) (b : Nat) : Ver := ⟨i, .slice (some ⟨b, 0, none⟩) 1 1, [(⟨false, 1, x, []⟩, .slice none 0 0)], 0, 0, 0, 0⟩
theorem zNe {w : World} {b : Nat} {x : Int} (h : w.heap[b]? = some (.cells #[.bool false, .int .i64 1, .int .i64 x, .slice none 0 0] 31 (0, 0))) : RdP w (.slice (some ⟨b, 0, none⟩) 1 1) [((⟨false, 1, x, []⟩ : Vc), Value.slice none 0 0)] :=
 ⟨zIi h _ rfl (by intro t ht; simp only [Qe, Qf, Qa, Qb, or_false] at ht; rw [ht]; rfl) 1 rfl, by
  intro t ht
  simp only [Qa, Qb, or_false] at ht
  rw [ht]
  exact ⟨Rd.nil _, fun x hx => by cases hx⟩⟩
theorem zGp {w : World} {b c : Nat} {i x j y : Int} (hb : w.heap[b]? = some (.cells #[.bool false, .int .i64 1, .int .i64 x, .slice none 0 0] 31 (0, 0))) (hc : w.heap[c]? = some (.cells #[.bool false, .int .i64 1, .int .i64 y, .slice none 0 0] 31 (0, 0))) :
  RdVs (w.alloc (.cells #[.int .i64 i, .slice (some ⟨b, 0, none⟩) 1 1, .int .i64 0, .int .i64 0, .int .i64 0, .int .i64 0, .int .i64 j, .slice (some ⟨c, 0, none⟩) 1 1, .int .i64 0, .int .i64 0, .int .i64 0, .int .i64 0] 81)) (.slice (some ⟨w.heap.size, 0, none⟩) 2 2) [ver1 i x b, ver1 j y c] :=
 ⟨zIi (Qi _ _) _ rfl (by intro t ht; simp only [Qe, Qf, Qa, Qb, or_false] at ht; rcases ht with rfl | rfl <;> rfl) 2 rfl, by
  intro v hv
  simp only [Qa, Qb, or_false] at hv
  rcases hv with rfl | rfl
  ·exact (zNe hb).kept (zAd _ _)
  ·exact (zNe hc).kept (zAd _ _)⟩
theorem zJ8 {w : World} {v : Value} {L : List Ver} (h : RdVs w v L) : RdVs w.drew v L := h.kept (zAm _ _)
theorem zJ9 (i x j y : Int) (hx : I64 x) (hy : I64 y) (b c : Nat) (sv lv : Value) (w : World) (hs : RdC w sv a13C) (hr : RdVs w lv [ver1 i x b, ver1 j y c]) :
  Calls Tryz.prog 33 #[.agg #[sv], lv] w fun e w' =>
   ((i < j ∧ ∃ G, e = .returned (.tuple #[.pointer (some ⟨G, 0, none⟩), .bool true]) ∧ GrpAt w.heap.size w' G a13C [[⟨false, 1, x, []⟩], [⟨false, 1, y, []⟩]] [i, j] [(0, 0, 0, 0), (0, 0, 0, 0)]) ∨
    (¬ i < j ∧ e = .returned (.tuple #[.pointer none, .bool false]))) ∧ Below w.heap.size w w' := by
 have hb : (risT [ver1 i x b, ver1 j y c] && rowsB a13C ([ver1 i x b, ver1 j y c].map Ver.row)) = decide (i < j) := by
  have h1 : rowsB a13C ([ver1 i x b, ver1 j y c].map Ver.row) = true := rfl
  rw [h1, Qg]
  show (decide (i < j) && true) = _
  rw [Qg]
 refine (zJ4 a13C zRs [ver1 i x b, ver1 j y c] (by simp) (by intro v hv; simp only [Qa, Qb, or_false] at hv; rcases hv with rfl | rfl <;> simp [ver1]) (by intro v hv t ht; simp only [Qa, Qb, or_false] at hv; rcases hv with rfl | rfl <;> (simp only [ver1, Qa, Qb, or_false] at ht; rw [ht]; assumption)) (by intro v hv t ht; simp only [Qa, Qb, or_false] at hv; rcases hv with rfl | rfl <;> (simp only [ver1, Qa, Qb, or_false] at ht; rw [ht]; simp)) sv lv w hs hr).mono ?_
 rintro e w' ⟨h, hbw⟩
 rw [hb] at h
 refine ⟨?_, hbw⟩
 rcases h with ⟨h1, G, h2, h3⟩ | ⟨h1, h2⟩
 ·exact .inl ⟨of_decide_eq_true h1, G, h2, h3⟩
 ·exact .inr ⟨of_decide_eq_false h1, h2⟩
theorem zMx (w : World) :
  Calls Tryz.prog 34 #[] w fun e w' => e = .returned (.bool true) ∧ Below w.heap.size w w' := by
 go_enter Tryz.func34, Tryz.ntmps34
 go_upto_region 3 with (fail)
 obtain ⟨W, hW⟩ : ∃ W : World, W = (w.alloc (.cells #[.string ⟨#[107, 101, 121]⟩, .int .i64 1, .bool false] 46)).alloc (.cells #[.slice (some ⟨w.heap.size, 0, none⟩) 1 1] 24) := ⟨_, rfl⟩
 rw [<- hW]
 have h0 : W.heap[w.heap.size]? = some (.cells #[.string ⟨#[107, 101, 121]⟩, .int .i64 1, .bool false] 46 (0, 0)) := by rw [hW]; exact (heap_alloc_old _ _ (by simp; try omega)).trans (zL5 w _ _ (by simp))
 have h1 : W.heap[w.heap.size + 1]? = some (.cells #[.slice (some ⟨w.heap.size, 0, none⟩) 1 1] 24 (0, 0)) := by rw [hW]; exact zL5 (w.alloc (.cells #[.string ⟨#[107, 101, 121]⟩, .int .i64 1, .bool false] 46)) _ _ (by simp)
 have HB0 := hid (show Below w.heap.size w W by rw [hW]; exact zAl (zAd w _) _)
 obtain ⟨b0, hb0⟩ : ∃ b0, b0 = w.heap.size := ⟨_, rfl⟩
 rw [<- hb0] at h0 h1 ⊢
 obtain ⟨b1, hb1⟩ : ∃ b1, b1 = b0 + 1 := ⟨_, rfl⟩
 rw [<- hb1] at h1 ⊢
 have HSV := hid (show RdC W (.slice (some ⟨b0, 0, none⟩) 1 1) a13C from zIi h0 _ rfl (by intro t ht; simp only [a13C, Qe, Qf, Qa, Qb, or_false] at ht; rw [ht]; rfl) 1 rfl)
 have HX1 := hid h1
 have cs1 : W.cell? ⟨b1, 0, none⟩ = some (.slice (some ⟨b0, 0, none⟩) 1 1) := by rw [Qh W b1 0 _ _ _ h1]; rfl
 clear hW h0 h1 hb0 hb1
 have CSW := hid cs1
 have HSW := hid fun w' (h : Below W.heap.size W w') => RdC.kept HSV.out h
 go_cut [3, 4] (fun v ok wx => ∃ G, v = .pointer (some ⟨G, 0, none⟩) ∧ ok = .bool true ∧ GrpAt W.heap.size wx G a13C [[⟨false, 1, 10, []⟩], [⟨false, 1, 20, []⟩]] [3, 7] [(0, 0, 0, 0), (0, 0, 0, 0)] ∧ Below W.heap.size W wx)
 case first =>
  go_region_law
   (first
    | (have hz5 := HX5; clear hz5; go_simp; go_at_call 33; refine (zJ9 3 10 7 20 (by unfold I64; simp) (by unfold I64; simp) b4 b5 _ _ _ ?_ ?_).mono ?_; (exact HSW.out _ (by first | exact HB5.out | exact zAl HB5.out _ | exact (zAl HB5.out _).trans (zAm _ _) | exact HB5.out.trans (zAm _ _))); (first | exact zGp HX4.out HX5.out | exact zJ8 (zGp HX4.out HX5.out)); rintro e w6 ⟨h, hb6⟩; obtain ⟨_, G, rfl, hg⟩ := h.resolve_right fun hh => hh.1 (by decide); clear h; have HG6 := hid hg; have HB6 := hid hb6; clear hg hb6)
    | (have hz4 := HX4; clear hz4; go_simp; go_at_call 64; refine (zGo 7 20 _).mono ?_; rintro e w5 ⟨b5, rfl, hx5, hb5⟩; have HX5 := hid hx5; have HX4 := hid ((hb5.block b4 (by first | exact (Qd.1 HX4.out).1 | simpa using (Qd.1 HX4.out).1)).trans HX4.out); have HB5 := hid (show Below W.heap.size W w5 from by first | exact zAa HB4.out hb5 | exact zAa (HB4.out.trans (zAm _ _)) hb5); have cs5 : w5.cell? ⟨b1, 0, none⟩ = some (.slice (some ⟨b0, 0, none⟩) 1 1) := (HB5.out.cell (Qc _ _ CSW.out)).trans CSW.out; have cs5a : (w5.alloc (.cells #[.int .i64 3, .slice (some ⟨b4, 0, none⟩) 1 1, .int .i64 0, .int .i64 0, .int .i64 0, .int .i64 0, .int .i64 7, .slice (some ⟨b5, 0, none⟩) 1 1, .int .i64 0, .int .i64 0, .int .i64 0, .int .i64 0] 81)).cell? ⟨b1, 0, none⟩ = some (.slice (some ⟨b0, 0, none⟩) 1 1) := ((zAl HB5.out _).cell (Qc _ _ CSW.out)).trans CSW.out; clear hx5 hb5)
    | (go_simp; go_at_call 64; refine (zGo 3 10 _).mono ?_; rintro e w4 ⟨b4, rfl, hx4, hb4⟩; have HX4 := hid hx4; have HB4 := hid (show Below W.heap.size W w4 from by first | exact hb4 | exact (zAm _ _).trans hb4); have cs4 : w4.cell? ⟨b1, 0, none⟩ = some (.slice (some ⟨b0, 0, none⟩) 1 1) := (HB4.out.cell (Qc _ _ CSW.out)).trans CSW.out; clear hx4 hb4))
  all_goals
   go_wp2_with fail
   go_meet
   exact ⟨G, rfl, rfl, HG6.out.mono (by have := HB5.out.size; simp; omega), zAa (zAl HB5.out _) HB6.out⟩
 case rest =>
  obtain ⟨G, rfl, rfl, hg, hb⟩ := hcut
  obtain ⟨W2, hW2⟩ : ∃ W2 : World, W2 = wc := ⟨_, rfl⟩
  rw [<- hW2] at hg hb ⊢
  have HG := hid hg
  have HB := hid hb
  have CS2 := hid (show W2.cell? ⟨b1, 0, none⟩ = some (.slice (some ⟨b0, 0, none⟩) 1 1) from (hb.cell (Qc _ _ CSW.out)).trans CSW.out)
  have cs2 := CS2.out
  have HS2 := hid fun w' (h : Below W2.heap.size W2 w') => RdC.kept (RdC.kept HSV.out HB.out) h
  clear hW2 hg hb cs1
  go_upto_region 4 with (fail)
  go_cut [5, 6] (fun v ok wx => v = .pointer none ∧ ok = .bool false ∧ Below W2.heap.size W2 wx)
  case first =>
   go_region_law
    (first
     | (have hz5 := HX5; clear hz5; go_simp; go_at_call 33; refine (zJ9 7 1 3 2 (by unfold I64; simp) (by unfold I64; simp) b4 b5 _ _ _ ?_ ?_).mono ?_; (exact HS2.out _ (by first | exact HB5.out | exact zAl HB5.out _ | exact (zAl HB5.out _).trans (zAm _ _) | exact HB5.out.trans (zAm _ _))); (first | exact zGp HX4.out HX5.out | exact zJ8 (zGp HX4.out HX5.out)); rintro e w6 ⟨h, hb6⟩; obtain ⟨_, rfl⟩ := h.resolve_left fun hh => absurd hh.1 (by decide); clear h; have HB6 := hid hb6; clear hb6)
     | (have hz4 := HX4; clear hz4; go_simp; go_at_call 64; refine (zGo 3 2 _).mono ?_; rintro e w5 ⟨b5, rfl, hx5, hb5⟩; have HX5 := hid hx5; have HX4 := hid ((hb5.block b4 (by first | exact (Qd.1 HX4.out).1 | simpa using (Qd.1 HX4.out).1)).trans HX4.out); have HB5 := hid (show Below W2.heap.size W2 w5 from by first | exact zAa HB4.out hb5 | exact zAa (HB4.out.trans (zAm _ _)) hb5); have cs5 : w5.cell? ⟨b1, 0, none⟩ = some (.slice (some ⟨b0, 0, none⟩) 1 1) := (HB5.out.cell (Qc _ _ CS2.out)).trans CS2.out; have cs5a : (w5.alloc (.cells #[.int .i64 7, .slice (some ⟨b4, 0, none⟩) 1 1, .int .i64 0, .int .i64 0, .int .i64 0, .int .i64 0, .int .i64 3, .slice (some ⟨b5, 0, none⟩) 1 1, .int .i64 0, .int .i64 0, .int .i64 0, .int .i64 0] 81)).cell? ⟨b1, 0, none⟩ = some (.slice (some ⟨b0, 0, none⟩) 1 1) := ((zAl HB5.out _).cell (Qc _ _ CS2.out)).trans CS2.out; clear hx5 hb5)
     | (go_simp; go_at_call 64; refine (zGo 7 1 _).mono ?_; rintro e w4 ⟨b4, rfl, hx4, hb4⟩; have HX4 := hid hx4; have HB4 := hid (show Below W2.heap.size W2 w4 from by first | exact hb4 | exact (zAm _ _).trans hb4); have cs4 : w4.cell? ⟨b1, 0, none⟩ = some (.slice (some ⟨b0, 0, none⟩) 1 1) := (HB4.out.cell (Qc _ _ CS2.out)).trans CS2.out; clear hx4 hb4))
   all_goals
    go_wp2_with fail
    go_meet
    exact ⟨rfl, rfl, zAa (zAl HB5.out _) HB6.out⟩
  case rest =>
   obtain ⟨rfl, rfl, hb3⟩ := hcut
   obtain ⟨W3, hW3⟩ : ∃ W3 : World, W3 = wc := ⟨_, rfl⟩
   rw [<- hW3] at hb3 ⊢
   have HG3 := hid (HG.out.kept hb3)
   have HBW := hid (show Below w.heap.size w W3 from zAa (zAa HB0.out HB.out) hb3)
   obtain ⟨h0, K2, sg, n, ic, tc, ia, ta, h1, h2, h2b, h3, h4, h5, h6, h7⟩ := HG3.out
   have c0 : W3.cell? ⟨G, 0, none⟩ = some (.pointer (some ⟨sg, 0, none⟩)) := by rw [Qh W3 G 0 _ _ _ h3]; rfl
   have HSET := hid (zL1 (by simp) 1 0 0 0 9 W3 HG3.out)
   clear h0 h1 h2 h2b h3 h4 h5 h6 h7 hW3 hb3 cs2
   go_wp2_with fail
   refine HSET.out.mono ?_
   rintro e w4 (⟨k, hk, _, rfl, hg4, hb4, hs4⟩ | ⟨h, _⟩)
   case inr => exact absurd h (by simp)
   obtain rfl : k = 1 := by omega
   have HG4 := hid (show GrpAt W.heap.size w4 G a13C a13R [3, 7] [(0, 0, 0, 0), (0, 0, 0, 9)] from hg4)
   have HB4 := hid (show Below w.heap.size w w4 from HBW.out.trans (hb4.mono HB0.out.size))
   have HVER := hid (zL4 zS3 (by decide) (by decide) rfl (by simp) 1 w4 HG4.out)
   clear hk hg4 hb4 hs4 c0 HSET
   go_wp2_with fail
   refine HVER.out.mono ?_
   rintro e w5 ⟨⟨k, r, id, s, v, l, hk, hr, hidx, hs, rfl, hl, hown⟩ | ⟨h, _⟩, hb5⟩
   case inr => cases h
   obtain rfl : k = 1 := by omega
   obtain rfl : (7 : Int) = id := by simpa using hidx
   obtain rfl : (0, 0, 0, 9) = s := by simpa using hs
   obtain rfl : [⟨false, 1, 20, []⟩] = r := by simpa [a13R] using hr
   obtain ⟨u, rfl⟩ : ∃ u, l = [((⟨false, 1, 20, []⟩ : Vc), u)] := by
    match l, hl with
    | [(t, u)], hl => simp only [Qe, Qf, List.cons.injEq, and_true] at hl; exact ⟨u, by rw [hl]⟩
   obtain ⟨va, vc, rfl⟩ := zCh hown.row
   obtain ⟨g, rfl⟩ := zE1 hown.row (by simp)
   have hcg : w5.cell? ⟨g, 2, none⟩ = some (.int .i64 20) := (hown.row.cellAt 2 (by simp)).trans rfl
   have HCG := hid hcg
   have HG5 := hid (HG4.out.kept hb5)
   have HB5 := hid (show Below w.heap.size w w5 from zAa HB4.out hb5)
   have HIDS := hid fun w' (h : Below w5.heap.size w5 w') => zGn (by simp) w' (HG5.out.kept h)
   clear hk hidx hs hr hl hown hb5 hcg HVER
   go_upto_region 9 with (fail)
   obtain ⟨w6, hw6⟩ : ∃ w6 : World, w6 = w5.alloc (.cells #[.int .i64 7, .slice (some ⟨g, 0, none⟩) 1 vc, .int .i64 0, .int .i64 0, .int .i64 0, .int .i64 9] 81) := ⟨_, rfl⟩
   obtain ⟨VB, hVB⟩ : ∃ VB, VB = w5.heap.size := ⟨_, rfl⟩
   have HX6 := hid (show w6.heap[VB]? = some (.cells #[.int .i64 7, .slice (some ⟨g, 0, none⟩) 1 vc, .int .i64 0, .int .i64 0, .int .i64 0, .int .i64 9] 81 (0, 0)) by rw [hw6, hVB]; exact Qi _ _)
   have HB6 := hid (show Below w5.heap.size w5 w6 by rw [hw6]; exact zAd _ _)
   have HIDS6 := hid (HIDS.out w6 HB6.out)
   rw [<- hw6, <- hVB]
   clear hw6 hVB HIDS
   go_wp2_with fail
   refine HIDS6.out.mono ?_
   rintro e w7 ⟨v, rfl, ho, hb7⟩
   have ho2 : w7.ownsRow w6.heap.size 3 1 v 2 [.int .i64 3, .int .i64 7] := ho
   obtain ⟨na, nc, rfl⟩ := zCh ho2
   obtain ⟨nb, rfl⟩ := zE1 ho2 (by simp)
   have N0 := hid (show w7.cell? ⟨nb, 0, none⟩ = some (.int .i64 3) from (ho2.cellAt 0 (by simp)).trans rfl)
   have hx7 := (hb7.block VB (Qd.1 HX6.out).1).trans HX6.out
   have v0 : w7.cell? ⟨VB, 0, none⟩ = some (.int .i64 7) := by rw [Qh w7 VB 0 _ _ _ hx7]; rfl
   have v1 : w7.cell? ⟨VB, 1, none⟩ = some (.slice (some ⟨g, 0, none⟩) 1 vc) := by rw [Qh w7 VB 1 _ _ _ hx7]; rfl
   have v5 : w7.cell? ⟨VB, 5, none⟩ = some (.int .i64 9) := by rw [Qh w7 VB 5 _ _ _ hx7]; rfl
   have HB7 := hid (show Below w5.heap.size w5 w7 from zAa HB6.out hb7)
   have cg : w7.cell? ⟨g, 2, none⟩ = some (.int .i64 20) := (HB7.out.cell (Qc _ _ HCG.out)).trans HCG.out
   have HG7 := hid (HG5.out.kept HB7.out)
   have HF7 := hid (zJ6 (by simp) (by simp) 7 w7 HG7.out)
   have HF4 := hid (zJ6 (by simp) (by simp) 4 w7 HG7.out)
   have HLV := hid (zFi (by simp) w7 HG7.out)
   clear ho ho2 hb7 hx7 HIDS6
   go_wp2_with fail
   refine HF7.out.mono ?_
   rintro e w8 ⟨rfl, rfl⟩
   rw [show findT [3, 7] 7 = 1 from rfl]
   go_wp2_with fail
   refine HF4.out.mono ?_
   rintro e w9 ⟨rfl, rfl⟩
   rw [show findT [3, 7] 4 = -1 from rfl]
   go_wp2_with fail
   refine HLV.out.mono ?_
   rintro e wl ⟨rfl, hb8⟩
   rw [show liveT [(0, 0, 0, 0), (0, 0, 0, 9)] = 1 from rfl]
   have HG8 := hid (HG7.out.kept hb8)
   have n0 := (hb8.cell (Qc _ _ N0.out)).trans N0.out
   obtain ⟨h0, K3, sh, n3, ic3, tc3, ia3, ta3, h1, h2, h2b, h3, h4, h5, h6, h7⟩ := HG8.out
   obtain ⟨_, hsl, zs, ps, zv, kv, tv, hsg, _⟩ := h4
   have g0 : wl.cell? ⟨G, 0, none⟩ = some (.pointer (some ⟨sh, 0, none⟩)) := by rw [Qh wl G 0 _ _ _ h3]; rfl
   have s0 : wl.cell? ⟨sh, 0, none⟩ = some (.int .i64 2) := by rw [Qh wl sh 0 _ _ _ hsg]; rfl
   have HSET8 := hid (zL1 (by simp) 2 0 0 0 0 wl HG8.out)
   have HB8 := hid (show Below w.heap.size w wl from zAa (zAa HB5.out HB7.out) hb8)
   clear hb8 h0 h1 h2 h2b h3 h5 h6 h7 hsg v0 v1 v5 cg hsl
   go_wp2_with fail
   refine HSET8.out.mono ?_
   rintro e wm (⟨k, hk, hl, _⟩ | ⟨_, rfl, hb9⟩)
   case inl => exact absurd hl (by simp; omega)
   have HB9 := hid (zAa HB8.out hb9)
   clear hb9 n0 g0 s0
   go_wp2_with fail
   go_ret
   exact ⟨rfl, HB9.out⟩
end Go.Proofs.YtmpgnjhgegbdkaaGreat
