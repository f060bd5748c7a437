/-
  The walk of DeltOwn.
-/
import Derived.Test.YteloepccjoikdaaDowm
import Derived.Test.YteloepccjoikdaaColn
import Derived.Test.YteloepccjoikdaaLpred
import Derived.Test.YteloepccjoikdaaLsix
import Derived.Test.YteloepccjoikdaaAwake12
namespace Go.Proofs.Yteloepccjoikdaa
set_option linter.unusedVariables false
set_option linter.unusedSimpArgs false
open Go.RowKit

theorem oinv_rdP {w wr : World} {l : List (Vc × Value)} {v : Value} (h : OInv w l v wr) : RdP wr v l :=
  ⟨rdS_own h.own (by rw [List.length_map]) (fun t ht => by obtain ⟨x, _, rfl⟩ := List.mem_map.1 ht; rfl), h.ok⟩
theorem rowOf_b (cols : List Co) (n : Int) : ∀ v ∈ rowOf cols n, v.b.length ≤ 1000000 := fun v hv => by
  obtain ⟨i, hi⟩ := List.getElem?_of_mem hv
  rw [rowOf_at] at hi
  obtain ⟨c, _, rfl⟩ := Option.map_eq_some_iff.1 hi
  unfold eltOf
  split
  · simp
  · have := valOf_len c (mixOf n i); omega
theorem fst_b {cols : List Co} {n : Int} {l : List (Vc × Value)} (h : l.map Prod.fst = rowOf cols n) : ∀ t ∈ l, t.1.b.length ≤ 1000000 := fun t ht => rowOf_b cols n t.1 (by rw [← h]; exact List.mem_map_of_mem ht)
theorem fst_len {cols : List Co} {n : Int} {l : List (Vc × Value)} (h : l.map Prod.fst = rowOf cols n) : l.length = cols.length := by have := congrArg List.length h; rw [List.length_map, rowOf_len] at this; exact this
theorem rdP_above {K : Nat} {w w' : World} {v : Value} {l : List (Vc × Value)} (h : w.ownsRow K 40 4 v l.length (l.map cellsV).flatten) (ok : ∀ t ∈ l, OkV w t) (fr : ∀ t ∈ l, FreshV K t.2) (ha : Above K w w') : RdP w' v l := by
  refine ⟨rdS_own (own_above h ha (Nat.le_refl _)) (by rw [List.length_map]) (fun t ht => by obtain ⟨x, _, rfl⟩ := List.mem_map.1 ht; rfl), fun t ht => ⟨?_, (ok t ht).2⟩⟩
  obtain ⟨ao, cap, hv, hn, hc⟩ := (ok t ht).1
  refine ⟨ao, cap, hv, hn, fun hp => ?_⟩
  obtain ⟨b, off, e, hcell⟩ := hc hp
  refine ⟨b, off, e, fun i hi => ?_⟩
  exact above_cell ha (fr t ht ⟨b, off, none⟩ _ _ (by rw [hv, e])) (hcell i hi)
theorem sameR_refl : ∀ x : List Vc, sameR x x = true
  | [] => rfl
  | a :: r => by rw [sameR, sameR_refl r, Bool.and_true]; simp [sameT]
theorem rise_nil : Rise [] := fun i j a b _ h => by simp at h
theorem rise_one (x : Vr) : Rise [x] := fun i j a b h h1 h2 => by
  have g1 := (List.getElem?_eq_some_iff.1 h1).1
  have g2 := (List.getElem?_eq_some_iff.1 h2).1
  simp at g1 g2
  omega
theorem rise_two (x y : Vr) (h : x.i < y.i) : Rise [x, y] := fun i j a b hij h1 h2 => by
  have g1 := (List.getElem?_eq_some_iff.1 h1).1
  have g2 := (List.getElem?_eq_some_iff.1 h2).1
  simp at g1 g2
  have e1 : i = 0 := by omega
  have e2 : j = 1 := by omega
  subst e1 e2
  simp at h1 h2
  rw [← h1, ← h2]
  exact h
theorem own_some {w : World} {K : Nat} {E : TypeId} {sz n cap : Nat} {ao : Option Addr} {xs : List Value} (h : w.ownsRow K E sz (.slice ao n cap) n xs) (hn : 0 < n) : ∃ g, ao = some ⟨g, 0, none⟩ := by
  rcases h.2 with ⟨_, h1⟩ | ⟨g, c, cur, h1, _⟩
  · omega
  · simp only [Value.slice.injEq] at h1; exact ⟨g, h1.1⟩
theorem name_w3 {A : Nat} {w0 w : World} (h : Below A w0 w) : ∃ V : World, V = w := ⟨w, rfl⟩

set_option maxRecDepth 100000 in
set_option maxHeartbeats 32000000 in
theorem walk_DeltOwn (a0 : Int) (a1 : Int) (w : World) (w0 : (Lit.int .i64 a0).wf = true) (w1 : (Lit.int .i64 a1).wf = true) :
    Calls Try.prog 3 #[.int .i64 a0, .int .i64 a1] w fun e w' => e = .returned (.bool true) ∧ Below w.heap.size w w' := by
  have HS := Lib.hid (schema_rd a0 w)
  have HOK := Lib.hid (colsN_ok a0)
  obtain ⟨a2, ha2⟩ : ∃ a2, a2 = IntKind.i64.wrap (a1 + 1) := ⟨_, rfl⟩
  have hwr : IntKind.i64.wrap (a1 + 1) = a2 := ha2.symm
  clear w0 w1 ha2
  go_enter Try.func3, Try.ntmps3
  go_wp2_with fail
  refine HS.out.mono ?_
  rintro e W1 ⟨so, sc, rfl, hs1, hb1⟩
  obtain ⟨sn, hsn⟩ : ∃ sn, sn = (colsN a0).length := ⟨_, rfl⟩
  have hc1 := rdC_of hs1
  rw [← hsn] at hs1 hc1 ⊢
  have HSN := Lib.hid hsn
  have HC2 := Lib.hid (RdC.kept hc1 (below_alloc W1 (.cells #[.slice so sn sc] 24)))
  have HB2 := Lib.hid (below_lay hb1 (.cells #[.slice so sn sc] 24))
  have hsb := heap_alloc_new W1 (.cells #[.slice so sn sc] 24)
  have hsn0 : 0 < sn := by rw [hsn]; exact HOK.out.ne
  have hsn6 : sn ≤ 6 := by rw [hsn]; exact HOK.out.le
  clear hs1 hc1 hb1 hsn
  go_upto_region 2 with (fail)
  obtain ⟨W2, hW2⟩ : ∃ W2 : World, W2 = W1.alloc (.cells #[.slice so sn sc] 24) := ⟨_, rfl⟩
  obtain ⟨SB, hSB⟩ : ∃ SB, SB = W1.heap.size := ⟨_, rfl⟩
  rw [← hW2] at HC2 HB2 hsb ⊢
  rw [← hSB] at hsb ⊢
  clear hW2 hSB
  go_wp2_with fail
  refine (dnew_any 5 W2).mono ?_
  rintro e W3 ⟨rfl, hW3⟩
  rw [show (min (max (5 : Int) 1) 1000) = 5 by decide] at hW3
  have hd3 : W3.heap[W2.heap.size]? = some (.cells #[.int .i64 5, .slice none 0 0] 98 (0, 0)) := by rw [hW3]; exact heap_alloc_new W2 _
  have hby : Below W2.heap.size W2 W3 := by rw [hW3]; exact below_alloc W2 _
  have hsz3 : W2.heap.size < W3.heap.size := by rw [hW3]; simp
  obtain ⟨D, hD⟩ : ∃ D, D = W2.heap.size := ⟨_, rfl⟩
  rw [← hD] at hd3 hsz3 ⊢
  have HSD := Lib.hid (show SB < D by rw [hD]; exact (Array.getElem?_eq_some_iff.1 hsb).1)
  have HDW := Lib.hid (show w.heap.size ≤ D by rw [hD]; exact HB2.out.size)
  replace hsb := (hby.block SB (Array.getElem?_eq_some_iff.1 hsb).1).trans hsb
  have HSB := Lib.hid hsb
  have HD3 := Lib.hid hd3
  have HC3 := Lib.hid (RdC.kept HC2.out hby)
  have HB3 := Lib.hid (below_then HB2.out hby)
  have HCD := Lib.hid (show ∀ w', Below D W3 w' → RdC w' (.slice so sn sc) (colsN a0) from fun w' h => RdC.kept HC2.out (Below.trans hby (hD ▸ h)))
  have HSBD := Lib.hid (show ∀ w', Below D W3 w' → w'.cell? ⟨SB, 0, none⟩ = some (.slice so sn sc) from fun w' h => by rw [cell_of_row w' SB 0 _ _ _ ((h.block SB HSD.out).trans HSB.out)]; rfl)
  clear hby hW3 hD hd3 hsb
  have HRW := Lib.hid (show ∀ (m : Int) (w' : World), Below W3.heap.size W3 w' → Calls Try.prog 17 #[.agg #[.slice so sn sc], .int .i64 m] w' fun e w'' => ∃ (xa : Option Addr) (xc : Nat) (l : List (Vc × Value)), e = .returned (.slice xa sn xc) ∧ l.map Prod.fst = rowOf (colsN a0) m ∧ (OInv W3 l (.slice xa sn xc) w'' ∧ ∀ t ∈ l, FreshV W3.heap.size t.2) ∧ Below w'.heap.size w' w'' from by
    intro m w' hb
    refine (row_is (.slice so sn sc) (colsN a0) m w' (RdC.kept HC3.out hb) HOK.out.le).mono ?_
    rintro e w'' ⟨u, l, rfl, h1, h2, h3, h4⟩
    obtain ⟨oa, oc, rfl⟩ := oinv_shape h2
    have hl := fst_len h1
    rw [← HSN.out] at hl
    rw [hl] at h2 ⊢
    exact ⟨oa, oc, l, rfl, h1, ⟨h2.le hb.size, fun t ht a n c e => Nat.le_trans hb.size (h4 t ht a n c e)⟩, h3⟩)
  have HSB0 := Lib.hid fun (w' : World) (h : Below W3.heap.size W3 w') => (show w'.cell? ⟨SB, 0, none⟩ = some (.slice so sn sc) from by rw [cell_of_row w' SB 0 _ _ _ ((h.block SB (Array.getElem?_eq_some_iff.1 HSB.out).1).trans HSB.out)]; rfl)
  go_upto_region 5 with (fail)
  have cs0 := HSB0.out W3 (Below.refl _ _)
  go_cut [7, 8] (fun x y wx => ∃ (xa : Option Addr) (xc : Nat) (lx : List (Vc × Value)) (ya : Option Addr) (yc : Nat) (ly : List (Vc × Value)), x = .slice xa sn xc ∧ y = .slice ya sn yc ∧ lx.map Prod.fst = rowOf (colsN a0) a1 ∧ ly.map Prod.fst = rowOf (colsN a0) a2 ∧ OInv W3 lx (.slice xa sn xc) wx ∧ OInv W3 ly (.slice ya sn yc) wx ∧ (∀ t ∈ ly, FreshV W3.heap.size t.2) ∧ Below W3.heap.size W3 wx)
  case first =>
    set_option maxRecDepth 1000000 in
    go_region_law
      (first
        | (go_simp; go_at_call_of 17 (Value.int IntKind.i64 a1); refine (HRW.out a1 _ ?_).mono ?_; (first | (with_reducible assumption) | exact below_drw _ _ | fail); rintro e wX ⟨xa, xc, lx, rfl, hlX, hoX, hbX⟩; have hBX : Below W3.heap.size W3 wX := (by first | exact below_then hBY hbX | exact below_then (below_drw _ _) hbX | fail); have csX := HSB0.out _ hBX)
        | (go_simp; go_at_call_of 17 (Value.int IntKind.i64 a2); refine (HRW.out a2 _ ?_).mono ?_; (first | (with_reducible assumption) | exact below_drw _ _ | fail); rintro e wY ⟨ya, yc, ly, rfl, hlY, hoY, hbY⟩; have hBY : Below W3.heap.size W3 wY := (by first | exact below_then hBX hbY | exact below_then (below_drw _ _) hbY | fail); have csY := HSB0.out _ hBY)
        | fail)
    all_goals
      first | go_meet | (go_wp2_with fail; go_meet)
      first
        | exact ⟨xa, xc, lx, ya, yc, ly, rfl, rfl, hlX, hlY, hoX.1.kept hbY, hoY.1, hoY.2, hBY⟩
        | exact ⟨xa, xc, lx, ya, yc, ly, rfl, rfl, hlX, hlY, hoX.1, hoY.1.kept hbX, hoY.2, hBX⟩
  case rest =>
    obtain ⟨xa, xc, lx, ya, yc, ly, rfl, rfl, hlx, hly, hox, hoy, hfy, hbw⟩ := hcut
    obtain ⟨W4, hW4⟩ := name_w3 hbw
    rw [← hW4] at hox hoy hbw ⊢
    clear hW4 cs0
    have HLX := Lib.hid hlx
    have HLY := Lib.hid hly
    have HOX := Lib.hid hox
    have HOY := Lib.hid hoy
    have HFY := Lib.hid hfy
    have HB4 := Lib.hid hbw
    have hlnx := fst_len hlx
    have hlny := fst_len hly
    rw [← HSN.out] at hlnx hlny
    have hownx := hox.own
    have howny := hoy.own
    rw [hlnx] at hownx
    rw [hlny] at howny
    obtain ⟨xb, rfl⟩ := own_some hownx hsn0
    obtain ⟨yb, rfl⟩ := own_some howny hsn0
    have HXB := Lib.hid (show W3.heap.size ≤ xb ∧ xb < W4.heap.size from ⟨own_base hownx xb rfl, own_lt hownx xb rfl⟩)
    have HYB := Lib.hid (show W3.heap.size ≤ yb ∧ yb < W4.heap.size from ⟨own_base howny yb rfl, own_lt howny yb rfl⟩)
    have HKX := Lib.hid (own_blk hownx)
    have HKY := Lib.hid (own_blk howny)
    have HD4 := Lib.hid ((hbw.block D hsz3).trans HD3.out)
    have HLN := Lib.hid (show lx.length = sn ∧ ly.length = sn from ⟨hlnx, hlny⟩)
    clear hlx hly hox hoy hfy hbw hownx howny hlnx hlny
    have HA1 := Lib.hid (dadd_end [] (by decide) rise_nil none 0 0 D D 5 1 0 0 0 0 (some ⟨xb, 0, none⟩) sn xc lx (by rw [HLN.out.1]; omega) W4 rfl (World.ownsRow_nil ..) (Nat.le_refl _) (by simp [Value.ownBlock]) HD4.out (by decide) (fun y hy => by cases hy) (oinv_rdP HOX.out) (fst_b HLX.out))
    go_wp2_with fail
    refine HA1.out.mono ?_
    rintro e W5 ⟨rfl, ao1, cap1, na1, nn1, nc1, l1, wr1, hd5, hown5, hl1, hr1, hab1, hsz1, hsz1', hng1, hbel5, hfr5⟩
    rw [show (0 : Nat) + 1 = 1 from rfl] at hd5 hown5 hng1
    obtain ⟨g1, rfl⟩ := own_some hown5 (by decide)
    have hg1 : wr1.heap.size ≤ g1 ∧ g1 < W5.heap.size := by
      refine ⟨?_, own_lt hown5 g1 rfl⟩
      rcases hng1 g1 rfl with h | h
      · cases h
      · exact h
    have HD5 := Lib.hid hd5
    have HO5 := Lib.hid hown5
    have HL1 := Lib.hid hl1
    have HR1 := Lib.hid hr1
    have HG1 := Lib.hid hg1
    have HAB1 := Lib.hid hab1
    have HSZ1 := Lib.hid (show W4.heap.size ≤ wr1.heap.size ∧ wr1.heap.size ≤ W5.heap.size from ⟨hsz1, hsz1'⟩)
    have HB5 := Lib.hid hbel5
    have HF5 := Lib.hid hfr5
    have hgD1 : g1 ≠ D := by
      have h1 := HB4.out.size
      omega
    clear hd5 hown5 hl1 hr1 hab1 hsz1 hsz1' hng1 hbel5 hfr5 hg1 HA1
    have HA2 := Lib.hid (dadd_end [⟨1, na1, nn1, nc1, 0, 0, 0, 0⟩] (by simp) (rise_one _) (some ⟨g1, 0, none⟩) 1 cap1 D D 5 2 0 0 0 0 none 0 0 [] (by simp) W5 rfl HO5.out (Nat.le_refl _) (by simp [Value.ownBlock]; exact hgD1) HD5.out (by decide) (fun y hy => by rw [List.mem_singleton.1 hy]; show (1 : Int) < 2; decide) ⟨RdS.nil W5 4, fun t ht => by cases ht⟩ (fun t ht => by cases ht))
    go_wp2_with fail
    refine HA2.out.mono ?_
    rintro e W6 ⟨rfl, ao2, cap2, na2, nn2, nc2, l2, wr2, hd6, hown6, hl2, hr2, hab2, hsz2, hsz2', hng2, hbel6, hfr6⟩
    rw [show (1 : Nat) + 1 = 2 from rfl] at hd6 hown6 hng2
    obtain ⟨g2, rfl⟩ := own_some hown6 (by decide)
    have hg2 : (g2 = g1 ∨ wr2.heap.size ≤ g2) ∧ g2 < W6.heap.size := by
      refine ⟨?_, own_lt hown6 g2 rfl⟩
      rcases hng2 g2 rfl with h | h
      · left; simp [Value.ownBlock] at h; exact h.symm
      · exact .inr h
    have HD6 := Lib.hid hd6
    have HO6 := Lib.hid hown6
    have HG2 := Lib.hid hg2
    have HSZ2 := Lib.hid (show W5.heap.size ≤ wr2.heap.size ∧ wr2.heap.size ≤ W6.heap.size from ⟨hsz2, hsz2'⟩)
    have HB6 := Lib.hid hbel6
    have HF6 := Lib.hid hfr6
    have hgD2 : g2 ≠ D := by
      have h1 := HB4.out.size
      have h2 := HSZ1.out
      have h3 := HG1.out
      rcases hg2.1 with h | h
      · rw [h]; exact hgD1
      · omega
    clear hd6 hown6 hl2 hr2 hab2 hsz2 hsz2' hng2 hbel6 hfr6 hg2 HA2
    have HYP6 := Lib.hid (show RdP W6 (.slice (some ⟨yb, 0, none⟩) sn yc) ly from by
      have hy := HYB.out
      have hz1 := HSZ1.out
      have hz2 := HSZ2.out
      have hg := HG1.out
      exact rdP_above (K := W3.heap.size) (by have h := HOY.out.own; exact h) HOY.out.ok HFY.out fun b h1 h2 =>
        (HF6.out b (by omega) (by omega) (by simp [Value.ownBlock]; omega)).trans (HF5.out b h2 (by omega) (by simp [Value.ownBlock])))
    have HA3 := Lib.hid (dput_at [⟨1, na1, nn1, nc1, 0, 0, 0, 0⟩, ⟨2, na2, nn2, nc2, 0, 0, 0, 0⟩] (by simp) (rise_two _ _ (show (1 : Int) < 2 by decide)) g2 2 cap2 D D 5 2 1 ⟨2, na2, nn2, nc2, 0, 0, 0, 0⟩ (some ⟨yb, 0, none⟩) sn yc ly (by rw [HLN.out.2]; omega) W6 rfl HO6.out (Nat.le_refl _) hgD2 HD6.out rfl rfl HYP6.out (fst_b HLY.out))
    go_wp2_with fail
    refine HA3.out.mono ?_
    rintro e W7 ⟨rfl, na3, nn3, nc3, l3, wr3, hd7, hown7, hl3, hr3, hab3, hsz3b, hsz3c, hbel7, hfr7⟩
    have hown7' : W7.ownsRow D 36 6 (.slice (some ⟨g2, 0, none⟩) 2 cap2) 2 ([(⟨1, na1, nn1, nc1, 0, 0, 0, 0⟩ : Vr), ⟨2, na3, nn3, nc3, 0, 0, 0, 0⟩].map Vr.cells).flatten := hown7
    have HO7 := Lib.hid hown7'
    have HD7 := Lib.hid hd7
    have HL3 := Lib.hid hl3
    have HSZ3 := Lib.hid (show W6.heap.size ≤ wr3.heap.size ∧ wr3.heap.size ≤ W7.heap.size from ⟨hsz3b, hsz3c⟩)
    have HSZA := Lib.hid (show D < W3.heap.size ∧ W3.heap.size ≤ W4.heap.size ∧ W4.heap.size ≤ W7.heap.size ∧ g2 < W7.heap.size ∧ W4.heap.size ≤ g2 ∧ g2 ≠ xb ∧ g2 ≠ yb ∧ D ≠ xb ∧ D ≠ yb from by
      have h1 := HB4.out.size
      have h2 := HSZ1.out
      have h3 := HSZ2.out
      have h4 := HG1.out
      have h5 := HG2.out
      have hx := HXB.out
      have hy := HYB.out
      rcases h5.1 with h | h <;> omega)
    have HK47 := Lib.hid (show ∀ b, b < W4.heap.size → b ≠ D → W7.heap[b]? = W4.heap[b]? from fun b h1 h2 => by
      have h3 := HSZA.out
      have h4 := HSZ1.out
      have h5 := HSZ2.out
      have h6 := HG1.out
      exact (hfr7 b (by omega) (by omega)).trans ((HF6.out b (by omega) h2 (by simp [Value.ownBlock]; omega)).trans (HF5.out b h1 h2 (by simp [Value.ownBlock]))))
    have HRA1 := Lib.hid (show RdRA W4.heap.size W7 (.slice na1 nn1 nc1) l1 from HR1.out.above (fun b h1 h2 => by
      have h3 := HSZA.out
      have h4 := HSZ1.out
      have h5 := HSZ2.out
      have h6 := HG1.out
      have h7 := HG2.out
      exact (hfr7 b (by omega) (by rcases h7.1 with h | h <;> omega)).trans ((HF6.out b (by omega) (by omega) (by simp [Value.ownBlock]; omega)).trans (HAB1.out b h1 h2))) (Nat.le_refl _))
    have HRA3 := Lib.hid (show RdRA W6.heap.size W7 (.slice na3 nn3 nc3) l3 from hr3.above hab3 (Nat.le_refl _))
    have HB7 := Lib.hid (show Below D W3 W7 from (((HB4.out.mono (by have := HSZA.out; omega)).trans HB5.out).trans HB6.out).trans hbel7)
    have HBX7 := Lib.hid (show Blk W7 xb 40 (sn * 4) ∧ Blk W7 yb 40 (sn * 4) from by
      have h3 := HSZA.out
      have hx := HXB.out
      have hy := HYB.out
      obtain ⟨c1, e1, e2⟩ := HKX.out
      obtain ⟨c2, e3, e4⟩ := HKY.out
      exact ⟨⟨c1, (HK47.out xb hx.2 (by omega)).trans e1, e2⟩, ⟨c2, (HK47.out yb hy.2 (by omega)).trans e3, e4⟩⟩)
    clear hown7 hown7' hd7 hl3 hr3 hab3 hsz3b hsz3c hbel7 hfr7 HA3 HD3 HD4 HD5 HD6 HO5 HO6 HR1 HAB1 HF5 HF6 HB5 HB6 HYP6 HK47 HKX HKY HOX HOY HFY hgD1 hgD2
    go_wp2_with fail
    go_loopw [46] (fun i wr => ∃ q : Nat, q ≤ sn ∧ i = .int .i64 (q : Int) ∧ Blk wr xb 40 (sn * 4) ∧ Blk wr yb 40 (sn * 4) ∧ wr.heap.size = W7.heap.size ∧ (∀ b, b ≠ xb → b ≠ yb → wr.heap[b]? = W7.heap[b]?) ∧ Below D W3 wr) (fun i _ => sn - (intOf i).toNat)
    case atStart => exact ⟨0, Nat.zero_le _, rfl, HBX7.out.1, HBX7.out.2, rfl, (fun b _ _ => rfl), HB7.out⟩
    case round =>
      obtain ⟨q, hq, rfl, hbx, hby, hsz, hsame, hbel⟩ := hrel
      have HBX := Lib.hid hbx
      have HBY := Lib.hid hby
      have HSZQ := Lib.hid hsz
      have HSM := Lib.hid hsame
      have HBL := Lib.hid hbel
      clear hbx hby hsz hsame hbel
      by_cases hlt : q < sn
      · have hlti : (q : Int) < (sn : Int) := by omega
        have hq0 : (0 : Int) ≤ (q : Int) := by omega
        obtain ⟨⟨ux0, cx0⟩, fx0⟩ := HBX.out.at (i := q * 4) (by omega)
        obtain ⟨⟨ux1, cx1⟩, fx1⟩ := HBX.out.at (i := q * 4 + 1) (by omega)
        obtain ⟨⟨ux2, cx2⟩, fx2⟩ := HBX.out.at (i := q * 4 + 2) (by omega)
        obtain ⟨⟨ux3, cx3⟩, fx3⟩ := HBX.out.at (i := q * 4 + 3) (by omega)
        go_upto_region 12 with (fail)
        have hDx : D ≤ xb ∧ D ≤ yb := by
          have h3 := HSZA.out
          have hx := HXB.out
          have hy := HYB.out
          omega
        obtain ⟨wb, hwb⟩ : ∃ wb : World, wb = (((wr.setCell ⟨xb, q * 4, none⟩ (.bool false)).setCell ⟨xb, q * 4 + 1, none⟩ (.int .i64 77)).setCell ⟨xb, q * 4 + 2, none⟩ (.int .i64 0)).setCell ⟨xb, q * 4 + 3, none⟩ (.slice none 0 0) := ⟨_, rfl⟩
        have HBXb := Lib.hid (show Blk wb xb 40 (sn * 4) from by rw [hwb]; exact (((HBX.out.set _ _ _).set _ _ _).set _ _ _).set _ _ _)
        have HBYb := Lib.hid (show Blk wb yb 40 (sn * 4) from by rw [hwb]; exact (((HBY.out.set _ _ _).set _ _ _).set _ _ _).set _ _ _)
        have HSZb := Lib.hid (show wb.heap.size = W7.heap.size from by rw [hwb]; simp [World.setCell]; exact HSZQ.out)
        have HSMb := Lib.hid (show ∀ b, b ≠ xb → b ≠ yb → wb.heap[b]? = W7.heap[b]? from fun b h1 h2 => by
          rw [hwb, heap_setCell_other _ ⟨xb, q * 4 + 3, none⟩ b _ h1, heap_setCell_other _ ⟨xb, q * 4 + 2, none⟩ b _ h1, heap_setCell_other _ ⟨xb, q * 4 + 1, none⟩ b _ h1, heap_setCell_other _ ⟨xb, q * 4, none⟩ b _ h1]
          exact HSM.out b h1 h2)
        have HBLb := Lib.hid (show Below D W3 wb from by rw [hwb]; exact (((HBL.out.setCell (p := ⟨xb, q * 4, none⟩) hDx.1 _).setCell (p := ⟨xb, q * 4 + 1, none⟩) hDx.1 _).setCell (p := ⟨xb, q * 4 + 2, none⟩) hDx.1 _).setCell (p := ⟨xb, q * 4 + 3, none⟩) hDx.1 _)
        rw [← hwb]
        clear hwb cx0 cx1 cx2 cx3 fx0 fx1 fx2 fx3
        obtain ⟨⟨uy0, cy0⟩, fy0⟩ := HBYb.out.at (i := q * 4) (by omega)
        obtain ⟨⟨uy1, cy1⟩, fy1⟩ := HBYb.out.at (i := q * 4 + 1) (by omega)
        obtain ⟨⟨uy2, cy2⟩, fy2⟩ := HBYb.out.at (i := q * 4 + 2) (by omega)
        obtain ⟨⟨uy3, cy3⟩, fy3⟩ := HBYb.out.at (i := q * 4 + 3) (by omega)
        go_wp2_with fail
        go_roundw
        case rel =>
          refine ⟨q + 1, by omega, by go_num, (((HBXb.out.set _ _ _).set _ _ _).set _ _ _).set _ _ _, (((HBYb.out.set _ _ _).set _ _ _).set _ _ _).set _ _ _, ?_, fun b h1 h2 => ?_, ?_⟩
          · simp [World.setCell]; exact HSZb.out
          · rw [heap_setCell_other _ ⟨yb, q * 4 + 3, none⟩ b _ h2, heap_setCell_other _ ⟨yb, q * 4 + 2, none⟩ b _ h2, heap_setCell_other _ ⟨yb, q * 4 + 1, none⟩ b _ h2, heap_setCell_other _ ⟨yb, q * 4, none⟩ b _ h2]
            exact HSMb.out b h1 h2
          · exact (((HBLb.out.setCell (p := ⟨yb, q * 4, none⟩) hDx.2 _).setCell (p := ⟨yb, q * 4 + 1, none⟩) hDx.2 _).setCell (p := ⟨yb, q * 4 + 2, none⟩) hDx.2 _).setCell (p := ⟨yb, q * 4 + 3, none⟩) hDx.2 _
        case measure => simp [intOf]; omega
      · have hqn : q = sn := by omega
        subst hqn
        have hlti : ¬ (q : Int) < (q : Int) := by omega
        have hza := HSZA.out
        have HD8 := Lib.hid ((HSM.out D (by omega) (by omega)).trans HD7.out)
        have HO8 := Lib.hid (own_same HO7.out (fun b hb => HSM.out b (by simp [Value.ownBlock] at hb; omega) (by simp [Value.ownBlock] at hb; omega)))
        have HA8 : Above W4.heap.size W7 wr := fun b h1 h2 => HSM.out b (by have := HXB.out; omega) (by have := HYB.out; omega)
        have HR18 := Lib.hid (HRA1.out.above HA8 (Nat.le_refl _))
        have HR38 := Lib.hid (HRA3.out.above (HA8.mono (by have := HSZ1.out; have := HSZ2.out; omega)) (Nat.le_refl _))
        have HV8 := Lib.hid (rdS_own HO8.out rfl (vr_len _))
        have HS8 := Lib.hid (show D < wr.heap.size ∧ g2 < wr.heap.size from by rw [HSZQ.out]; omega)
        have HK1 := Lib.hid (show l1.map Prod.fst = rowOf (colsN a0) a1 from HL1.out.trans HLX.out)
        have HK3 := Lib.hid (show l3.map Prod.fst = rowOf (colsN a0) a2 from HL3.out.trans HLY.out)
        clear hza HA8 HBX HBY HSZQ HSM HRA1 HRA3 HO7 HD7 HBX7 HB7 HL1 HL3 HLX HLY
        obtain ⟨W8, hW8⟩ := name_w3 HBL.out
        rw [← hW8] at HBL HD8 HO8 HR18 HR38 HV8 HS8 ⊢
        clear hW8
        have hl1n := fst_len HK1.out
        rw [← HSN.out] at hl1n
        have HG1 := Lib.hid (dget_any [⟨1, na1, nn1, nc1, 0, 0, 0, 0⟩, ⟨2, na3, nn3, nc3, 0, 0, 0, 0⟩] (by simp) (rise_two _ _ (show (1 : Int) < 2 by decide)) (some ⟨g2, 0, none⟩) 2 cap2 D 5 1 0 ⟨1, na1, nn1, nc1, 0, 0, 0, 0⟩ l1 (by rw [hl1n]; omega) W8 rfl HV8.out HD8.out rfl rfl HR18.out.rd (fst_b HK1.out))
        go_wp2_with fail
        refine HG1.out.mono ?_
        rintro e W9 ⟨na4, nn4, nc4, l4, rfl, hl4, hr4, hb9⟩
        have hl4n : l4.length = q := by have := congrArg List.length hl4; rw [List.length_map, List.length_map, hl1n] at this; exact this
        have ho4 := hr4.2.2.1
        obtain ⟨ea4, ec4, hes4⟩ := own_shp ho4
        simp only [Value.slice.injEq] at hes4
        obtain ⟨e41, hnn4, e43⟩ := hes4
        clear e41 e43
        rw [hl4n] at hnn4
        subst hnn4
        rw [hl4n] at ho4
        obtain ⟨rb, rfl⟩ := own_some ho4 hsn0
        have HL4 := Lib.hid hl4n
        have HV0 := heap_alloc_new W9 (.cells #[.int .i64 1, .slice (some ⟨rb, 0, none⟩) nn4 nc4, .int .i64 0, .int .i64 0, .int .i64 0, .int .i64 0] 36)
        have HB9 := Lib.hid (below_lay hb9 (.cells #[.int .i64 1, .slice (some ⟨rb, 0, none⟩) nn4 nc4, .int .i64 0, .int .i64 0, .int .i64 0, .int .i64 0] 36))
        have HL4B := Lib.hid (fst_b (hl4.trans HK1.out))
        have HL20S := Lib.hid (show ∀ t ∈ l4, ∃ sa sc2, t.2 = .slice sa t.1.b.length sc2 from fun t ht => own_shp (hr4.2.2.2 t ht))
        have hr40 := hr4.above (above_below (below_alloc W9 (.cells #[.int .i64 1, .slice (some ⟨rb, 0, none⟩) nn4 nc4, .int .i64 0, .int .i64 0, .int .i64 0, .int .i64 0] 36))) (Nat.le_refl _)
        have HVL := Lib.hid (show W8.heap.size ≤ W9.heap.size from hb9.size)
        clear hl4 hl1n hb9 ho4 hr4 hl4n HG1
        go_upto_region 15 with (fail)
        obtain ⟨W10, hW10⟩ : ∃ W10 : World, W10 = W9.alloc (.cells #[.int .i64 1, .slice (some ⟨rb, 0, none⟩) nn4 nc4, .int .i64 0, .int .i64 0, .int .i64 0, .int .i64 0] 36) := ⟨_, rfl⟩
        obtain ⟨VB, hVB⟩ : ∃ VB, VB = W9.heap.size := ⟨_, rfl⟩
        rw [← hW10] at HV0 HB9 hr40 ⊢
        rw [← hVB] at HV0 HVL ⊢
        have HL20 := Lib.hid (l2_start (w0 := W8) HV0 hr40 HL4.out.symm HB9.out)
        have cvb := HL20.out.cell
        clear hW10 hVB HV0 hr40
        go_wp2_with fail
        clear cvb
        go_loopw [66] (fun i wr2 => ∃ q : Nat, q ≤ nn4 ∧ i = .int .i64 (q : Int) ∧ L2 W8.heap.size W8 VB rb l4 #[.int .i64 1, .slice (some ⟨rb, 0, none⟩) nn4 nc4, .int .i64 0, .int .i64 0, .int .i64 0, .int .i64 0] wr2) (fun i _ => nn4 - (intOf i).toNat)
        case atStart => exact ⟨0, Nat.zero_le _, rfl, HL20.out⟩
        case round =>
          obtain ⟨q, hq, rfl, hl2⟩ := hrel
          have HQ := Lib.hid hl2
          by_cases hlt : q < nn4
          · have hlti : (q : Int) < (nn4 : Int) := by omega
            have hq0 : (0 : Int) ≤ (q : Int) := by omega
            obtain ⟨t, ht⟩ : ∃ t, l4[q]? = some t := ⟨_, List.getElem?_eq_getElem (by rw [HL4.out]; exact hlt)⟩
            have HT := Lib.hid ht
            obtain ⟨⟨mm, c2⟩, c3, f2⟩ := hl2.at ht
            have cvb := hl2.cell
            have hneV : VB ≠ rb := by
              intro e
              have h1 := hl2.vb
              obtain ⟨cur, h2, _⟩ := hl2.rw
              rw [← e, h1] at h2
              simp at h2
            have hneV2 : rb ≠ VB := Ne.symm hneV
            clear ht hl2
            go_upto_region 19 with (fail)
            obtain ⟨wb, hwb⟩ : ∃ wb : World, wb = wr.setCell ⟨rb, q * 4 + 2, none⟩ (.int .i64 (wrap64 (mm + 1))) := ⟨_, rfl⟩
            have HQb := Lib.hid (show L2 W8.heap.size W8 VB rb l4 #[.int .i64 1, .slice (some ⟨rb, 0, none⟩) nn4 nc4, .int .i64 0, .int .i64 0, .int .i64 0, .int .i64 0] wb from by rw [hwb]; exact HQ.out.int q _ (by rw [HL4.out]; exact hlt))
            rw [← hwb]
            clear hwb c2 c3 f2 cvb
            obtain ⟨_, c3, _⟩ := HQb.out.at HT.out
            have cvb := HQb.out.cell
            have hok := HL20S.out t (List.mem_of_getElem? HT.out)
            obtain ⟨sa, sc2, hes⟩ := hok
            obtain ⟨tv, tsl⟩ := t
            simp only at hes c3
            subst hes
            obtain ⟨L, hL⟩ : ∃ L, L = tv.b.length := ⟨_, rfl⟩
            rw [← hL] at c3
            have hLb : L ≤ 1000000 := by rw [hL]; exact HL4B.out _ (List.mem_of_getElem? HT.out)
            have HLL := Lib.hid hL
            clear hL
            go_wp2_with fail
            clear c3 cvb
            go_loopw [85] (fun i wr3 => ∃ k : Nat, k ≤ L ∧ i = .int .i64 (k : Int) ∧ L2 W8.heap.size W8 VB rb l4 #[.int .i64 1, .slice (some ⟨rb, 0, none⟩) nn4 nc4, .int .i64 0, .int .i64 0, .int .i64 0, .int .i64 0] wr3) (fun i _ => L - (intOf i).toNat)
            case atStart => exact ⟨0, Nat.zero_le _, rfl, HQb.out⟩
            case round =>
              obtain ⟨k, hk, rfl, hl3⟩ := hrel
              have HK := Lib.hid hl3
              by_cases hlt2 : k < L
              · have hlti2 : (k : Int) < (L : Int) := by omega
                have hk0 : (0 : Int) ≤ (k : Int) := by omega
                obtain ⟨_, c3, _⟩ := hl3.at HT.out
                have cvb := hl3.cell
                obtain ⟨gb, c', mb, he, cb, fb⟩ := hl3.atb (List.mem_of_getElem? HT.out) (i := k) (by rw [← HLL.out]; exact hlt2)
                simp only [Value.slice.injEq] at he c3
                obtain ⟨rfl, _, _⟩ := he
                rw [← HLL.out] at c3
                clear hl3
                go_wp2_with fail
                go_roundw
                case rel => exact ⟨k + 1, by omega, by go_num, HK.out.byte (c := sc2) (List.mem_of_getElem? HT.out) (by rw [← HLL.out]; exact hlt2) rfl _⟩
                case measure => simp [intOf]; omega
              · have hkL : k = L := by omega
                subst hkL
                have hlti2 : ¬ (k : Int) < (k : Int) := by omega
                clear hl3
                go_wp2_with fail
                go_roundw
                case rel => exact ⟨q + 1, by omega, by go_num, HK.out⟩
                case measure => simp [intOf]; omega
          · have hqn : q = nn4 := by omega
            have hlti : ¬ (q : Int) < (nn4 : Int) := by omega
            have hd11 := (hl2.bel.block D HS8.out.1).trans HD8.out
            have HV11 := Lib.hid (HV8.out.kept hl2.bel)
            have HVB11 := Lib.hid hl2.vb
            have HB11 := Lib.hid hl2.bel
            have HD11 := Lib.hid hd11
            clear hl2 hd11 HL20 hqn
            obtain ⟨W11, hW11⟩ := name_w3 HB11.out
            rw [← hW11] at HV11 HVB11 HB11 HD11 HQ ⊢
            clear hW11 HQ
            have HI := Lib.hid (dids_any [⟨1, na1, nn1, nc1, 0, 0, 0, 0⟩, ⟨2, na3, nn3, nc3, 0, 0, 0, 0⟩] (by simp) (some ⟨g2, 0, none⟩) 2 cap2 D 5 W11 rfl HV11.out HD11.out)
            go_wp2_with fail
            refine HI.out.mono ?_
            rintro e W12 ⟨rfl, hown12, hb12⟩
            obtain ⟨G, hG⟩ : ∃ G, G = W11.heap.size := ⟨_, rfl⟩
            rw [← hG] at hown12 ⊢
            have HGG := Lib.hid hG
            have HO12 := Lib.hid hown12
            have HB12 := Lib.hid hb12
            clear hG hown12 hb12 HI
            go_wp2_with fail
            go_loopw [105] (fun i wr4 => ∃ q : Nat, q ≤ 2 ∧ i = .int .i64 (q : Int) ∧ Blk wr4 G 3 2 ∧ Below W11.heap.size W11 wr4) (fun i _ => 2 - (intOf i).toNat)
            case atStart => exact ⟨0, Nat.zero_le _, rfl, own_blk HO12.out, HB12.out⟩
            case round =>
              obtain ⟨q2, hq2, rfl, hbk, hb4⟩ := hrel
              have HBK := Lib.hid hbk
              have HB4b := Lib.hid hb4
              by_cases hlt2 : q2 < 2
              · have hlti2 : (q2 : Int) < 2 := by omega
                have hq20 : (0 : Int) ≤ (q2 : Int) := by omega
                obtain ⟨⟨u0, c0⟩, f0⟩ := hbk.at hlt2
                clear hbk hb4
                go_wp2_with fail
                go_roundw
                case rel => exact ⟨q2 + 1, by omega, by go_num, HBK.out.set _ _ _, HB4b.out.setCell (p := ⟨G, q2, none⟩) (by show _ ≤ G; rw [HGG.out]; exact Nat.le_refl _) _⟩
                case measure => simp [intOf]; omega
              · have hq22 : q2 = 2 := by omega
                subst hq22
                have HV13 := Lib.hid (HV11.out.kept hb4)
                have HD13 := Lib.hid ((hb4.block D (Array.getElem?_eq_some_iff.1 HD11.out).1).trans HD11.out)
                have HVB13 := Lib.hid ((hb4.block VB (Array.getElem?_eq_some_iff.1 HVB11.out).1).trans HVB11.out)
                have HB13 := Lib.hid (below_then HB11.out hb4)
                clear hbk hb4 HBK
                obtain ⟨W13, hW13⟩ := name_w3 HB4b.out
                rw [← hW13] at HV13 HD13 HVB13 HB13 ⊢
                clear hW13 HB4b HV11 HD11 HVB11 HB12 HO12
                have hl1n := fst_len HK1.out
                have hl3n := fst_len HK3.out
                have hsn6' : (colsN a0).length ≤ 6 := HOK.out.le
                have HGA := Lib.hid (dget_any [⟨1, na1, nn1, nc1, 0, 0, 0, 0⟩, ⟨2, na3, nn3, nc3, 0, 0, 0, 0⟩] (by simp) (rise_two _ _ (show (1 : Int) < 2 by decide)) (some ⟨g2, 0, none⟩) 2 cap2 D 5 1 0 ⟨1, na1, nn1, nc1, 0, 0, 0, 0⟩ l1 (by omega) W13 rfl HV13.out HD13.out rfl rfl ((HR18.out.above (above_below HB13.out) (Nat.le_refl _)).rd) (fst_b HK1.out))
                have HGB := Lib.hid fun w' (h : Below W8.heap.size W8 w') => dget_any [⟨1, na1, nn1, nc1, 0, 0, 0, 0⟩, ⟨2, na3, nn3, nc3, 0, 0, 0, 0⟩] (by simp) (rise_two _ _ (show (1 : Int) < 2 by decide)) (some ⟨g2, 0, none⟩) 2 cap2 D 5 2 1 ⟨2, na3, nn3, nc3, 0, 0, 0, 0⟩ l3 (by omega) w' rfl (HV8.out.kept h) ((h.block D HS8.out.1).trans HD8.out) rfl rfl ((HR38.out.above (above_below h) (Nat.le_refl _)).rd) (fst_b HK3.out)
                go_wp2_with fail
                refine HGA.out.mono ?_
                rintro e W14 ⟨na5, nn5, nc5, l5, rfl, hl5, hr5, hb14⟩
                have HK5 := Lib.hid (hl5.trans HK1.out)
                have HR5 := Lib.hid hr5
                have HV14 := Lib.hid ((hb14.block VB (Array.getElem?_eq_some_iff.1 HVB13.out).1).trans HVB13.out)
                have HB14 := Lib.hid (below_then HB13.out hb14)
                have hVB13 : VB < W13.heap.size := (Array.getElem?_eq_some_iff.1 HVB13.out).1
                have hVB8 : W8.heap.size ≤ VB := HVL.out
                clear hl5 hr5 hb14 HGA
                have cv0 : W14.cell? ⟨VB, 0, none⟩ = some (.int .i64 1) := by rw [cell_of_row W14 VB 0 _ _ _ HV14.out]; rfl
                have fv0 : W14.frozen? ⟨VB, 0, none⟩ = false := frozen_of_row W14 VB 0 _ _ HV14.out
                have cv1 : W14.cell? ⟨VB, 1, none⟩ = some (.slice (some ⟨rb, 0, none⟩) nn4 nc4) := by rw [cell_of_row W14 VB 1 _ _ _ HV14.out]; rfl
                have fv1 : W14.frozen? ⟨VB, 1, none⟩ = false := frozen_of_row W14 VB 1 _ _ HV14.out
                have cv2 : W14.cell? ⟨VB, 2, none⟩ = some (.int .i64 0) := by rw [cell_of_row W14 VB 2 _ _ _ HV14.out]; rfl
                have fv2 : W14.frozen? ⟨VB, 2, none⟩ = false := frozen_of_row W14 VB 2 _ _ HV14.out
                have cv3 : W14.cell? ⟨VB, 3, none⟩ = some (.int .i64 0) := by rw [cell_of_row W14 VB 3 _ _ _ HV14.out]; rfl
                have fv3 : W14.frozen? ⟨VB, 3, none⟩ = false := frozen_of_row W14 VB 3 _ _ HV14.out
                have cv4 : W14.cell? ⟨VB, 4, none⟩ = some (.int .i64 0) := by rw [cell_of_row W14 VB 4 _ _ _ HV14.out]; rfl
                have fv4 : W14.frozen? ⟨VB, 4, none⟩ = false := frozen_of_row W14 VB 4 _ _ HV14.out
                have cv5 : W14.cell? ⟨VB, 5, none⟩ = some (.int .i64 0) := by rw [cell_of_row W14 VB 5 _ _ _ HV14.out]; rfl
                have fv5 : W14.frozen? ⟨VB, 5, none⟩ = false := frozen_of_row W14 VB 5 _ _ HV14.out
                go_upto_region 32 with (fail)
                obtain ⟨W15, hW15⟩ : ∃ W15 : World, W15 = ((((((W14.setCell ⟨VB, 0, none⟩ (.int .i64 1)).setCell ⟨VB, 1, none⟩ (.slice na5 nn5 nc5)).setCell ⟨VB, 2, none⟩ (.int .i64 0)).setCell ⟨VB, 3, none⟩ (.int .i64 0)).setCell ⟨VB, 4, none⟩ (.int .i64 0)).setCell ⟨VB, 5, none⟩ (.int .i64 0)) := ⟨_, rfl⟩
                have HV15 := Lib.hid (show W15.heap[VB]? = some (.cells #[.int .i64 1, .slice na5 nn5 nc5, .int .i64 0, .int .i64 0, .int .i64 0, .int .i64 0] 36 (0, 0)) from by rw [hW15]; exact six_heap HV14.out)
                have HB15 := Lib.hid (show Below W8.heap.size W8 W15 from by rw [hW15]; exact ((((((HB14.out.setCell (p := ⟨VB, 0, none⟩) hVB8 _).setCell (p := ⟨VB, 1, none⟩) hVB8 _).setCell (p := ⟨VB, 2, none⟩) hVB8 _).setCell (p := ⟨VB, 3, none⟩) hVB8 _).setCell (p := ⟨VB, 4, none⟩) hVB8 _).setCell (p := ⟨VB, 5, none⟩) hVB8 _))
                have HR15 := Lib.hid (show RdRA W13.heap.size W15 (.slice na5 nn5 nc5) l5 from HR5.out.above (by rw [hW15]; exact above_set (above_set (above_set (above_set (above_set (above_set (Above.refl _ _) _ _ hVB13) _ _ hVB13) _ _ hVB13) _ _ hVB13) _ _ hVB13) _ _ hVB13) (Nat.le_refl _))
                rw [← hW15]
                clear hW15 cv0 fv0 cv1 fv1 cv2 fv2 cv3 fv3 cv4 fv4 cv5 fv5
                go_wp2_with fail
                refine (HGB.out W15 HB15.out).mono ?_
                rintro e W16 ⟨na6, nn6, nc6, l6, rfl, hl6, hr6, hb16⟩
                have HK6 := Lib.hid (hl6.trans HK3.out)
                have hy17 := heap_alloc_new W16 (.cells #[.int .i64 2, .slice na6 nn6 nc6, .int .i64 0, .int .i64 0, .int .i64 0, .int .i64 0] 36)
                have hb17 := below_lay hb16 (.cells #[.int .i64 2, .slice na6 nn6 nc6, .int .i64 0, .int .i64 0, .int .i64 0, .int .i64 0] 36)
                have HB17 := Lib.hid (below_then HB15.out hb17)
                have HV17 := Lib.hid ((hb17.block VB (Array.getElem?_eq_some_iff.1 HV15.out).1).trans HV15.out)
                have HP5 := Lib.hid ((HR15.out.above (above_below hb17) (Nat.le_refl _)).rd)
                have HP6 := Lib.hid ((hr6.above (above_below (below_alloc W16 (.cells #[.int .i64 2, .slice na6 nn6 nc6, .int .i64 0, .int .i64 0, .int .i64 0, .int .i64 0] 36))) (Nat.le_refl _)).rd)
                clear hl6 hr6 hb16 hb17
                go_upto_region 33 with (fail)
                obtain ⟨W17, hW17⟩ : ∃ W17 : World, W17 = W16.alloc (.cells #[.int .i64 2, .slice na6 nn6 nc6, .int .i64 0, .int .i64 0, .int .i64 0, .int .i64 0] 36) := ⟨_, rfl⟩
                obtain ⟨VC, hVC⟩ : ∃ VC, VC = W16.heap.size := ⟨_, rfl⟩
                rw [← hW17] at hy17 HB17 HV17 HP5 HP6 ⊢
                rw [← hVC] at hy17 ⊢
                have HY17 := Lib.hid hy17
                clear hW17 hVC hy17 HGB
                have HD17 := Lib.hid ((HB17.out.block D HS8.out.1).trans HD8.out)
                have HW17 := Lib.hid (HV8.out.kept HB17.out)
                have HBD := Lib.hid (show ∀ w', Below W17.heap.size W17 w' → Below D W3 w' from fun w' h => ((HBL.out).trans (HB17.out.mono (by have := HS8.out.1; omega))).trans (h.mono (by have := HB17.out.size; have := HS8.out.1; omega)))
                have HRX := Lib.hid (show ∀ (m : Int) (w' : World), Below W17.heap.size W17 w' → Calls Try.prog 17 #[.agg #[.slice so nn4 sc], .int .i64 m] w' fun e w'' => ∃ (xa : Option Addr) (xc : Nat), e = .returned (.slice xa nn4 xc) ∧ RdRow w'' (.slice xa nn4 xc) (rowOf (colsN a0) m) ∧ Below w'.heap.size w' w'' from by
                  intro m w' hb
                  refine (row_is (.slice so nn4 sc) (colsN a0) m w' (HCD.out w' (HBD.out w' hb)) HOK.out.le).mono ?_
                  rintro e w'' ⟨u, l, rfl, h1, h2, h3, h4⟩
                  obtain ⟨oa, oc, rfl⟩ := oinv_shape h2
                  have hl := fst_len h1
                  rw [← HSN.out] at hl
                  rw [hl] at h2 ⊢
                  exact ⟨oa, oc, rfl, ⟨l, h1, oinv_rdP h2⟩, h3⟩)
                have HCS := Lib.hid (show ∀ w', Below W17.heap.size W17 w' → w'.cell? ⟨SB, 0, none⟩ = some (.slice so nn4 sc) from fun w' h => HSBD.out w' (HBD.out w' h))
                have HCV := Lib.hid (show ∀ w', Below W17.heap.size W17 w' → w'.cell? ⟨VB, 1, none⟩ = some (.slice na5 nn5 nc5) from fun w' h => by rw [cell_of_row w' VB 1 _ _ _ ((h.block VB (Array.getElem?_eq_some_iff.1 HV17.out).1).trans HV17.out)]; rfl)
                have HCY := Lib.hid (show ∀ w', Below W17.heap.size W17 w' → w'.cell? ⟨VC, 1, none⟩ = some (.slice na6 nn6 nc6) from fun w' h => by rw [cell_of_row w' VC 1 _ _ _ ((h.block VC (Array.getElem?_eq_some_iff.1 HY17.out).1).trans HY17.out)]; rfl)
                have HIX := Lib.hid fun w' (h : Below W17.heap.size W17 w') => dids_any [⟨1, na1, nn1, nc1, 0, 0, 0, 0⟩, ⟨2, na3, nn3, nc3, 0, 0, 0, 0⟩] (by simp) (some ⟨g2, 0, none⟩) 2 cap2 D 5 w' rfl (HW17.out.kept h) ((h.block D (Array.getElem?_eq_some_iff.1 HD17.out).1).trans HD17.out)
                have hlr1 : (rowOf (colsN a0) a1).length ≤ 1000000 := by rw [rowOf_len]; omega
                have hlr2 : (rowOf (colsN a0) a2).length ≤ 1000000 := by rw [rowOf_len]; omega
                have cs0 := HCS.out W17 (Below.refl _ _)
                have cv0 := HCV.out W17 (Below.refl _ _)
                have cy0 := HCY.out W17 (Below.refl _ _)
                have HFIN := Lib.hid (show ∀ w', Below W17.heap.size W17 w' → Below w.heap.size w w' from fun w' h => HB3.out.trans ((HBD.out w' h).mono HDW.out))
                clear hsz3 hVB13 hVB8 hl1n hl3n hsn6'
                try clear hlt
                try clear hq
                try clear hlt2
                try clear hq2
                try clear hlti
                try clear hsn0
                try clear hsn6
                clear HS HR18 HR38 HV8 HD8 HO8 HK1 HK3 HG1 HG2 HSZ1 HSZ2 HSZ3 HSZA HXB HYB HL4 HL4B HL20S HVL HB9 HRW HSB0 HV13 HD13 HVB13 HB13 HR5 HV14 HB14 HV15 HB15 HR15 HV17 HY17 HD17 HW17 HBD
                refine wp_region_noPanic ?_
                refine wp_region_held_drew (S := (fun w' => w'.cell? ⟨SB, 0, none⟩ = some (.slice so nn4 sc) ∧ w'.cell? ⟨VB, 1, none⟩ = some (.slice na5 nn5 nc5) ∧ w'.cell? ⟨VC, 1, none⟩ = some (.slice na6 nn6 nc6) ∧ Below W17.heap.size W17 w')) (by kernel_rfl) ?hS0 (fun hHeld => ?go0)
                case' hS0 => ((try dsimp only); (first | (with_reducible assumption) | exact below_drw _ _ | exact Below.refl _ _ | exact ⟨(by first | exact HCS.out _ hB9 | exact HCS.out _ (below_drw _ _)), (by first | exact HCV.out _ hB9 | exact HCV.out _ (below_drw _ _)), (by first | exact HCY.out _ hB9 | exact HCY.out _ (below_drw _ _)), (by first | exact hB9 | exact below_drw _ _)⟩ | exact ⟨HCS.out _ (below_then hB9 (below_drw _ _)), HCV.out _ (below_then hB9 (below_drw _ _)), HCY.out _ (below_then hB9 (below_drw _ _)), below_then hB9 (below_drw _ _)⟩))
                refine wpAnyH_take (i := 0) (v := ?v0) rfl (by kernel_rfl) (by kernel_rfl) (by kernel_rfl) (fun _ _ _ h => h) (Or.inl ⟨by rfl, ?hy0⟩) (by assumption) ?_
                case' hy0 => (intro w hSw; (try dsimp only at hSw); first | (go_simp; done) | (go_simp; with_reducible rfl))
                (try simp only [Act.put, List.getElem_toArray, List.getElem_cons_succ, List.getElem_cons_zero, List.setIfInBounds_toArray, List.set_cons_zero, List.set_cons_succ])
                refine wpAnyH_take (i := 1) (v := ?v1) rfl (by kernel_rfl) (by kernel_rfl) (by kernel_rfl) (fun _ _ _ h => h) (Or.inl ⟨by rfl, ?hy1⟩) (by assumption) ?_
                case' hy1 => (intro w hSw; (try dsimp only at hSw); first | (go_simp; done) | (go_simp; with_reducible rfl))
                (try simp only [Act.put, List.getElem_toArray, List.getElem_cons_succ, List.getElem_cons_zero, List.setIfInBounds_toArray, List.set_cons_zero, List.set_cons_succ])
                refine wpAnyH_take (i := 2) (v := ?v2) rfl (by kernel_rfl) (by kernel_rfl) (by kernel_rfl) (fun _ _ _ h => h) (Or.inl ⟨by rfl, ?hy2⟩) (by assumption) ?_
                case' hy2 => (intro w hSw; (try dsimp only at hSw); first | (go_simp; done) | (go_simp; with_reducible rfl))
                (try simp only [Act.put, List.getElem_toArray, List.getElem_cons_succ, List.getElem_cons_zero, List.setIfInBounds_toArray, List.set_cons_zero, List.set_cons_succ])
                refine wpAnyH_take (i := 3) (v := ?v3) rfl (by kernel_rfl) (by kernel_rfl) (by kernel_rfl) (fun _ _ _ h => h) (Or.inl ⟨by rfl, ?hy3⟩) (by assumption) ?_
                case' hy3 => (intro w hSw; (try dsimp only at hSw); first | (go_simp; done) | (go_simp; with_reducible rfl))
                (try simp only [Act.put, List.getElem_toArray, List.getElem_cons_succ, List.getElem_cons_zero, List.setIfInBounds_toArray, List.set_cons_zero, List.set_cons_succ])
                refine wpAnyH_take (i := 4) (v := ?v4) rfl (by kernel_rfl) (by kernel_rfl) (by kernel_rfl) (fun _ _ _ h => h) (Or.inl ⟨by rfl, ?hy4⟩) (by assumption) ?_
                case' hy4 => (intro w hSw; (try dsimp only at hSw); first | (go_simp; done) | (go_simp; with_reducible rfl))
                (try simp only [Act.put, List.getElem_toArray, List.getElem_cons_succ, List.getElem_cons_zero, List.setIfInBounds_toArray, List.set_cons_zero, List.set_cons_succ])
                refine wpAnyH_take (i := 5) (v := ?v5) rfl (by kernel_rfl) (by kernel_rfl) (by kernel_rfl) (fun _ _ _ h => h) (Or.inl ⟨by rfl, ?hy5⟩) (by assumption) ?_
                case' hy5 => (intro w hSw; (try dsimp only at hSw); first | (go_simp; done) | (go_simp; with_reducible rfl))
                (try simp only [Act.put, List.getElem_toArray, List.getElem_cons_succ, List.getElem_cons_zero, List.setIfInBounds_toArray, List.set_cons_zero, List.set_cons_succ])
                refine wpAnyH_take (i := 6) (v := ?v6) rfl (by kernel_rfl) (by kernel_rfl) (by kernel_rfl) (fun _ _ _ h => h) (Or.inl ⟨by rfl, ?hy6⟩) (by assumption) ?_
                case' hy6 => (intro w hSw; (try dsimp only at hSw); first | (go_simp; done) | (go_simp; with_reducible rfl))
                (try simp only [Act.put, List.getElem_toArray, List.getElem_cons_succ, List.getElem_cons_zero, List.setIfInBounds_toArray, List.set_cons_zero, List.set_cons_succ])
                refine wpAnyH_take (i := 7) (v := ?v7) rfl (by kernel_rfl) (by kernel_rfl) (by kernel_rfl) (fun _ _ _ h => h) (Or.inl ⟨by rfl, ?hy7⟩) (by assumption) ?_
                case' hy7 => (intro w hSw; (try dsimp only at hSw); first | (go_simp; done) | (go_simp; with_reducible rfl))
                (try simp only [Act.put, List.getElem_toArray, List.getElem_cons_succ, List.getElem_cons_zero, List.setIfInBounds_toArray, List.set_cons_zero, List.set_cons_succ])
                refine wpAnyH_take (i := 8) (v := ?v8) rfl (by kernel_rfl) (by kernel_rfl) (by kernel_rfl) (fun _ _ _ h => h) (Or.inl ⟨by rfl, ?hy8⟩) (by assumption) ?_
                case' hy8 => (intro w hSw; (try dsimp only at hSw); first | (go_simp; done) | (go_simp; with_reducible rfl))
                (try simp only [Act.put, List.getElem_toArray, List.getElem_cons_succ, List.getElem_cons_zero, List.setIfInBounds_toArray, List.set_cons_zero, List.set_cons_succ])
                refine wpAnyH_take (i := 9) (v := ?v9) rfl (by kernel_rfl) (by kernel_rfl) (by kernel_rfl) (fun _ _ _ h => h) (Or.inl ⟨by rfl, ?hy9⟩) (by assumption) ?_
                case' hy9 => (intro w hSw; (try dsimp only at hSw); first | (go_simp; done) | (go_simp; with_reducible rfl))
                (try simp only [Act.put, List.getElem_toArray, List.getElem_cons_succ, List.getElem_cons_zero, List.setIfInBounds_toArray, List.set_cons_zero, List.set_cons_succ])
                refine wpAnyH_take (i := 10) (v := ?v10) rfl (by kernel_rfl) (by kernel_rfl) (by kernel_rfl) (fun _ _ _ h => h) (Or.inl ⟨by rfl, ?hy10⟩) (by assumption) ?_
                case' hy10 => (intro w hSw; (try dsimp only at hSw); first | (go_simp; done) | (go_simp; with_reducible rfl))
                (try simp only [Act.put, List.getElem_toArray, List.getElem_cons_succ, List.getElem_cons_zero, List.setIfInBounds_toArray, List.set_cons_zero, List.set_cons_succ])
                refine wpAnyH_take (i := 11) (v := ?v11) rfl (by kernel_rfl) (by kernel_rfl) (by kernel_rfl) (fun _ _ _ h => h) (Or.inl ⟨by rfl, ?hy11⟩) (by assumption) ?_
                case' hy11 => (intro w hSw; (try dsimp only at hSw); first | (go_simp; done) | (go_simp; with_reducible rfl))
                (try simp only [Act.put, List.getElem_toArray, List.getElem_cons_succ, List.getElem_cons_zero, List.setIfInBounds_toArray, List.set_cons_zero, List.set_cons_succ])
                refine wpAnyH_take (i := 12) (v := ?v12) rfl (by kernel_rfl) (by kernel_rfl) (by kernel_rfl) (fun _ _ _ h => h) (Or.inl ⟨by rfl, ?hy12⟩) (by assumption) ?_
                case' hy12 => (intro w hSw; (try dsimp only at hSw); first | (go_simp; done) | (go_simp; with_reducible rfl))
                (try simp only [Act.put, List.getElem_toArray, List.getElem_cons_succ, List.getElem_cons_zero, List.setIfInBounds_toArray, List.set_cons_zero, List.set_cons_succ])
                refine wpAnyH_take (i := 13) (v := ?v13) rfl (by kernel_rfl) (by kernel_rfl) (by kernel_rfl) (fun _ _ _ h => h) (Or.inl ⟨by rfl, ?hy13⟩) (by assumption) ?_
                case' hy13 => (intro w hSw; (try dsimp only at hSw); first | (go_simp; done) | (go_simp; with_reducible rfl))
                (try simp only [Act.put, List.getElem_toArray, List.getElem_cons_succ, List.getElem_cons_zero, List.setIfInBounds_toArray, List.set_cons_zero, List.set_cons_succ])
                refine wpAnyH_take (i := 14) (v := ?v14) rfl (by kernel_rfl) (by kernel_rfl) (by kernel_rfl) (fun _ _ _ h => h) (Or.inl ⟨by rfl, ?hy14⟩) (by assumption) ?_
                case' hy14 => (intro w hSw; (try dsimp only at hSw); first | (go_simp; done) | (go_simp; with_reducible rfl))
                (try simp only [Act.put, List.getElem_toArray, List.getElem_cons_succ, List.getElem_cons_zero, List.setIfInBounds_toArray, List.set_cons_zero, List.set_cons_succ])
                refine wpAnyH_take (i := 15) (v := ?v15) rfl (by kernel_rfl) (by kernel_rfl) (by kernel_rfl) (fun _ _ _ h => h) (Or.inl ⟨by rfl, ?hy15⟩) (by assumption) ?_
                case' hy15 => (intro w hSw; (try dsimp only at hSw); first | (go_simp; done) | (go_simp; with_reducible rfl))
                (try simp only [Act.put, List.getElem_toArray, List.getElem_cons_succ, List.getElem_cons_zero, List.setIfInBounds_toArray, List.set_cons_zero, List.set_cons_succ])
                refine wpAnyH_take (i := 16) (v := ?v16) rfl (by kernel_rfl) (by kernel_rfl) (by kernel_rfl) (fun _ _ _ h => h) (Or.inl ⟨by rfl, ?hy16⟩) (by assumption) ?_
                case' hy16 => (intro w hSw; (try dsimp only at hSw); first | (go_simp; done) | (go_simp; with_reducible rfl))
                (try simp only [Act.put, List.getElem_toArray, List.getElem_cons_succ, List.getElem_cons_zero, List.setIfInBounds_toArray, List.set_cons_zero, List.set_cons_succ])
                refine wpAnyH_take (i := 17) (v := ?v17) rfl (by kernel_rfl) (by kernel_rfl) (by kernel_rfl) (fun _ _ _ h => h) (Or.inl ⟨by rfl, ?hy17⟩) (by assumption) ?_
                case' hy17 => (intro w hSw; (try dsimp only at hSw); first | (go_simp; done) | (go_simp; with_reducible rfl))
                (try simp only [Act.put, List.getElem_toArray, List.getElem_cons_succ, List.getElem_cons_zero, List.setIfInBounds_toArray, List.set_cons_zero, List.set_cons_succ])
                refine wpAnyH_ready (rs := [18]) (by kernel_rfl) (by simp) ?_
                refine AllReadyH.cons (o := _) rfl (fun K18 hK18 => ?_) AllReadyH.nil
                go_simp
                (go_at_call_of 17 (Value.int IntKind.i64 a1); refine (HRX.out a1 _ (by first | (with_reducible assumption) | exact Below.refl _ _ | exact below_drw _ _)).mono ?_; rintro e wA ⟨xA, cA, rfl, hrA, hbA⟩; have hBA : Below W17.heap.size W17 wA := (by first | exact hbA | exact below_then (below_drw _ _) hbA); have hB9 := hBA)
                refine hK18.out _ _ ?hS18 (fun hHeld18 => ?_)
                case' hS18 => ((try dsimp only); (first | (with_reducible assumption) | exact below_drw _ _ | exact Below.refl _ _ | exact ⟨(by first | exact HCS.out _ hB9 | exact HCS.out _ (below_drw _ _)), (by first | exact HCV.out _ hB9 | exact HCV.out _ (below_drw _ _)), (by first | exact HCY.out _ hB9 | exact HCY.out _ (below_drw _ _)), (by first | exact hB9 | exact below_drw _ _)⟩ | exact ⟨HCS.out _ (below_then hB9 (below_drw _ _)), HCV.out _ (below_then hB9 (below_drw _ _)), HCY.out _ (below_then hB9 (below_drw _ _)), below_then hB9 (below_drw _ _)⟩))
                clear hK18 K18
                (try simp only [Act.put, List.getElem_toArray, List.getElem_cons_succ, List.getElem_cons_zero, List.setIfInBounds_toArray, List.set_cons_zero, List.set_cons_succ])
                refine wpAnyH_ready (rs := [19]) (by kernel_rfl) (by simp) ?_
                refine AllReadyH.cons (o := _) rfl (fun K19 hK19 => ?_) AllReadyH.nil
                go_simp
                (go_at_call_of 22 (Value.slice na5 nn5 nc5); refine (sameRow_any _ _ (rowOf (colsN a0) a1) (rowOf (colsN a0) a1) _ ⟨l5, HK5.out, HP5.out.kept hBA⟩ hrA hlr1 hlr1).mono ?_; rw [sameR_refl]; rintro e wB ⟨rfl, hbB⟩; have hBB : Below W17.heap.size W17 wB := below_then hBA hbB; have hB9 := hBB)
                refine hK19.out _ _ ?hS19 (fun hHeld19 => ?_)
                case' hS19 => ((try dsimp only); (first | (with_reducible assumption) | exact below_drw _ _ | exact Below.refl _ _ | exact ⟨(by first | exact HCS.out _ hB9 | exact HCS.out _ (below_drw _ _)), (by first | exact HCV.out _ hB9 | exact HCV.out _ (below_drw _ _)), (by first | exact HCY.out _ hB9 | exact HCY.out _ (below_drw _ _)), (by first | exact hB9 | exact below_drw _ _)⟩ | exact ⟨HCS.out _ (below_then hB9 (below_drw _ _)), HCV.out _ (below_then hB9 (below_drw _ _)), HCY.out _ (below_then hB9 (below_drw _ _)), below_then hB9 (below_drw _ _)⟩))
                clear hK19 K19
                (try simp only [Act.put, List.getElem_toArray, List.getElem_cons_succ, List.getElem_cons_zero, List.setIfInBounds_toArray, List.set_cons_zero, List.set_cons_succ])
                refine wpAnyH_take (i := 20) (v := ?v20) rfl (by kernel_rfl) (by kernel_rfl) (by kernel_rfl) (fun _ _ _ h => h) (Or.inl ⟨by rfl, ?hy20⟩) (by assumption) ?_
                case' hy20 => (intro w hSw; (try dsimp only at hSw); first | (go_simp; done) | (go_simp; with_reducible rfl))
                (try simp only [Act.put, List.getElem_toArray, List.getElem_cons_succ, List.getElem_cons_zero, List.setIfInBounds_toArray, List.set_cons_zero, List.set_cons_succ])
                refine wpAnyH_take (i := 21) (v := ?v21) rfl (by kernel_rfl) (by kernel_rfl) (by kernel_rfl) (fun _ _ _ h => h) (Or.inl ⟨by rfl, ?hy21⟩) (by assumption) ?_
                case' hy21 => (intro w hSw; (try dsimp only at hSw); first | (go_simp; done) | (go_simp; with_reducible rfl))
                (try simp only [Act.put, List.getElem_toArray, List.getElem_cons_succ, List.getElem_cons_zero, List.setIfInBounds_toArray, List.set_cons_zero, List.set_cons_succ])
                refine wpAnyH_take (i := 22) (v := ?v22) rfl (by kernel_rfl) (by kernel_rfl) (by kernel_rfl) (fun _ _ _ h => h) (Or.inl ⟨by rfl, ?hy22⟩) (by assumption) ?_
                case' hy22 => (intro w hSw; (try dsimp only at hSw); first | (go_simp; done) | (go_simp; with_reducible rfl))
                (try simp only [Act.put, List.getElem_toArray, List.getElem_cons_succ, List.getElem_cons_zero, List.setIfInBounds_toArray, List.set_cons_zero, List.set_cons_succ])
                refine wpAnyH_take (i := 23) (v := ?v23) rfl (by kernel_rfl) (by kernel_rfl) (by kernel_rfl) (fun _ _ _ h => h) (Or.inl ⟨by rfl, ?hy23⟩) (by assumption) ?_
                case' hy23 => (intro w hSw; (try dsimp only at hSw); first | (go_simp; done) | (go_simp; with_reducible rfl))
                (try simp only [Act.put, List.getElem_toArray, List.getElem_cons_succ, List.getElem_cons_zero, List.setIfInBounds_toArray, List.set_cons_zero, List.set_cons_succ])
                refine wpAnyH_take (i := 24) (v := ?v24) rfl (by kernel_rfl) (by kernel_rfl) (by kernel_rfl) (fun _ _ _ h => h) (Or.inl ⟨by rfl, ?hy24⟩) (by assumption) ?_
                case' hy24 => (intro w hSw; (try dsimp only at hSw); first | (go_simp; done) | (go_simp; with_reducible rfl))
                (try simp only [Act.put, List.getElem_toArray, List.getElem_cons_succ, List.getElem_cons_zero, List.setIfInBounds_toArray, List.set_cons_zero, List.set_cons_succ])
                refine wpAnyH_take (i := 25) (v := ?v25) rfl (by kernel_rfl) (by kernel_rfl) (by kernel_rfl) (fun _ _ _ h => h) (Or.inl ⟨by rfl, ?hy25⟩) (by assumption) ?_
                case' hy25 => (intro w hSw; (try dsimp only at hSw); first | (go_simp; done) | (go_simp; with_reducible rfl))
                (try simp only [Act.put, List.getElem_toArray, List.getElem_cons_succ, List.getElem_cons_zero, List.setIfInBounds_toArray, List.set_cons_zero, List.set_cons_succ])
                refine wpAnyH_take (i := 26) (v := ?v26) rfl (by kernel_rfl) (by kernel_rfl) (by kernel_rfl) (fun _ _ _ h => h) (Or.inl ⟨by rfl, ?hy26⟩) (by assumption) ?_
                case' hy26 => (intro w hSw; (try dsimp only at hSw); first | (go_simp; done) | (go_simp; with_reducible rfl))
                (try simp only [Act.put, List.getElem_toArray, List.getElem_cons_succ, List.getElem_cons_zero, List.setIfInBounds_toArray, List.set_cons_zero, List.set_cons_succ])
                refine wpAnyH_ready (rs := [27]) (by kernel_rfl) (by simp) ?_
                refine AllReadyH.cons (o := _) rfl (fun K27 hK27 => ?_) AllReadyH.nil
                go_simp
                (go_at_call_of 17 (Value.int IntKind.i64 a2); refine (HRX.out a2 _ hBB).mono ?_; rintro e wC ⟨xC, cC, rfl, hrC, hbC⟩; have hBC : Below W17.heap.size W17 wC := below_then hBB hbC; have hB9 := hBC)
                refine hK27.out _ _ ?hS27 (fun hHeld27 => ?_)
                case' hS27 => ((try dsimp only); (first | (with_reducible assumption) | exact below_drw _ _ | exact Below.refl _ _ | exact ⟨(by first | exact HCS.out _ hB9 | exact HCS.out _ (below_drw _ _)), (by first | exact HCV.out _ hB9 | exact HCV.out _ (below_drw _ _)), (by first | exact HCY.out _ hB9 | exact HCY.out _ (below_drw _ _)), (by first | exact hB9 | exact below_drw _ _)⟩ | exact ⟨HCS.out _ (below_then hB9 (below_drw _ _)), HCV.out _ (below_then hB9 (below_drw _ _)), HCY.out _ (below_then hB9 (below_drw _ _)), below_then hB9 (below_drw _ _)⟩))
                clear hK27 K27
                (try simp only [Act.put, List.getElem_toArray, List.getElem_cons_succ, List.getElem_cons_zero, List.setIfInBounds_toArray, List.set_cons_zero, List.set_cons_succ])
                refine wpAnyH_ready (rs := [28]) (by kernel_rfl) (by simp) ?_
                refine AllReadyH.cons (o := _) rfl (fun K28 hK28 => ?_) AllReadyH.nil
                go_simp
                (go_at_call_of 22 (Value.slice na6 nn6 nc6); refine (sameRow_any _ _ (rowOf (colsN a0) a2) (rowOf (colsN a0) a2) _ ⟨l6, HK6.out, HP6.out.kept hBC⟩ hrC hlr2 hlr2).mono ?_; rw [sameR_refl]; rintro e wD ⟨rfl, hbD⟩; have hBD : Below W17.heap.size W17 wD := below_then hBC hbD; have hB9 := hBD)
                refine hK28.out _ _ ?hS28 (fun hHeld28 => ?_)
                case' hS28 => ((try dsimp only); (first | (with_reducible assumption) | exact below_drw _ _ | exact Below.refl _ _ | exact ⟨(by first | exact HCS.out _ hB9 | exact HCS.out _ (below_drw _ _)), (by first | exact HCV.out _ hB9 | exact HCV.out _ (below_drw _ _)), (by first | exact HCY.out _ hB9 | exact HCY.out _ (below_drw _ _)), (by first | exact hB9 | exact below_drw _ _)⟩ | exact ⟨HCS.out _ (below_then hB9 (below_drw _ _)), HCV.out _ (below_then hB9 (below_drw _ _)), HCY.out _ (below_then hB9 (below_drw _ _)), below_then hB9 (below_drw _ _)⟩))
                clear hK28 K28
                (try simp only [Act.put, List.getElem_toArray, List.getElem_cons_succ, List.getElem_cons_zero, List.setIfInBounds_toArray, List.set_cons_zero, List.set_cons_succ])
                refine wpAnyH_take (i := 29) (v := ?v29) rfl (by kernel_rfl) (by kernel_rfl) (by kernel_rfl) (fun _ _ _ h => h) (Or.inl ⟨by rfl, ?hy29⟩) (by assumption) ?_
                case' hy29 => (intro w hSw; (try dsimp only at hSw); first | (go_simp; done) | (go_simp; with_reducible rfl))
                (try simp only [Act.put, List.getElem_toArray, List.getElem_cons_succ, List.getElem_cons_zero, List.setIfInBounds_toArray, List.set_cons_zero, List.set_cons_succ])
                refine wpAnyH_take (i := 30) (v := ?v30) rfl (by kernel_rfl) (by kernel_rfl) (by kernel_rfl) (fun _ _ _ h => h) (Or.inl ⟨by rfl, ?hy30⟩) (by assumption) ?_
                case' hy30 => (intro w hSw; (try dsimp only at hSw); first | (go_simp; done) | (go_simp; with_reducible rfl))
                (try simp only [Act.put, List.getElem_toArray, List.getElem_cons_succ, List.getElem_cons_zero, List.setIfInBounds_toArray, List.set_cons_zero, List.set_cons_succ])
                refine wpAnyH_take (i := 31) (v := ?v31) rfl (by kernel_rfl) (by kernel_rfl) (by kernel_rfl) (fun _ _ _ h => h) (Or.inl ⟨by rfl, ?hy31⟩) (by assumption) ?_
                case' hy31 => (intro w hSw; (try dsimp only at hSw); first | (go_simp; done) | (go_simp; with_reducible rfl))
                (try simp only [Act.put, List.getElem_toArray, List.getElem_cons_succ, List.getElem_cons_zero, List.setIfInBounds_toArray, List.set_cons_zero, List.set_cons_succ])
                refine wpAnyH_ready (rs := [32]) (by kernel_rfl) (by simp) ?_
                refine AllReadyH.cons (o := _) rfl (fun K32 hK32 => ?_) AllReadyH.nil
                go_simp
                (go_at_call 21; refine (HIX.out _ hBD).mono ?_; rintro e wE ⟨rfl, hoE, hbE⟩; have hBE : Below W17.heap.size W17 wE := below_then hBD hbE; have hB9 := hBE)
                refine hK32.out _ _ ?hS32 (fun hHeld32 => ?_)
                case' hS32 => ((try dsimp only); (first | (with_reducible assumption) | exact below_drw _ _ | exact Below.refl _ _ | exact ⟨(by first | exact HCS.out _ hB9 | exact HCS.out _ (below_drw _ _)), (by first | exact HCV.out _ hB9 | exact HCV.out _ (below_drw _ _)), (by first | exact HCY.out _ hB9 | exact HCY.out _ (below_drw _ _)), (by first | exact hB9 | exact below_drw _ _)⟩ | exact ⟨HCS.out _ (below_then hB9 (below_drw _ _)), HCV.out _ (below_then hB9 (below_drw _ _)), HCY.out _ (below_then hB9 (below_drw _ _)), below_then hB9 (below_drw _ _)⟩))
                clear hK32 K32
                (try simp only [Act.put, List.getElem_toArray, List.getElem_cons_succ, List.getElem_cons_zero, List.setIfInBounds_toArray, List.set_cons_zero, List.set_cons_succ])
                refine wpAnyH_take (i := 33) (v := ?v33) rfl (by kernel_rfl) (by kernel_rfl) (by kernel_rfl) (fun _ _ _ h => h) (Or.inl ⟨by rfl, ?hy33⟩) (by assumption) ?_
                case' hy33 => (intro w hSw; (try dsimp only at hSw); first | (go_simp; done) | (go_simp; with_reducible rfl))
                (try simp only [Act.put, List.getElem_toArray, List.getElem_cons_succ, List.getElem_cons_zero, List.setIfInBounds_toArray, List.set_cons_zero, List.set_cons_succ])
                refine wpAnyH_take (i := 34) (v := ?v34) rfl (by kernel_rfl) (by kernel_rfl) (by kernel_rfl) (fun _ _ _ h => h) (Or.inl ⟨by rfl, ?hy34⟩) (by assumption) ?_
                case' hy34 => (intro w hSw; (try dsimp only at hSw); first | (go_simp; done) | (go_simp; with_reducible rfl))
                (try simp only [Act.put, List.getElem_toArray, List.getElem_cons_succ, List.getElem_cons_zero, List.setIfInBounds_toArray, List.set_cons_zero, List.set_cons_succ])
                refine wpAnyH_take (i := 35) (v := ?v35) rfl (by kernel_rfl) (by kernel_rfl) (by kernel_rfl) (fun _ _ _ h => h) (Or.inl ⟨by rfl, ?hy35⟩) (by assumption) ?_
                case' hy35 => (intro w hSw; (try dsimp only at hSw); first | (go_simp; done) | (go_simp; with_reducible rfl))
                (try simp only [Act.put, List.getElem_toArray, List.getElem_cons_succ, List.getElem_cons_zero, List.setIfInBounds_toArray, List.set_cons_zero, List.set_cons_succ])
                refine wpAnyH_take (i := 36) (v := ?v36) rfl (by kernel_rfl) (by kernel_rfl) (by kernel_rfl) (fun _ _ _ h => h) (Or.inl ⟨by rfl, ?hy36⟩) (by assumption) ?_
                case' hy36 => (intro w hSw; (try dsimp only at hSw); first | (go_simp; done) | (go_simp; with_reducible rfl))
                (try simp only [Act.put, List.getElem_toArray, List.getElem_cons_succ, List.getElem_cons_zero, List.setIfInBounds_toArray, List.set_cons_zero, List.set_cons_succ])
                refine wpAnyH_take (i := 37) (v := ?v37) rfl (by kernel_rfl) (by kernel_rfl) (by kernel_rfl) (fun _ _ _ h => h) (Or.inl ⟨by rfl, ?hy37⟩) (by assumption) ?_
                case' hy37 => (intro w hSw; (try dsimp only at hSw); first | (go_simp; done) | (go_simp; with_reducible rfl))
                (try simp only [Act.put, List.getElem_toArray, List.getElem_cons_succ, List.getElem_cons_zero, List.setIfInBounds_toArray, List.set_cons_zero, List.set_cons_succ])
                refine wpAnyH_ready (rs := [38]) (by kernel_rfl) (by simp) ?_
                refine AllReadyH.cons (o := _) rfl (fun K38 hK38 => ?_) AllReadyH.nil
                go_simp
                (have hsecond := hBE; go_at_call 21; refine (HIX.out _ hBE).mono ?_; rintro e wF ⟨rfl, hoF, hbF⟩; have hBF : Below W17.heap.size W17 wF := below_then hBE hbF; have hB9 := hBF; have c0F : wF.cell? ⟨wE.heap.size, 0, none⟩ = some (.int .i64 1) := hoF.cellAt 0 (by decide))
                refine hK38.out _ _ ?hS38 (fun hHeld38 => ?_)
                case' hS38 => ((try dsimp only); (first | (with_reducible assumption) | exact below_drw _ _ | exact Below.refl _ _ | exact ⟨(by first | exact HCS.out _ hB9 | exact HCS.out _ (below_drw _ _)), (by first | exact HCV.out _ hB9 | exact HCV.out _ (below_drw _ _)), (by first | exact HCY.out _ hB9 | exact HCY.out _ (below_drw _ _)), (by first | exact hB9 | exact below_drw _ _)⟩ | exact ⟨HCS.out _ (below_then hB9 (below_drw _ _)), HCV.out _ (below_then hB9 (below_drw _ _)), HCY.out _ (below_then hB9 (below_drw _ _)), below_then hB9 (below_drw _ _)⟩))
                clear hK38 K38
                (try simp only [Act.put, List.getElem_toArray, List.getElem_cons_succ, List.getElem_cons_zero, List.setIfInBounds_toArray, List.set_cons_zero, List.set_cons_succ])
                refine wpAnyH_take (i := 39) (v := ?v39) rfl (by kernel_rfl) (by kernel_rfl) (by kernel_rfl) (fun _ _ _ h => h) (Or.inl ⟨by rfl, ?hy39⟩) (by assumption) ?_
                case' hy39 => (intro w hSw; (try dsimp only at hSw); first | (go_simp; done) | (go_simp; with_reducible rfl))
                (try simp only [Act.put, List.getElem_toArray, List.getElem_cons_succ, List.getElem_cons_zero, List.setIfInBounds_toArray, List.set_cons_zero, List.set_cons_succ])
                refine wpAnyH_ready (rs := [40]) (by kernel_rfl) (by simp) ?_
                refine AllReadyH.cons (o := _) rfl (fun K40 hK40 => ?_) AllReadyH.nil
                go_simp
                refine hK40.out _ _ ?hS40 (fun hHeld40 => ?_)
                case' hS40 => ((try dsimp only); (first | (with_reducible assumption) | exact below_drw _ _ | exact Below.refl _ _ | exact ⟨(by first | exact HCS.out _ hB9 | exact HCS.out _ (below_drw _ _)), (by first | exact HCV.out _ hB9 | exact HCV.out _ (below_drw _ _)), (by first | exact HCY.out _ hB9 | exact HCY.out _ (below_drw _ _)), (by first | exact hB9 | exact below_drw _ _)⟩ | exact ⟨HCS.out _ (below_then hB9 (below_drw _ _)), HCV.out _ (below_then hB9 (below_drw _ _)), HCY.out _ (below_then hB9 (below_drw _ _)), below_then hB9 (below_drw _ _)⟩))
                clear hK40 K40
                (try simp only [Act.put, List.getElem_toArray, List.getElem_cons_succ, List.getElem_cons_zero, List.setIfInBounds_toArray, List.set_cons_zero, List.set_cons_succ])
                refine wpAnyH_take (i := 41) (v := ?v41) rfl (by kernel_rfl) (by kernel_rfl) (by kernel_rfl) (fun _ _ _ h => h) (Or.inl ⟨by rfl, ?hy41⟩) (by assumption) ?_
                case' hy41 => (intro w hSw; (try dsimp only at hSw); first | (go_simp; done) | (go_simp; with_reducible rfl))
                (try simp only [Act.put, List.getElem_toArray, List.getElem_cons_succ, List.getElem_cons_zero, List.setIfInBounds_toArray, List.set_cons_zero, List.set_cons_succ])
                refine wpAnyH_take (i := 42) (v := ?v42) rfl (by kernel_rfl) (by kernel_rfl) (by kernel_rfl) (fun _ _ _ h => h) (Or.inl ⟨by rfl, ?hy42⟩) (by assumption) ?_
                case' hy42 => (intro w hSw; (try dsimp only at hSw); first | (go_simp; done) | (go_simp; with_reducible rfl))
                (try simp only [Act.put, List.getElem_toArray, List.getElem_cons_succ, List.getElem_cons_zero, List.setIfInBounds_toArray, List.set_cons_zero, List.set_cons_succ])
                refine wpAnyH_take (i := 43) (v := ?v43) rfl (by kernel_rfl) (by kernel_rfl) (by kernel_rfl) (fun _ _ _ h => h) (Or.inl ⟨by rfl, ?hy43⟩) (by assumption) ?_
                case' hy43 => (intro w hSw; (try dsimp only at hSw); first | (go_simp; done) | (go_simp; with_reducible rfl))
                (try simp only [Act.put, List.getElem_toArray, List.getElem_cons_succ, List.getElem_cons_zero, List.setIfInBounds_toArray, List.set_cons_zero, List.set_cons_succ])
                refine wpAnyH_ready (rs := [44]) (by kernel_rfl) (by simp) ?_
                refine AllReadyH.cons (o := _) rfl (fun K44 hK44 => ?_) AllReadyH.nil
                go_simp
                (go_at_call 23; refine (awake12_any _).mono ?_; rintro e wG ⟨rfl, hbG⟩; have hBG : Below W17.heap.size W17 wG := below_then hBF hbG; have hB9 := hBG)
                refine hK44.out _ _ ?hS44 (fun hHeld44 => ?_)
                case' hS44 => ((try dsimp only); (first | (with_reducible assumption) | exact below_drw _ _ | exact Below.refl _ _ | exact ⟨(by first | exact HCS.out _ hB9 | exact HCS.out _ (below_drw _ _)), (by first | exact HCV.out _ hB9 | exact HCV.out _ (below_drw _ _)), (by first | exact HCY.out _ hB9 | exact HCY.out _ (below_drw _ _)), (by first | exact hB9 | exact below_drw _ _)⟩ | exact ⟨HCS.out _ (below_then hB9 (below_drw _ _)), HCV.out _ (below_then hB9 (below_drw _ _)), HCY.out _ (below_then hB9 (below_drw _ _)), below_then hB9 (below_drw _ _)⟩))
                clear hK44 K44
                (try simp only [Act.put, List.getElem_toArray, List.getElem_cons_succ, List.getElem_cons_zero, List.setIfInBounds_toArray, List.set_cons_zero, List.set_cons_succ])
                refine wpAnyH_take (i := 45) (v := ?v45) rfl (by kernel_rfl) (by kernel_rfl) (by kernel_rfl) (fun _ _ _ h => h) (Or.inl ⟨by rfl, ?hy45⟩) (by assumption) ?_
                case' hy45 => (intro w hSw; (try dsimp only at hSw); first | (go_simp; done) | (go_simp; with_reducible rfl))
                (try simp only [Act.put, List.getElem_toArray, List.getElem_cons_succ, List.getElem_cons_zero, List.setIfInBounds_toArray, List.set_cons_zero, List.set_cons_succ])
                refine wpAnyH_take (i := 46) (v := ?v46) rfl (by kernel_rfl) (by kernel_rfl) (by kernel_rfl) (fun _ _ _ h => h) (Or.inl ⟨by rfl, ?hy46⟩) (by assumption) ?_
                case' hy46 => (intro w hSw; (try dsimp only at hSw); first | (go_simp; done) | (go_simp; with_reducible rfl))
                (try simp only [Act.put, List.getElem_toArray, List.getElem_cons_succ, List.getElem_cons_zero, List.setIfInBounds_toArray, List.set_cons_zero, List.set_cons_succ])
                refine wpAnyH_done (by kernel_rfl) ?_ _
                refine NoPanic.normal ?_
                all_goals
                  go_wp2_with fail
                  go_ret
                  exact ⟨rfl, HFIN.out _ hBG⟩

end Go.Proofs.Yteloepccjoikdaa
