import Derived.Test.YtmpgnjhgegbdkaaGreatZof
import Derived.Test.YtmpgnjhgegbdkaaGreatLseven
set_option linter.unusedVariables false
set_option linter.unusedSimpArgs false
set_option maxRecDepth 100000
set_option maxHeartbeats 8000000
open Go.Lib (hid)
namespace Go.Proofs.YtmpgnjhgegbdkaaGreat
open Go.RowKit
open _root_.Nat renaming le_refl -> Qa
open _root_.List renaming getElem?_eq_getElem -> Qb, map_append -> Qc, take_of_length_le -> Qd
def set9 (xs : List Value) (m : Nat) (v0 v1 v2 v3 v4 v5 v6 v7 v8 : Value) : List Value := (set8 xs m v0 v1 v2 v3 v4 v5 v6 v7).set (m + 8) v8
theorem zPy (xs : List Value) (m : Nat) (h : m + 9 <= xs.length) (v0 v1 v2 v3 v4 v5 v6 v7 v8 : Value) : (set9 xs m v0 v1 v2 v3 v4 v5 v6 v7 v8).take (m + 9) = xs.take m ++ [v0, v1, v2, v3, v4, v5, v6, v7, v8] := by
 unfold set9
 have h8 := zPc xs m (by omega) v0 v1 v2 v3 v4 v5 v6 v7
 have hl : (set8 xs m v0 v1 v2 v3 v4 v5 v6 v7).length = xs.length := zK6 xs m _ _ _ _ _ _ _ _
 rw [List.take_succ_eq_append_getElem (i := m + 8) (by rw [List.length_set, hl]; omega), List.getElem_set_self, List.take_set_of_le (by omega), h8]
 simp
theorem zQ7 (xs : List Value) (m : Nat) (v0 v1 v2 v3 v4 v5 v6 v7 v8 : Value) : (set9 xs m v0 v1 v2 v3 v4 v5 v6 v7 v8).length = xs.length := by simp [set9, zK6]
def OkZA (K : Nat) (w : World) (z : Zv) : Prop := (RdB K w z.lo.2 z.lo.1.b ∧ ∀ x ∈ z.lo.1.b, x < 256) ∧ (RdB K w z.hi.2 z.hi.1.b ∧ ∀ x ∈ z.hi.1.b, x < 256)
theorem OkZA.above {K K0 : Nat} {w w' : World} {z : Zv} (h : OkZA K w z) (ha : Above K w w') (hk : K0 <= K) : OkZA K0 w' z := ⟨⟨h.1.1.above ha hk, h.1.2⟩, ⟨h.2.1.above ha hk, h.2.2⟩⟩
theorem OkZA.ok {K : Nat} {w : World} {z : Zv} (h : OkZA K w z) : OkZ w z := ⟨⟨h.1.1.rd (Above.refl _ _), h.1.2⟩, ⟨h.2.1.rd (Above.refl _ _), h.2.2⟩⟩
def RdZA (K : Nat) (w : World) (v : Value) (zs : List Zv) : Prop := RdSK K w 9 v (zs.map cellsZ) ∧ ∀ z ∈ zs, OkZA K w z
def RdZ (w : World) (v : Value) (ts : List Zt) : Prop := ∃ zs : List Zv, zs.map Zv.t = ts ∧ RdS w 9 v (zs.map cellsZ) ∧ ∀ z ∈ zs, OkZ w z
theorem RdZA.rd {K : Nat} {w : World} {v : Value} {zs : List Zv} (h : RdZA K w v zs) : RdZ w v (zs.map Zv.t) := ⟨zs, rfl, h.1.rd, fun z hz => (h.2 z hz).ok⟩
theorem RdZ.kept {w w' : World} {v : Value} {ts : List Zt} (h : RdZ w v ts) (hb : Below w.heap.size w w') : RdZ w' v ts := by
 obtain ⟨zs, h1, h2, h3⟩ := h
 exact ⟨zs, h1, h2.kept hb, fun z hz => (h3 z hz).kept hb⟩
def zonesT (cols : List Co) (rows : List (List Vc)) : List Zt := cols.mapIdx fun i c => zoneT c.k i rows
theorem zOf (cols : List Co) (hc6 : cols.length <= 1000) (L : List (List (Vc × Value))) (hL : L.length <= 100000) (sv rv : Value) (w : World) (hs : RdC w sv cols) (hr : RdRs w rv L) (hsm : ∀ l ∈ L, l.length <= 1000 ∧ ∀ t ∈ l, t.1.b.length <= 1000000 ∧ ∀ x ∈ t.1.b, x < 256) :
  Calls Tryz.prog 44 #[.agg #[sv], rv] w fun e w' => ∃ v zs, e = .returned v ∧ zs.map Zv.t = zonesT cols (L.map fun l => l.map Prod.fst) ∧ RdZA w.heap.size w' v zs ∧ Below w.heap.size w w' := by
 have HSM := hid (show ∀ l ∈ L, l.length <= 1000 ∧ ∀ t ∈ l, t.1.b.length <= 1000000 from fun l hl => ⟨(hsm l hl).1, fun t ht => ((hsm l hl).2 t ht).1⟩)
 have H256 := hid (show ∀ k c, (∀ x ∈ (zoneV k c L).lo.1.b, x < 256) ∧ ∀ x ∈ (zoneV k c L).hi.1.b, x < 256 from fun k c => by
  have := zJu (Q := fun t => ∀ x ∈ t.1.b, x < 256) (kind := k) (c := c) (by intro x h; cases h) L fun l hl t ht => ((hsm l hl).2 t ht).2
  exact ⟨this.1, this.2.1⟩)
 obtain ⟨sa, sc, rfl⟩ := zBs hs
 obtain ⟨ra, rc, rfl⟩ := zDo hr
 obtain ⟨n, hN⟩ : ∃ n, n = cols.length := ⟨_, rfl⟩
 rw [<- hN] at hs hc6 ⊢
 have HN := hid hN
 have HS := hid hs
 have HR := hid hr
 clear hs hr hN hsm
 obtain ⟨i0, hi, hz0, hz1, hz2⟩ := info_parts zQ5
 have hb0 := zAd w (.cells #[.slice sa n sc] 24)
 have hx0 := heap_alloc_new w (.cells #[.slice sa n sc] 24)
 obtain ⟨W0, hW0⟩ : ∃ W0 : World, W0 = w.alloc (.cells #[.slice sa n sc] 24) := ⟨_, rfl⟩
 rw [<- hW0] at hb0 hx0
 have hs0 : W0.heap.size = w.heap.size + 1 := by rw [hW0]; simp
 have HB0 := hid hb0
 have HX0 := hid hx0
 have HS0 := hid hs0
 have x0 : W0.cell? ⟨w.heap.size, 0, none⟩ = some (.slice sa n sc) := by rw [cell_of_row W0 _ 0 _ _ _ hx0]; rfl
 go_enter Tryz.func44, Tryz.ntmps44
 go_upto_region 1 with (fail)
 rw [<- hW0]
 clear hW0 hb0 hx0 hs0
 go_wp2_with (at_make; go_must (refine wpList_make_full _ rfl _ _ 37 rfl W0.heap.size 103 i0 _ 9 Tryz.underlying37 hi hz0 hz1 .i64 .i64 _ _ n rfl rfl rfl rfl (by rw [hz2]; omega) (by unfold maxLen; omega) (Qa _) ?_); intro w1 hown1 hgrow1; have x1 : w1.cell? ⟨w.heap.size, 0, none⟩ = some (.slice sa n sc) := (World.cell?_of_block (hgrow1.block w.heap.size (by have := HS0.out; show _ < _; omega) (by simp))).trans x0)
 have HO1 := hid hown1
 have HG1 := hid hgrow1
 obtain ⟨xs0, hxs0⟩ : ∃ xs0, xs0 = (madeCells (Value.agg #[.int .i64 0, .bool false, .int .i64 0, .int .i64 0, .slice none 0 0, .bool false, .int .i64 0, .int .i64 0, .slice none 0 0]).cells (n * 9)).toList := ⟨_, rfl⟩
 rw [<- hxs0] at HO1
 have HSZ1 := hid hgrow1.size
 have HB1 := hid (show Below w.heap.size w w1 from zAa HB0.out ⟨hgrow1.os, hgrow1.tape, hgrow1.output, hgrow1.size, fun i hi => hgrow1.block i hi (by simp)⟩)
 have HXW := hid ((hgrow1.block w.heap.size (by have := HS0.out; omega) (by simp)).trans HX0.out)
 clear hown1 hgrow1 hxs0 hi hz0 hz1 hz2 x0 x1
 obtain ⟨G, hG⟩ : ∃ G, G = W0.heap.size := ⟨_, rfl⟩
 have HGG := hid (show G = w.heap.size + 1 by rw [hG]; exact HS0.out)
 rw [<- hG] at HO1 ⊢
 have hGi := zI4 HO1.out
 have HGI := hid hGi
 have HX1 := hid (show w1.heap[w.heap.size]? = some (.cells #[.slice sa n sc] 24 (0, 0)) from HXW.out)
 clear hG hGi
 have x1 : w1.cell? ⟨w.heap.size, 0, none⟩ = some (.slice sa n sc) := by rw [cell_of_row w1 _ 0 _ _ _ HX1.out]; rfl
 go_wp2_with fail
 go_loopw [15] (fun i wr => ∃ (q : Nat) (zs : List Zv) (xs : List Value), q <= n ∧ i = .int .i64 (q : Int) ∧ zs.length = q ∧ zs.map Zv.t = (zonesT cols (L.map fun l => l.map Prod.fst)).take q ∧ xs.length = n * 9 ∧ xs.take (q * 9) = (zs.map cellsZ).flatten ∧ wr.ownsRow G 103 9 (.slice (some ⟨G, 0, none⟩) n n) n xs ∧ (∀ z ∈ zs, OkZA (G + 1) wr z) ∧ G < wr.heap.size ∧ Below w.heap.size w wr) (fun i _ => n - (intOf i).toNat)
 case atStart => exact ⟨0, [], xs0, Nat.zero_le _, rfl, rfl, by simp, HO1.out.1, by simp, HO1.out, (fun z hz => by cases hz), HGI.out, HB1.out⟩
 case round =>
  obtain ⟨q, zs, xs, hq, rfl, hzl, hzt, hxl, hxt, hown, hok, hgs, hb⟩ := hrel
  have HZL := hid hzl
  have HZT := hid hzt
  have HXL := hid hxl
  have HXT := hid hxt
  have HO := hid hown
  have HOK := hid hok
  have HGS := hid hgs
  have HB := hid hb
  clear hzl hzt hxl hxt hown hok hgs hb
  by_cases hlt : q < n
  ·obtain ⟨co, hco⟩ : ∃ co, cols[q]? = some co := ⟨_, Qb (by rw [<- HN.out]; exact hlt)⟩
   have HCO := hid hco
   obtain ⟨b, off, rfl, p0, p1, p2⟩ := (RdC.kept HS.out HB.out).at hco
   have HCALL := hid fun o => zPx co.k q (by omega) L hL (.slice ra L.length rc) (wr.alloc o) (HR.out.kept (zAl HB.out o)) HSM.out
   obtain ⟨z, hz⟩ : ∃ z, z = zoneV co.k q L := ⟨_, rfl⟩
   have HZ := hid hz
   have H2 := hid (hz ▸ H256.out co.k q)
   rw [<- hz] at HCALL
   clear hco hz
   obtain ⟨cn, ck, cu⟩ := co
   simp only at p0 p1 p2 HCALL
   go_wp2_with fail
   refine (HCALL.out _).mono ?_
   rintro e w2 ⟨s1, s2, rfl, hr1, hr2, hb2⟩
   obtain ⟨xa, xc, rfl⟩ := zDb hr1
   obtain ⟨ya, yc, rfl⟩ := zDb hr2
   have HR1 := hid hr1
   have HR2 := hid hr2
   obtain ⟨zn, ⟨⟨lu, lk, ln, lb⟩, ls⟩, ⟨⟨hu, hk, hn, hb⟩, hs⟩⟩ := z
   have HBW := hid (zAa (zAd wr _) hb2)
   have HO2 := hid (show w2.ownsRow G 103 9 (.slice (some ⟨G, 0, none⟩) n n) n xs from zAe (X := fun _ => False) HO.out ⟨HBW.out.os, HBW.out.tape, HBW.out.output, HBW.out.size, fun i hi _ => HBW.out.block i hi⟩ (fun _ _ h => h))
   have HB2 := hid (zAa HB.out HBW.out)
   have hx : ∀ j, j < 9 -> ∃ u, w2.cell? ⟨G, q * 9 + j, none⟩ = some u := fun j hj => by
    have hlt2 : q * 9 + j < xs.length := by rw [HXL.out]; omega
    exact ⟨_, (HO2.out.cellAt (q * 9 + j) (by omega)).trans (Qb hlt2)⟩
   obtain ⟨u0, c0⟩ := hx 0 (by decide)
   obtain ⟨u1, c1⟩ := hx 1 (by decide)
   obtain ⟨u2, c2⟩ := hx 2 (by decide)
   obtain ⟨u3, c3⟩ := hx 3 (by decide)
   obtain ⟨u4, c4⟩ := hx 4 (by decide)
   obtain ⟨u5, c5⟩ := hx 5 (by decide)
   obtain ⟨u6, c6⟩ := hx 6 (by decide)
   obtain ⟨u7, c7⟩ := hx 7 (by decide)
   obtain ⟨u8, c8⟩ := hx 8 (by decide)
   have f0 := HO2.out.frozenAt (q * 9 + 0)
   have f1 := HO2.out.frozenAt (q * 9 + 1)
   have f2 := HO2.out.frozenAt (q * 9 + 2)
   have f3 := HO2.out.frozenAt (q * 9 + 3)
   have f4 := HO2.out.frozenAt (q * 9 + 4)
   have f5 := HO2.out.frozenAt (q * 9 + 5)
   have f6 := HO2.out.frozenAt (q * 9 + 6)
   have f7 := HO2.out.frozenAt (q * 9 + 7)
   have f8 := HO2.out.frozenAt (q * 9 + 8)
   simp only [Nat.add_zero] at c0 f0
   clear hx p0 p1 p2 hb2 hr1 hr2
   unfold cellsZ cellsV
   simp only [List.cons_append, List.nil_append]
   go_wp2_with fail
   go_roundw
   case rel =>
    have hset : ∀ K i u (wx : World), G < K -> Above K w2 wx -> Above K w2 (wx.setCell ⟨G, i, none⟩ u) := fun K i u wx hK h => zCn h _ _ hK
    have hab := fun K (hK : G < K) => hset K (q * 9 + 8) (.slice ya hb.length yc) _ hK (hset K (q * 9 + 7) (.int .i64 hn) _ hK (hset K (q * 9 + 6) (.int .i64 hk) _ hK (hset K (q * 9 + 5) (.bool hu) _ hK (hset K (q * 9 + 4) (.slice xa lb.length xc) _ hK (hset K (q * 9 + 3) (.int .i64 ln) _ hK (hset K (q * 9 + 2) (.int .i64 lk) _ hK (hset K (q * 9 + 1) (.bool lu) _ hK (hset K (q * 9) (.int .i64 zn) _ hK (Above.refl _ _)))))))))
    have hst := (((((((((HO2.out.stored (q * 9) (.int .i64 zn)).1.stored (q * 9 + 1) (.bool lu)).1.stored (q * 9 + 2) (.int .i64 lk)).1.stored (q * 9 + 3) (.int .i64 ln)).1.stored (q * 9 + 4) (.slice xa lb.length xc)).1.stored (q * 9 + 5) (.bool hu)).1.stored (q * 9 + 6) (.int .i64 hk)).1.stored (q * 9 + 7) (.int .i64 hn)).1.stored (q * 9 + 8) (.slice ya hb.length yc)).1
    have hgw := HGS.out
    have hwr2 := HBW.out.size
    have hgs : ∀ i u (wx : World), Below w.heap.size w wx -> Below w.heap.size w (wx.setCell ⟨G, i, none⟩ u) := fun i u wx h => h.setCell (p := ⟨G, i, none⟩) (by show _ <= G; have := HGG.out; omega) _
    refine ⟨q + 1, zs ++ [⟨zn, (⟨lu, lk, ln, lb⟩, .slice xa lb.length xc), (⟨hu, hk, hn, hb⟩, .slice ya hb.length yc)⟩], _, by omega, by go_num, by rw [List.length_append, HZL.out]; rfl, ?_, (zQ7 xs (q * 9) _ _ _ _ _ _ _ _ _).trans HXL.out, ?_, hst, ?_, ?_, ?_⟩
    ·rw [Qc, HZT.out]
     unfold zonesT
     rw [List.take_add_one, List.getElem?_mapIdx, HCO.out]
     have := zSk ck q L
     rw [<- HZ.out] at this
     simp only [Option.map_some, Option.toList_some, List.map_cons, List.map_nil]
     rw [<- this]
     rfl
    ·rw [Qc, List.flatten_append, <- HXT.out, show (q + 1) * 9 = q * 9 + 9 by omega]
     exact zPy xs (q * 9) (by rw [HXL.out]; omega) _ _ _ _ _ _ _ _ _
    ·intro z hz
     rcases List.mem_append.1 hz with h | h
     ·exact (HOK.out z h).above ((zFm HBW.out).trans hwr2 (hab _ (by omega))) (Qa _)
     ·rw [List.mem_singleton.1 h]
      have hsz : ∀ o, (wr.alloc o).heap.size = wr.heap.size + 1 := fun o => by simp
      have h1 := HR1.out
      have h2 := HR2.out
      rw [hsz] at h1 h2
      exact ⟨⟨h1.above (hab _ (by omega)) (by omega), H2.out.1⟩, ⟨h2.above (hab _ (by omega)) (by omega), H2.out.2⟩⟩
    ·simp [World.setCell]; omega
    ·exact hgs _ _ _ (hgs _ _ _ (hgs _ _ _ (hgs _ _ _ (hgs _ _ _ (hgs _ _ _ (hgs _ _ _ (hgs _ _ _ (hgs _ _ _ (HB2.out)))))))))
   case measure => simp [intOf]; omega
  ·have hqn : q = n := by omega
   have hgg := HGG.out
   have HF := hid (show zs.map Zv.t = zonesT cols (L.map fun l => l.map Prod.fst) ∧ RdZA w.heap.size wr (.slice (some ⟨G, 0, none⟩) n n) zs ∧ Below w.heap.size w wr from by
    refine ⟨?_, ⟨?_, fun z hz => (HOK.out z hz).above (Above.refl _ _) (by omega)⟩, HB.out⟩
    ·rw [HZT.out, Qd]
     unfold zonesT
     rw [List.length_mapIdx, <- HN.out]
     omega
    ·have h2 := HXT.out
     rw [hqn, Qd (by rw [HXL.out]; exact Qa _)] at h2
     have h3 := HO.out
     rw [h2] at h3
     have h4 := zH4 h3 (by rw [List.length_map, HZL.out, hqn]) (fun t ht => by obtain ⟨z, _, rfl⟩ := List.mem_map.1 ht; rfl)
     exact h4.above (Above.refl _ _) (by omega))
   clear hqn hgg
   go_wp2_with fail
   go_ret
   exact ⟨_, zs, rfl, HF.out⟩
end Go.Proofs.YtmpgnjhgegbdkaaGreat
