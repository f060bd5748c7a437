import Derived.Test.YtmpgnjhgegbdkaaGreatSgi
set_option linter.unusedVariables false
set_option linter.unusedSimpArgs false
set_option maxRecDepth 100000
set_option maxHeartbeats 8000000
open Go.Lib (hid)
namespace Go.Proofs.YtmpgnjhgegbdkaaGreat
open Go.RowKit
open _root_.List renaming getElem?_eq_getElem -> Qa, mem_of_getElem? -> Qc, map_append -> Qe, getElem?_eq_none -> Qf, take_of_length_le -> Qh
open _root_.Nat renaming le_refl -> Qb
open _root_.Int renaming toNat_natCast -> Qd
open Go.World renaming setCell -> Qg
structure OwnW (B : Nat) (w : World) (v : Value) (l : List (Vc × Value)) : Prop where
 row : w.ownsRow B 31 4 v l.length (l.map cellsV).flatten
 els : ∀ t ∈ l, OwnB B w t.2 t.1.b ∧ ∀ x ∈ t.1.b, x < 256
 apart : Bc.Apart (v :: l.map Prod.snd)
theorem zSo {cols : List Co} {rows : List (List Vc)} (hrc : RowsC cols rows) {q j : Nat} {r : List Vc} (hq : q < cols.length) (hr : rows[j]? = some r) : ∃ v, r[q]? = some v ∧ segV cols rows (q : Int) (j : Int) = some v := by
 have hl := hrc.len r (Qc hr)
 refine ⟨r[q]'(by omega), Qa _, ?_⟩
 unfold segV valAt
 rw [if_pos ⟨by omega, by omega⟩, if_pos (by omega), Qd, Qd]
 unfold colVs
 rw [List.getElem?_map, hr, Option.map_some, List.getD_eq_getElem?_getD, Qa (by omega)]
 rfl
theorem zP7 {cols : List Co} {rows : List (List Vc)} {c i : Int} (h : ¬ (0 <= i ∧ i < (rows.length : Int))) : segV cols rows c i = none := by
 unfold segV
 split
 ·unfold valAt
  split
  ·rw [Qf]
   rw [zD8]
   omega
  ·rfl
 ·rfl
def rowAt (rows : List (List Vc)) (i : Int) : Option (List Vc) := if 0 <= i then rows[i.toNat]? else none
def RetRw (B : Nat) (o : Option (List Vc)) (e : Ending) (w' : World) : Prop := match o with
 | some r => ∃ v l, e = .returned (.tuple #[v, .bool true]) ∧ l.map Prod.fst = r ∧ OwnW B w' v l
 | none => e = .returned (.tuple #[.slice none 0 0, .bool false])
theorem zRo {K0 g : Nat} {cols : List Co} {rows : List (List Vc)} (hrc : RowsC cols rows) (hne : 0 < cols.length) (hm6 : cols.length <= 6) (i : Int) (w : World) (h : SegAt K0 w g cols rows) :
  Calls Tryz.prog 22 #[.pointer (some ⟨g, 0, none⟩), .int .i64 i] w fun e w' => RetRw w.heap.size (rowAt rows i) e w' ∧ Below w.heap.size w w' := by
 have HVAL := hid fun (c : Nat) w' (hb : Below w.heap.size w w') => zOm hrc hne hm6 (c : Int) i w' (h.kept hb)
 have HRC := hid hrc
 obtain ⟨kb, ko, kc, tb, tf, tc, zv, us, hx, htc, hcol⟩ := h.open hne
 obtain ⟨m, hm⟩ : ∃ m, m = cols.length := ⟨_, rfl⟩
 rw [<- hm] at hx hne hm6
 have HM := hid hm
 have HX := hid hx
 have c3 : w.cell? ⟨g, 3, none⟩ = some (.slice (some ⟨tb, tf, none⟩) m tc) := by rw [cell_of_row w g 3 _ _ _ hx]; rfl
 obtain ⟨i0, hi, hz0, hz1, hz2⟩ := info_parts zM2
 have HCASE := hid (show (∃ (j : Nat) (r : List Vc), i = (j : Int) ∧ rows[j]? = some r ∧ rowAt rows i = some r) ∨ (rowAt rows i = none ∧ ∀ c, segV cols rows c i = none) from by
  by_cases hin : 0 <= i ∧ i < (rows.length : Int)
  ·obtain ⟨j, rfl⟩ : ∃ j : Nat, i = (j : Int) := ⟨i.toNat, by omega⟩
   have hr : rows[j]? = some (rows[j]'(by omega)) := Qa _
   exact .inl ⟨j, _, rfl, hr, by unfold rowAt; rw [if_pos hin.1, Qd]; exact hr⟩
  ·refine .inr ⟨?_, fun c => zP7 hin⟩
   unfold rowAt
   split
   ·rw [Qf]
    omega
   ·rfl)
 clear hx htc hcol hm h hrc
 go_enter Tryz.func22, Tryz.ntmps22
 go_upto_region 2 with (at_make; go_must (refine wpList_make_full _ rfl _ _ 27 rfl w.heap.size 31 i0 _ 4 Tryz.underlying27 hi hz0 hz1 .i64 .i64 _ _ m rfl rfl rfl rfl (by rw [hz2]; omega) (by unfold maxLen; omega) (Qb _) ?_); intro w1 hown1 hgrow1)
 obtain ⟨xs0, hown1b⟩ : ∃ xs0, w1.ownsRow w.heap.size 31 4 (.slice (some ⟨w.heap.size, 0, none⟩) m m) m xs0 := ⟨_, hown1⟩
 have HO1 := hid hown1b
 have HB1 := hid (show Below w.heap.size w w1 from ⟨hgrow1.os, hgrow1.tape, hgrow1.output, hgrow1.size, fun i hi => hgrow1.block i hi (by simp)⟩)
 obtain ⟨G, hG⟩ : ∃ G, G = w.heap.size := ⟨_, rfl⟩
 have HGG := hid hG
 rw [<- hG] at HO1 ⊢
 clear hown1 hown1b hgrow1 hG hi hz0 hz1 hz2 c3
 go_wp2_with fail
 go_loopw [18] (fun iv wr => ∃ (q : Nat) (lv : List (Vc × Value)) (xs : List Value), q <= m ∧ iv = .int .i64 (q : Int) ∧ lv.length = q ∧ (∀ r, rowAt rows i = some r -> lv.map Prod.fst = r.take q) ∧ (rowAt rows i = none -> q = 0) ∧ xs.length = m * 4 ∧ xs.take (q * 4) = (lv.map cellsV).flatten ∧
  wr.ownsRow G 31 4 (.slice (some ⟨G, 0, none⟩) m m) m xs ∧ (∀ t ∈ lv, OwnB (G + 1) wr t.2 t.1.b ∧ ∀ x ∈ t.1.b, x < 256) ∧ Bc.Apart ((Value.slice (some ⟨G, 0, none⟩) m m) :: lv.map Prod.snd) ∧ G < wr.heap.size ∧ Below w.heap.size w wr) (fun iv _ => m - (intOf iv).toNat)
 case atStart => exact ⟨0, [], xs0, Nat.zero_le _, rfl, rfl, fun r _ => rfl, fun _ => rfl, by simpa using HO1.out.1, by simp, HO1.out, fun t ht => (by cases ht), fun a b x y g ha hb _ _ => by
  have : ∀ (k : Nat) (c : Value), [Value.slice (some ⟨G, 0, none⟩) m m][k]? = some c -> k = 0 := fun k c h => by
   cases k with
   | zero => rfl
   | succ k => simp at h
  rw [this a x ha, this b y hb], (HO1.out.lt G rfl).2, HB1.out⟩
 case round =>
  obtain ⟨q, lv, xs, hq, rfl, hlv, hlf, hno, hxl, hxt, hown, hels, hap, hgs, hb⟩ := hrel
  have HLV := hid hlv
  have HLF := hid hlf
  have HXL := hid hxl
  have HXT := hid hxt
  have HO := hid hown
  have HE := hid hels
  have HA := hid hap
  have HGS := hid hgs
  have HB := hid hb
  have HNO := hid hno
  clear hlv hlf hno hxl hxt hown hels hap hgs hb
  by_cases hlt : q < m
  ·have HC := hid (HVAL.out q wr HB.out)
   rcases HCASE.out with ⟨j, r, hij, hrj, hra⟩ | ⟨hra, hsn⟩
   ·obtain ⟨v, hv, hsv⟩ := zSo HRC.out (show q < cols.length by rw [<- HM.out]; exact hlt) hrj
    rw [hij, hsv] at HC
    have HRA := hid hra
    have HV := hid hv
    have HIJ := hid hij
    have hcv := (HRC.out.at_ r (Qc hrj) q (cols[q]'(by rw [<- HM.out]; exact hlt)) v (Qa _) hv).1
    have H8 := hid hcv.fit.1
    clear hij hrj hra hv hsv hcv
    rw [<- HIJ.out] at HC
    go_wp2_with fail
    refine HC.out.mono ?_
    rintro e w4 ⟨hret, hb4⟩
    obtain ⟨va, vc, rfl, ho4⟩ := hret.shape
    have HO4 := hid ho4
    have HB4 := hid hb4
    have HOW4 := hid (show w4.ownsRow G 31 4 (.slice (some ⟨G, 0, none⟩) m m) m xs from zAe (X := fun _ => False) HO.out ⟨hb4.os, hb4.tape, hb4.output, hb4.size, fun i hi _ => hb4.block i hi⟩ (fun _ _ h => h))
    obtain ⟨vu, vk, vn, vb⟩ := v
    simp only at HO4
    have hxx : ∀ j, j < 4 -> ∃ u, w4.cell? ⟨G, q * 4 + j, none⟩ = some u := fun j hj => by
     have hlt2 : q * 4 + j < xs.length := by rw [HXL.out]; omega
     exact ⟨_, (HOW4.out.cellAt (q * 4 + j) (by omega)).trans (Qa hlt2)⟩
    obtain ⟨u0, c0⟩ := hxx 0 (by decide)
    obtain ⟨u1, c1⟩ := hxx 1 (by decide)
    obtain ⟨u2, c2⟩ := hxx 2 (by decide)
    obtain ⟨u3, c3⟩ := hxx 3 (by decide)
    have f0 := HOW4.out.frozenAt (q * 4 + 0)
    have f1 := HOW4.out.frozenAt (q * 4 + 1)
    have f2 := HOW4.out.frozenAt (q * 4 + 2)
    have f3 := HOW4.out.frozenAt (q * 4 + 3)
    simp only [Nat.add_zero] at c0 f0
    have HXTN := hid (show (vset4 xs (q * 4) (.bool vu) (.int .i64 vk) (.int .i64 vn) (.slice va vb.length vc)).take ((q + 1) * 4) = ((lv ++ [((⟨vu, vk, vn, vb⟩ : Vc), Value.slice va vb.length vc)]).map cellsV).flatten from by
     rw [show (q + 1) * 4 = q * 4 + 4 by omega, zOj xs (q * 4) (by rw [HXL.out]; omega), HXT.out, Qe, List.flatten_append]
     simp [cellsV])
    have HST := hid (zP5 (q := q) HOW4.out (.bool vu) (.int .i64 vk) (.int .i64 vn) (.slice va vb.length vc))
    have HBS := hid (zBk (i := q * 4) (j := q * 4 + 1) (k := q * 4 + 2) (l := q * 4 + 3) (zAa HB.out hb4) (show w.heap.size <= G by rw [HGG.out]; exact Qb _) (.bool vu) (.int .i64 vk) (.int .i64 vn) (.slice va vb.length vc))
    have hgw4 : G < w4.heap.size := Nat.lt_of_lt_of_le HGS.out hb4.size
    clear hxx hret ho4 hb4
    go_wp2_with fail
    go_roundw
    case rel =>
     have hgs := HGS.out
     have hag : ∀ o, Agree (fun b => b = G) w4 (((((w4.setCell ⟨G, q * 4, none⟩ (.bool vu)).setCell ⟨G, q * 4 + 1, none⟩ (.int .i64 vk)).setCell ⟨G, q * 4 + 2, none⟩ (.int .i64 vn)).setCell ⟨G, q * 4 + 3, none⟩ (.slice va vb.length vc)).alloc o) := fun o =>
      (((((Agree.refl (fun b => b = G) w4).set ⟨G, q * 4, none⟩ _ (.inl rfl)).set ⟨G, q * 4 + 1, none⟩ _ (.inl rfl)).set ⟨G, q * 4 + 2, none⟩ _ (.inl rfl)).set ⟨G, q * 4 + 3, none⟩ _ (.inl rfl)).alloc o
     refine ⟨q + 1, lv ++ [(⟨vu, vk, vn, vb⟩, .slice va vb.length vc)], _, by omega, by go_num, by rw [List.length_append, HLV.out]; rfl, fun r' hr' => ?_, fun h => (by rw [HRA.out] at h; cases h), (zP4 ..).trans HXL.out, HXTN.out, HST.out.alloc _, fun t ht => ?_, ?_, ?_, ?_⟩
     ·rw [HRA.out] at hr'
      cases hr'
      rw [Qe, HLF.out r HRA.out, List.take_add_one, HV.out]
      rfl
     ·rcases List.mem_append.1 ht with h | h
      ·have h1 := HE.out t h
       exact ⟨zAe (zAe (X := fun _ => False) h1.1 ⟨HB4.out.os, HB4.out.tape, HB4.out.output, HB4.out.size, fun i hi _ => HB4.out.block i hi⟩ (fun _ _ h => h)) (hag _) (fun b hb e => by have := zAg h1.1 b hb; omega), h1.2⟩
      ·rw [List.mem_singleton.1 h]
       exact ⟨Joins.ownsRow_le (zAe HO4.out (hag _) (fun b hb e => by have := zAg HO4.out b hb; omega)) hgs, H8.out⟩
     ·rw [Qe]
      have h1 := HA.out.snoc (u := Value.slice va vb.length vc) fun g hg a ha => by
       have h2 := zAg HO4.out g hg
       intro e
       rcases List.mem_cons.1 ha with rfl | ha
       ·have := (HO.out.lt g e).2; omega
       ·obtain ⟨t, ht, rfl⟩ := List.mem_map.1 ha
        have := ((HE.out t ht).1.lt g e).2
        omega
      exact h1
     ·have := (hag (.cells #[] 0)).size; have := HB4.out.size; simp [Qg]; omega
     ·exact HBS.out.alloc (by have := HB.out.size; have := HB4.out.size; simp [Qg]; omega) _
    case measure => simp [intOf]; omega
   ·rw [hsn] at HC
    have HRA := hid hra
    clear hra hsn
    go_wp2_with fail
    refine HC.out.mono ?_
    rintro e w4 ⟨hret, hb4⟩
    have HB4 := hid (zAa HB.out hb4)
    have hret2 : e = .returned (.tuple #[.agg #[.bool false, .int .i64 0, .int .i64 0, .slice none 0 0], .bool false]) := hret
    subst hret2
    clear hret hb4
    go_wp2_with fail
    go_ret2
    exact ⟨by rw [HRA.out]; rfl, zAl HB4.out _⟩
  ·have hqm : q = m := by omega
   have HF := hid (show RetRw w.heap.size (rowAt rows i) (.returned (.tuple #[.slice (some ⟨G, 0, none⟩) m m, .bool true])) wr from by
    rcases HCASE.out with ⟨j, r, hij, hrj, hra⟩ | ⟨hra, hsn⟩
    ·rw [hra]
     have h := HXT.out
     rw [hqm, Qh (by rw [HXL.out]; exact Qb _)] at h
     have h2 := HO.out
     rw [h] at h2
     have h3 := HLV.out
     rw [hqm] at h3
     refine ⟨_, lv, rfl, ?_, ⟨?_, fun t ht => ⟨?_, (HE.out t ht).2⟩, HA.out⟩⟩
     ·rw [HLF.out r hra, hqm, Qh (by rw [HRC.out.len r (Qc hrj), <- HM.out]; exact Qb _)]
     ·rw [h3]
      exact Joins.ownsRow_le h2 (by rw [HGG.out]; exact Qb _)
     ·exact Joins.ownsRow_le (HE.out t ht).1 (by rw [HGG.out]; omega)
    ·have := HNO.out hra
     omega)
   clear hqm
   go_wp2_with fail
   go_ret2
   exact ⟨HF.out, HB.out⟩
end Go.Proofs.YtmpgnjhgegbdkaaGreat
