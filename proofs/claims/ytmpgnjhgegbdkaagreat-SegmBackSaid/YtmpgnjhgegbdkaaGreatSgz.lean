import Derived.Test.YtmpgnjhgegbdkaaGreatSgt
import Derived.Test.YtmpgnjhgegbdkaaGreatRefk
set_option linter.unusedVariables false
set_option linter.unusedSimpArgs false
set_option maxRecDepth 100000
set_option maxHeartbeats 8000000
open Go.Lib (hid)
namespace Go.Proofs.YtmpgnjhgegbdkaaGreat
open Go.RowKit
open _root_.Array renaming getElem?_eq_some_iff -> Qa
open _root_.List renaming getElem?_eq_getElem -> Qb, mem_of_getElem? -> Qd, mem_of_mem_take -> Qe, cons_append -> Qg, nil_append -> Qh, mem_singleton -> Qi, map_append -> Qj
open Go.RowKit.Below renaming refl -> Qc
open _root_.Nat renaming zero_le -> Qf
open Go renaming cell_of_row -> Qk, heap_alloc_new -> Ql
theorem zWb : Elm Tryz.prog 37 103 9 104 := zG6 Tryz.underlying37 zN5 rfl (by decide) (by decide)
theorem zMt {x v : Vc} (h1 : x.k = v.k) (h2 : x.k = 1 ∨ x.k = 2) : refC x v = cmpT x v := by
 unfold refC cmpT
 rcases h2 with h | h
 ·rw [<- h1, h]; simp
 ·rw [<- h1, h]; simp
theorem zP0 {kind : Int} {c : Nat} : ∀ (L : List (List (Vc × Value))) (z : Zv), z.lo.1.k = kind -> z.hi.1.k = kind -> (∀ l ∈ L, ∀ t, l[c]? = some t -> t.1.k = kind) -> (L.foldl (stepV c) z).lo.1.k = kind ∧ (L.foldl (stepV c) z).hi.1.k = kind
 | [], z, h1, h2, _ => ⟨h1, h2⟩
 | l :: r, z, h1, h2, h => by
  rw [List.foldl_cons]
  have hx : (stepV c z l).lo.1.k = kind ∧ (stepV c z l).hi.1.k = kind := by
   unfold stepV
   cases hl : l[c]? with
   | none => exact ⟨h1, h2⟩
   | some t =>
    have hk := h l List.mem_cons_self t hl
    simp only
    unfold widen
    split
    ·exact ⟨h1, h2⟩
    ·refine ⟨?_, ?_⟩
     ·show (loW z.lo t).1.k = kind
      unfold loW
      split
      ·exact hk
      ·exact h1
     ·show (hiW z.hi t).1.k = kind
      unfold hiW
      split
      ·exact hk
      ·exact h2
  exact zP0 r _ hx.1 hx.2 fun l hl => h l (List.mem_cons_of_mem _ hl)
theorem zFw {w : World} {X : Nat} {a b c d : Value} {T : TypeId} (h : w.heap[X]? = some (.cells #[a, b, c, d] T (0, 0))) : w.cell? ⟨X, 0, none⟩ = some a ∧ w.cell? ⟨X, 1, none⟩ = some b ∧ w.cell? ⟨X, 2, none⟩ = some c ∧ w.cell? ⟨X, 3, none⟩ = some d := by
 have k := fun j => Qk w X j _ _ _ h
 exact ⟨k 0, k 1, k 2, k 3⟩
theorem zEt {w : World} {X : Nat} {a0 a1 a2 a3 a4 a5 a6 a7 a8 : Value} {T : TypeId} (h : w.heap[X]? = some (.cells #[a0, a1, a2, a3, a4, a5, a6, a7, a8] T (0, 0))) : w.cell? ⟨X, 0, none⟩ = some a0 ∧ w.cell? ⟨X, 1, none⟩ = some a1 ∧ w.cell? ⟨X, 2, none⟩ = some a2 ∧ w.cell? ⟨X, 3, none⟩ = some a3 ∧ w.cell? ⟨X, 4, none⟩ = some a4 ∧ w.cell? ⟨X, 5, none⟩ = some a5 ∧ w.cell? ⟨X, 6, none⟩ = some a6 ∧ w.cell? ⟨X, 7, none⟩ = some a7 ∧ w.cell? ⟨X, 8, none⟩ = some a8 ∧ ∀ i, w.frozen? ⟨X, i, none⟩ = false := by
 have k := fun j => Qk w X j _ _ _ h
 exact ⟨k 0, k 1, k 2, k 3, k 4, k 5, k 6, k 7, k 8, fun i => frozen_of_row w X i _ _ h⟩
theorem zRf (cols : List Co) (hc6 : cols.length <= 1000) (L : List (List (Vc × Value))) (hL : L.length <= 100000) (sv rv : Value) (w : World) (hs : RdC w sv cols) (hr : RdRs w rv L) (hsm : ∀ l ∈ L, l.length = cols.length ∧ ∀ t ∈ l, t.1.b.length <= 1000000 ∧ ∀ x ∈ t.1.b, x < 256)
  (hkk : ∀ l ∈ L, ∀ (c : Nat) (t : Vc × Value) (co : Co), l[c]? = some t -> cols[c]? = some co -> t.1.k = co.k ∧ (co.k = 1 ∨ co.k = 2)) :
  Calls Tryz.prog 21 #[.agg #[sv], rv] w fun e w' => ∃ v, e = .returned v ∧ RdZ w' v (zonesT cols (L.map fun l => l.map Prod.fst)) ∧ Below w.heap.size w w' := by
 have HSM := hid hsm
 have HKK := hid hkk
 obtain ⟨sa, sc, rfl⟩ := zBr hs
 obtain ⟨ra, rc, rfl⟩ := zCr hr
 obtain ⟨n, hN⟩ : ∃ n, n = cols.length := ⟨_, rfl⟩
 obtain ⟨m, hM⟩ : ∃ m, m = L.length := ⟨_, rfl⟩
 rw [<- hN] at hs hc6 ⊢
 rw [<- hM] at hr hL ⊢
 have HN := hid hN
 have HM := hid hM
 have HS := hid hs
 have HR := hid hr
 have HALL := hid (show ∀ l ∈ L, ∀ t ∈ l, OkV w t ∧ t.1.b.length <= 1000000 from fun l hl t ht => by
  obtain ⟨i, hi, rfl⟩ := List.mem_iff_getElem.1 hl
  obtain ⟨sls, h1, h2, h3⟩ := hr
  exact ⟨(h3 i _ _ (Qb (by rw [h2]; exact hi)) (Qb hi)).2 t ht, ((hsm _ hl).2 t ht).1⟩)
 have HZA := hid (show ∀ kind c q, (OkV w (zoneV kind c (L.take q)).lo ∧ (zoneV kind c (L.take q)).lo.1.b.length <= 1000000) ∧ (OkV w (zoneV kind c (L.take q)).hi ∧ (zoneV kind c (L.take q)).hi.1.b.length <= 1000000) ∧ 0 <= (zoneV kind c (L.take q)).n ∧ (zoneV kind c (L.take q)).n <= 100000 from fun kind c q => by
  have := zIz (Q := fun t => OkV w t ∧ t.1.b.length <= 1000000) (kind := kind) (c := c) ⟨⟨Rd.nil w, fun x h => by cases h⟩, by simp [noneV]⟩ (L.take q) fun l hl => HALL.out l (Qe hl)
  refine ⟨this.1, this.2.1, this.2.2.1, ?_⟩
  have h2 := this.2.2.2
  rw [List.length_take] at h2
  omega)
 have hx0 := Ql w (.cells #[.slice sa n sc] 24)
 have hb0 := zAd w (.cells #[.slice sa n sc] 24)
 obtain ⟨W0, hW0⟩ : ∃ W0 : World, W0 = w.alloc (.cells #[.slice sa n sc] 24) := ⟨_, rfl⟩
 rw [<- hW0] at hx0 hb0
 have HX0 := hid hx0
 have HB0 := hid hb0
 have HS0 := hid (show W0.heap.size = w.heap.size + 1 by rw [hW0]; simp)
 clear hs hr hN hM hsm hkk hx0 hb0
 go_enter Tryz.func21, Tryz.ntmps21
 go_upto_region 2 with (fail)
 rw [<- hW0]
 clear hW0
 go_wp2_with fail
 go_loopw [5, 6] (fun o i wr => ∃ (q : Nat) (zs : List Zv) (ao : Option Addr) (cap : Nat), q <= n ∧ i = .int .i64 (q : Int) ∧ o = .slice ao q cap ∧ zs.length = q ∧ zs.map Zv.t = (zonesT cols (L.map fun l => l.map Prod.fst)).take q ∧ wr.ownsRow W0.heap.size 103 9 (.slice ao q cap) q (zs.map cellsZ).flatten ∧ (∀ z ∈ zs, OkZ w z) ∧ Below W0.heap.size W0 wr) (fun _ i _ => n - (intOf i).toNat)
 case atStart => exact ⟨0, [], none, 0, Qf _, rfl, rfl, rfl, by simp, ⟨rfl, .inl ⟨rfl, rfl⟩⟩, (fun z hz => by cases hz), Qc _ _⟩
 case round =>
  obtain ⟨q, zs, ao, cap, hq, rfl, rfl, hzl, hzt, hown, hok, hb⟩ := hrel
  have HZL := hid hzl
  have HZT := hid hzt
  have HO := hid hown
  have HOK := hid hok
  have HB := hid hb
  have HBW := hid (zAa HB0.out hb)
  have x0 : wr.cell? ⟨w.heap.size, 0, none⟩ = some (.slice sa n sc) := by rw [Qk wr _ 0 _ _ _ ((hb.block w.heap.size (by have := HS0.out; omega)).trans HX0.out)]; rfl
  obtain ⟨wo, hwo⟩ : ∃ wo : World, wo = wr := ⟨_, rfl⟩
  rw [<- hwo] at HO HB HBW x0 ⊢
  clear hzl hzt hown hok hb hwo
  by_cases hlt : q < n
  ·have hlti : (q : Int) < (n : Int) := by omega
   have hq0 : (0 : Int) <= (q : Int) := by omega
   obtain ⟨co, hco⟩ : ∃ co, cols[q]? = some co := ⟨_, Qb (by rw [<- HN.out]; exact hlt)⟩
   have HCO := hid hco
   obtain ⟨b, off, rfl, p0, p1, p2⟩ := (RdC.kept HS.out HBW.out).at hco
   obtain ⟨kd, hkd⟩ : ∃ kd, kd = co.k := ⟨_, rfl⟩
   rw [<- hkd] at p1
   have HKD := hid hkd
   have HKL := hid (show ∀ p, (zoneV kd q (L.take p)).lo.1.k = kd ∧ (zoneV kd q (L.take p)).hi.1.k = kd from fun p => zP0 (L.take p) _ rfl rfl fun l hl t ht => by rw [HKD.out]; exact (HKK.out l (Qe hl) q t co ht HCO.out).1)
   clear hco p0 p2 hkd
   obtain ⟨W, hW⟩ : ∃ W : World, W = ((wo.alloc (.cells #[.bool true, .int .i64 kd, .int .i64 0, .slice none 0 0] 31)).alloc (.cells #[.int .i64 0, .bool true, .int .i64 kd, .int .i64 0, .slice none 0 0, .bool true, .int .i64 kd, .int .i64 0, .slice none 0 0] 103)) := ⟨_, rfl⟩
   obtain ⟨Z, hZ⟩ : ∃ Z, Z = wo.heap.size + 1 := ⟨_, rfl⟩
   have hZ2 : (wo.alloc (.cells #[.bool true, .int .i64 kd, .int .i64 0, .slice none 0 0] 31)).heap.size = Z := by rw [hZ]; simp
   have hxz : W.heap[Z]? = some (.cells (cellsZ (zoneV kd q (L.take 0))).toArray 103 (0, 0)) := by
    rw [hW, <- hZ2]
    exact Ql _ _
   have HXZ := hid hxz
   have HZZ := hid hZ
   have HBO := hid (show Below wo.heap.size wo W by rw [hW]; exact zAn (zAd wo _) _)
   go_upto_region 7 with (fail)
   rw [<- hZ, <- hW]
   clear hW hxz hZ hZ2 x0 p1
   go_wp2_with fail
   go_loopw [9] (fun i wx => ∃ p : Nat, p <= m ∧ i = .int .i64 (p : Int) ∧ wx.heap[Z]? = some (.cells (cellsZ (zoneV kd q (L.take p))).toArray 103 (0, 0)) ∧ Below wo.heap.size wo wx) (fun i _ => m - (intOf i).toNat)
   case atStart => exact ⟨0, Qf _, rfl, HXZ.out, HBO.out⟩
   case round =>
    obtain ⟨p, hp, rfl, hxz, hb⟩ := hrel
    have HXP := hid hxz
    have HBP := hid hb
    have HBWP := hid (zAa HBW.out hb)
    obtain ⟨z, hz⟩ : ∃ z, z = zoneV kd q (L.take p) := ⟨_, rfl⟩
    have HZ := hid (show (OkV w z.lo ∧ z.lo.1.b.length <= 1000000) ∧ (OkV w z.hi ∧ z.hi.1.b.length <= 1000000) ∧ 0 <= z.n ∧ z.n <= 100000 from hz ▸ HZA.out kd q p)
    have HZK := hid (show z.lo.1.k = kd ∧ z.hi.1.k = kd from hz ▸ HKL.out p)
    have HZE := hid hz
    rw [<- hz] at HXP
    clear hxz hb hz
    by_cases hlp : p < m
    ·have hlpi : (p : Int) < (m : Int) := by omega
     have hp0 : (0 : Int) <= (p : Int) := by omega
     obtain ⟨l, hl⟩ : ∃ l, L[p]? = some l := ⟨_, Qb (by rw [<- HM.out]; exact hlp)⟩
     have hll : l.length = n := by rw [HN.out]; exact (HSM.out l (Qd hl)).1
     obtain ⟨t, ht⟩ : ∃ t, l[q]? = some t := ⟨_, Qb (by rw [hll]; exact hlt)⟩
     have HST := hid (show zoneV kd q (L.take (p + 1)) = widen z t by rw [zK4 hl, <- HZE.out]; unfold stepV; rw [ht])
     have HTK := hid (show t.1.k = kd ∧ (kd = 1 ∨ kd = 2) by rw [HKD.out]; exact HKK.out l (Qd hl) q t co ht HCO.out)
     obtain ⟨b1, off1, sa1, sc1, rfl, hcell, hrp⟩ := (HR.out.kept HBWP.out).at hl
     rw [hll] at hcell hrp
     obtain ⟨b2, off2, rfl, p0, p1, p2, p3, ok⟩ := hrp.at ht
     have HOKT := hid (show OkV w t ∧ t.1.b.length <= 1000000 from HALL.out l (Qd hl) t (Qd ht))
     obtain ⟨ta, tc, hts⟩ := zAf ok.1
     obtain ⟨la, lc, hsl⟩ := zAf HZ.out.1.1.1
     obtain ⟨ha, hc, hsh⟩ := zAf HZ.out.2.1.1.1
     obtain ⟨zn, ⟨⟨lu, lk, ln, lb⟩, ls⟩, ⟨⟨hu, hk, hn, hb⟩, hs⟩⟩ := z
     obtain ⟨⟨tu, tk, tn, tb⟩, ts⟩ := t
     simp only at hsl hsh hts p0 p1 p2 p3
     subst hsl hsh hts
     have hnw : IntKind.i64.wrap (zn + 1) = zn + 1 := IntWalk.i64_in _ (by have := HZ.out.2.2; simp only at this; omega)
     have h2 := HXP.out
     unfold cellsZ cellsV at h2
     simp only [Qg, Qh] at h2
     have HX2 := hid h2
     clear hl ht hll hrp ok h2 HXP
     obtain ⟨wv, hwv⟩ : ∃ wv : World, wv = wr.alloc (.cells #[.bool tu, .int .i64 tk, .int .i64 tn, .slice ta tb.length tc] 31) := ⟨_, rfl⟩
     obtain ⟨Vb, hVb⟩ : ∃ Vb, Vb = wr.heap.size := ⟨_, rfl⟩
     have HXV := hid (show wv.heap[Vb]? = some (.cells #[.bool tu, .int .i64 tk, .int .i64 tn, .slice ta tb.length tc] 31 (0, 0)) by rw [hwv, hVb]; exact Ql _ _)
     have HBV := hid (show Below wr.heap.size wr wv by rw [hwv]; exact zAd _ _)
     have HXZV := hid ((HBV.out.block Z (Qa.1 HX2.out).1).trans HX2.out)
     have HVL := hid hVb
     have HZL2 := hid (show Z < wr.heap.size from (Qa.1 HX2.out).1)
     go_upto_region 11 with (fail)
     rw [<- hwv, <- hVb]
     have hZ2 := HXZV.out
     have hV2 := HXV.out
     obtain ⟨zc0, zc1, zc2, zc3, zc4, zc5, zc6, zc7, zc8, zf⟩ := zEt hZ2
     obtain ⟨yc0, yc1, yc2, yc3⟩ := zFw hV2
     clear hwv hVb hZ2 hV2 hcell p0 p1 p2 p3
     cases tu with
     | true =>
      have HSTN := hid (show widen ⟨zn, (⟨lu, lk, ln, lb⟩, .slice la lb.length lc), (⟨hu, hk, hn, hb⟩, .slice ha hb.length hc)⟩ (⟨true, tk, tn, tb⟩, .slice ta tb.length tc) = ⟨zn + 1, (⟨lu, lk, ln, lb⟩, .slice la lb.length lc), (⟨hu, hk, hn, hb⟩, .slice ha hb.length hc)⟩ from by unfold widen; rw [if_pos rfl])
      go_wp2_with fail
      go_roundw
      case rel =>
       refine ⟨p + 1, by omega, by go_num, ?_, ?_⟩
       ·rw [HST.out, HSTN.out]
        rw [heap_setCell_same wv Z 0 _ _ _ HXZV.out]
        rfl
       ·exact (zAa HBP.out HBV.out).setCell (p := ⟨Z, 0, none⟩) (by have := HZZ.out; show _ <= Z; omega) _
      case measure => simp [intOf]; omega
     | false =>
      have HCL := hid (show ∀ w', Below w.heap.size w w' -> Calls Tryz.prog 54 #[.agg #[.bool false, .int .i64 tk, .int .i64 tn, .slice ta tb.length tc], .agg #[.bool lu, .int .i64 lk, .int .i64 ln, .slice la lb.length lc]] w' fun e w'' => e = .returned (.int .i64 (cmpT ⟨false, tk, tn, tb⟩ ⟨lu, lk, ln, lb⟩)) ∧ Below w'.heap.size w' w'' from fun w' h => by
       have hh := zHb (⟨false, tk, tn, tb⟩, .slice ta tb.length tc) (⟨lu, lk, ln, lb⟩, .slice la lb.length lc) w' (HOKT.out.1.kept h) (HZ.out.1.1.kept h)
       rw [zMt (by have h1 := HTK.out.1; have h2 := HZK.out.1; simp only at h1 h2 ⊢; rw [h1, h2]) (by have h1 := HTK.out; simp only at h1 ⊢; rw [h1.1]; exact h1.2)] at hh
       exact hh)
      have HCH := hid (show ∀ w', Below w.heap.size w w' -> Calls Tryz.prog 54 #[.agg #[.bool false, .int .i64 tk, .int .i64 tn, .slice ta tb.length tc], .agg #[.bool hu, .int .i64 hk, .int .i64 hn, .slice ha hb.length hc]] w' fun e w'' => e = .returned (.int .i64 (cmpT ⟨false, tk, tn, tb⟩ ⟨hu, hk, hn, hb⟩)) ∧ Below w'.heap.size w' w'' from fun w' h => by
       have hh := zHb (⟨false, tk, tn, tb⟩, .slice ta tb.length tc) (⟨hu, hk, hn, hb⟩, .slice ha hb.length hc) w' (HOKT.out.1.kept h) (HZ.out.2.1.1.kept h)
       rw [zMt (by have h1 := HTK.out.1; have h2 := HZK.out.2; simp only at h1 h2 ⊢; rw [h1, h2]) (by have h1 := HTK.out; simp only at h1 ⊢; rw [h1.1]; exact h1.2)] at hh
       exact hh)
      have HW := hid (show widen ⟨zn, (⟨lu, lk, ln, lb⟩, .slice la lb.length lc), (⟨hu, hk, hn, hb⟩, .slice ha hb.length hc)⟩ (⟨false, tk, tn, tb⟩, .slice ta tb.length tc) = ⟨zn, loW (⟨lu, lk, ln, lb⟩, .slice la lb.length lc) (⟨false, tk, tn, tb⟩, .slice ta tb.length tc), hiW (⟨hu, hk, hn, hb⟩, .slice ha hb.length hc) (⟨false, tk, tn, tb⟩, .slice ta tb.length tc)⟩ from by unfold widen; rw [if_neg (fun h => by cases h)])
      obtain ⟨cl, hcl⟩ : ∃ cl, cl = cmpT ⟨false, tk, tn, tb⟩ ⟨lu, lk, ln, lb⟩ := ⟨_, rfl⟩
      obtain ⟨ch, hch⟩ : ∃ ch, ch = cmpT ⟨false, tk, tn, tb⟩ ⟨hu, hk, hn, hb⟩ := ⟨_, rfl⟩
      rw [<- hcl] at HCL
      rw [<- hch] at HCH
      have HWL := hid (show loW (⟨lu, lk, ln, lb⟩, .slice la lb.length lc) (⟨false, tk, tn, tb⟩, .slice ta tb.length tc) = if lu = true ∨ cl < 0 then (⟨false, tk, tn, tb⟩, .slice ta tb.length tc) else (⟨lu, lk, ln, lb⟩, .slice la lb.length lc) from by unfold loW; rw [hcl])
      have HWH := hid (show hiW (⟨hu, hk, hn, hb⟩, .slice ha hb.length hc) (⟨false, tk, tn, tb⟩, .slice ta tb.length tc) = if hu = true ∨ 0 < ch then (⟨false, tk, tn, tb⟩, .slice ta tb.length tc) else (⟨hu, hk, hn, hb⟩, .slice ha hb.length hc) from by unfold hiW; rw [hch])
      clear hcl hch
      have hS0 := Qc wv.heap.size wv
      go_upto_region 13 with (fail)
      go_cut [56] (fun s wx => s = .bool (lu || decide (cl < 0)) ∧ Below wv.heap.size wv wx)
      case first =>
       cases lu with
       | true =>
        go_wp2_with fail
        go_meet
        exact ⟨rfl, hS0⟩
       | false =>
        go_wp2_with fail
        refine (HCL.out _ (zAa HBWP.out HBV.out)).mono ?_
        rintro e w2 ⟨rfl, hb2⟩
        have HB2 := hid hb2
        clear hb2
        go_wp2_with fail
        go_meet
        exact ⟨by simp, HB2.out⟩
      case rest =>
       obtain ⟨rfl, hb1⟩ := hcut
       obtain ⟨w3, hw3⟩ : ∃ w3 : World, w3 = wc := ⟨_, rfl⟩
       rw [<- hw3] at hb1 ⊢
       have HB13 := hid hb1
       have HXZ3 := hid ((hb1.block Z (Qa.1 HXZV.out).1).trans HXZV.out)
       have HXV3 := hid ((hb1.block Vb (Qa.1 HXV.out).1).trans HXV.out)
       have hZ2 := HXZ3.out
       have hV2 := HXV3.out
       clear hw3 hb1 hS0 zc0 zc1 zc2 zc3 zc4 zc5 zc6 zc7 zc8 zf yc0 yc1 yc2 yc3
       have HB03 := hid (zAa (zAa HBP.out HBV.out) HB13.out)
       have hneV : Vb ≠ Z := by have h1 := HVL.out; have h2 := HZL2.out; omega
       have hzo : wo.heap.size <= Z := by have := HZZ.out; omega
       have HZO := hid hzo
       have HNV := hid hneV
       clear hzo hneV
       obtain ⟨bl, hbl⟩ : ∃ bl, bl = (lu || decide (cl < 0)) := ⟨_, rfl⟩
       have HBLL := hid (show loW (⟨lu, lk, ln, lb⟩, .slice la lb.length lc) (⟨false, tk, tn, tb⟩, .slice ta tb.length tc) = if bl = true then (⟨false, tk, tn, tb⟩, .slice ta tb.length tc) else (⟨lu, lk, ln, lb⟩, .slice la lb.length lc) from by rw [HWL.out, hbl]; simp)
       rw [<- hbl]
       clear hbl hZ2 hV2
       cases bl with
       | true =>
        have c1 := HXZ3.out
        have v1 := HXV3.out
        obtain ⟨ac0, ac1, ac2, ac3, ac4, ac5, ac6, ac7, ac8, af⟩ := zEt c1
        obtain ⟨bc0, bc1, bc2, bc3⟩ := zFw v1
        clear c1 v1
        have hnq1 := HNV.out
        have hnq2 := HNV.out.symm
        go_upto_region 15 with (fail)
        obtain ⟨w4, hw4⟩ : ∃ w4 : World, w4 = ((((w3.setCell ⟨Z, 1, none⟩ (.bool false)).setCell ⟨Z, 2, none⟩ (.int .i64 tk)).setCell ⟨Z, 3, none⟩ (.int .i64 tn)).setCell ⟨Z, 4, none⟩ (.slice ta tb.length tc)) := ⟨_, rfl⟩
        rw [<- hw4]
        have h4 : w4.heap[Z]? = some (.cells #[.int .i64 zn, .bool false, .int .i64 tk, .int .i64 tn, .slice ta tb.length tc, .bool hu, .int .i64 hk, .int .i64 hn, .slice ha hb.length hc] 103 (0, 0)) := by rw [hw4]; exact zJi HXZ3.out
        have hV4 : w4.heap[Vb]? = some (.cells #[.bool false, .int .i64 tk, .int .i64 tn, .slice ta tb.length tc] 31 (0, 0)) := by rw [hw4, zCk _ _ _ _ _ _ _ _ _ _ _ HNV.out]; exact HXV3.out
        have hb4 : Below wo.heap.size wo w4 := by rw [hw4]; exact zFm HB03.out HZO.out _ _ _ _ _ _ _ _
        clear hw4 hnq1 hnq2 ac0 ac1 ac2 ac3 ac4 ac5 ac6 ac7 ac8 af bc0 bc1 bc2 bc3
        have H4 := hid h4
        have HV4 := hid hV4
        have HB4 := hid hb4
        obtain ⟨dc0, dc1, dc2, dc3, dc4, dc5, dc6, dc7, dc8, df⟩ := zEt h4
        obtain ⟨fc0, fc1, fc2, fc3⟩ := zFw hV4
        have hS4 := Qc w4.heap.size w4
        clear h4 hV4 hb4
        go_cut [68] (fun s wx => s = .bool (hu || decide (0 < ch)) ∧ Below w4.heap.size w4 wx)
        case first =>
         cases hu with
         | true =>
          go_wp2_with fail
          go_meet
          exact ⟨rfl, hS4⟩
         | false =>
          go_wp2_with fail
          refine (HCH.out _ (zAa HBW.out HB4.out)).mono ?_
          rintro e w5 ⟨rfl, hb5⟩
          have HB5 := hid hb5
          clear hb5
          go_wp2_with fail
          go_meet
          exact ⟨by simp, HB5.out⟩
        case rest =>
         obtain ⟨rfl, hb5⟩ := hcut
         obtain ⟨w5, hw5⟩ : ∃ w5 : World, w5 = wc := ⟨_, rfl⟩
         rw [<- hw5] at hb5 ⊢
         have HB05 := hid (zAa HB4.out hb5)
         have HXZ5 := hid ((hb5.block Z (Qa.1 H4.out).1).trans H4.out)
         have HXV5 := hid ((hb5.block Vb (Qa.1 HV4.out).1).trans HV4.out)
         clear hw5 hb5 hS4 dc0 dc1 dc2 dc3 dc4 dc5 dc6 dc7 dc8 df fc0 fc1 fc2 fc3
         obtain ⟨bh, hbh⟩ : ∃ bh, bh = (hu || decide (0 < ch)) := ⟨_, rfl⟩
         have HBHH := hid (show hiW (⟨hu, hk, hn, hb⟩, .slice ha hb.length hc) (⟨false, tk, tn, tb⟩, .slice ta tb.length tc) = if bh = true then (⟨false, tk, tn, tb⟩, .slice ta tb.length tc) else (⟨hu, hk, hn, hb⟩, .slice ha hb.length hc) from by rw [HWH.out, hbh]; simp)
         rw [<- hbh]
         clear hbh
         cases bh with
         | true =>
          have c5 := HXZ5.out
          have v5 := HXV5.out
          obtain ⟨gc0, gc1, gc2, gc3, gc4, gc5, gc6, gc7, gc8, gf⟩ := zEt c5
          obtain ⟨kc0, kc1, kc2, kc3⟩ := zFw v5
          clear c5 v5
          have hnq1 := HNV.out
          have hnq2 := HNV.out.symm
          go_wp2_with fail
          go_roundw
          case rel =>
           refine ⟨p + 1, by omega, by go_num, ?_, zFm HB05.out HZO.out _ _ _ _ _ _ _ _⟩
           rw [HST.out, HW.out, HBLL.out, HBHH.out]
           exact zLx HXZ5.out
          case measure => simp [intOf]; omega
         | false =>
          go_wp2_with fail
          go_roundw
          case rel =>
           refine ⟨p + 1, by omega, by go_num, ?_, HB05.out⟩
           rw [HST.out, HW.out, HBLL.out, HBHH.out]
           exact HXZ5.out
          case measure => simp [intOf]; omega
       | false =>
        go_upto_region 15 with (fail)
        obtain ⟨w4, hw4⟩ : ∃ w4 : World, w4 = w3 := ⟨_, rfl⟩
        have h4 := HXZ3.out
        have hV4 := HXV3.out
        have hb4 := HB03.out
        rw [<- hw4] at h4 hV4 hb4 ⊢
        clear hw4
        have H4 := hid h4
        have HV4 := hid hV4
        have HB4 := hid hb4
        obtain ⟨dc0, dc1, dc2, dc3, dc4, dc5, dc6, dc7, dc8, df⟩ := zEt h4
        obtain ⟨fc0, fc1, fc2, fc3⟩ := zFw hV4
        have hS4 := Qc w4.heap.size w4
        clear h4 hV4 hb4
        go_cut [68] (fun s wx => s = .bool (hu || decide (0 < ch)) ∧ Below w4.heap.size w4 wx)
        case first =>
         cases hu with
         | true =>
          go_wp2_with fail
          go_meet
          exact ⟨rfl, hS4⟩
         | false =>
          go_wp2_with fail
          refine (HCH.out _ (zAa HBW.out HB4.out)).mono ?_
          rintro e w5 ⟨rfl, hb5⟩
          have HB5 := hid hb5
          clear hb5
          go_wp2_with fail
          go_meet
          exact ⟨by simp, HB5.out⟩
        case rest =>
         obtain ⟨rfl, hb5⟩ := hcut
         obtain ⟨w5, hw5⟩ : ∃ w5 : World, w5 = wc := ⟨_, rfl⟩
         rw [<- hw5] at hb5 ⊢
         have HB05 := hid (zAa HB4.out hb5)
         have HXZ5 := hid ((hb5.block Z (Qa.1 H4.out).1).trans H4.out)
         have HXV5 := hid ((hb5.block Vb (Qa.1 HV4.out).1).trans HV4.out)
         clear hw5 hb5 hS4 dc0 dc1 dc2 dc3 dc4 dc5 dc6 dc7 dc8 df fc0 fc1 fc2 fc3
         obtain ⟨bh, hbh⟩ : ∃ bh, bh = (hu || decide (0 < ch)) := ⟨_, rfl⟩
         have HBHH := hid (show hiW (⟨hu, hk, hn, hb⟩, .slice ha hb.length hc) (⟨false, tk, tn, tb⟩, .slice ta tb.length tc) = if bh = true then (⟨false, tk, tn, tb⟩, .slice ta tb.length tc) else (⟨hu, hk, hn, hb⟩, .slice ha hb.length hc) from by rw [HWH.out, hbh]; simp)
         rw [<- hbh]
         clear hbh
         cases bh with
         | true =>
          have c5 := HXZ5.out
          have v5 := HXV5.out
          obtain ⟨gc0, gc1, gc2, gc3, gc4, gc5, gc6, gc7, gc8, gf⟩ := zEt c5
          obtain ⟨kc0, kc1, kc2, kc3⟩ := zFw v5
          clear c5 v5
          have hnq1 := HNV.out
          have hnq2 := HNV.out.symm
          go_wp2_with fail
          go_roundw
          case rel =>
           refine ⟨p + 1, by omega, by go_num, ?_, zFm HB05.out HZO.out _ _ _ _ _ _ _ _⟩
           rw [HST.out, HW.out, HBLL.out, HBHH.out]
           exact zLx HXZ5.out
          case measure => simp [intOf]; omega
         | false =>
          go_wp2_with fail
          go_roundw
          case rel =>
           refine ⟨p + 1, by omega, by go_num, ?_, HB05.out⟩
           rw [HST.out, HW.out, HBLL.out, HBHH.out]
           exact HXZ5.out
          case measure => simp [intOf]; omega
    ·have hpm : p = m := by omega
     have hlpi : ¬ (p : Int) < (m : Int) := by omega
     obtain ⟨la, lc, hsl⟩ := zAf HZ.out.1.1.1
     obtain ⟨ha, hc, hsh⟩ := zAf HZ.out.2.1.1.1
     have HZT2 := hid (show z.t = zoneT kd q (L.map fun l => l.map Prod.fst) from by
      rw [HZE.out, hpm, HM.out, List.take_length]
      exact zPv kd q L)
     have HOZ := hid (show OkZ w z from ⟨HZ.out.1.1, HZ.out.2.1.1⟩)
     obtain ⟨zn, ⟨⟨lu, lk, ln, lb⟩, ls⟩, ⟨⟨hu, hk, hn, hb⟩, hs⟩⟩ := z
     simp only at hsl hsh
     subst hsl hsh
     have h2 := HXP.out
     unfold cellsZ cellsV at h2
     simp only [Qg, Qh] at h2
     obtain ⟨xc0, xc1, xc2, xc3, xc4, xc5, xc6, xc7, xc8, xf⟩ := zEt h2
     have HRD := hid (zBb wr #[.int .i64 zn, .bool lu, .int .i64 lk, .int .i64 ln, .slice la lb.length lc, .bool hu, .int .i64 hk, .int .i64 hn, .slice ha hb.length hc] 103 9 rfl)
     have HON := hid (show Ones 9 [[.int .i64 zn, .bool lu, .int .i64 lk, .int .i64 ln, .slice la lb.length lc, .bool hu, .int .i64 hk, .int .i64 hn, .slice ha hb.length hc]] from fun t ht => by rw [Qi.1 ht]; exact ⟨rfl, fun u hu => by simp only [List.mem_cons, List.not_mem_nil, or_false] at hu; rcases hu with rfl | rfl | rfl | rfl | rfl | rfl | rfl | rfl | rfl <;> rfl⟩)
     have HBO2 := hid (zAa HB.out HBP.out)
     have HOWN := hid (show (wr.alloc (.cells #[.int .i64 zn, .bool lu, .int .i64 lk, .int .i64 ln, .slice la lb.length lc, .bool hu, .int .i64 hk, .int .i64 hn, .slice ha hb.length hc] 103)).ownsRow W0.heap.size 103 9 (.slice ao q cap) q (zs.map cellsZ).flatten from (zG0 HO.out HBP.out).alloc _)
     have HSZ := hid (show W0.heap.size <= (wr.alloc (.cells #[.int .i64 zn, .bool lu, .int .i64 lk, .int .i64 ln, .slice la lb.length lc, .bool hu, .int .i64 hk, .int .i64 hn, .slice ha hb.length hc] 103)).heap.size by have := HBO2.out.size; simp; omega)
     have HFL := hid (show (zs.map cellsZ).flatten ++ ([[.int .i64 zn, .bool lu, .int .i64 lk, .int .i64 ln, .slice la lb.length lc, .bool hu, .int .i64 hk, .int .i64 hn, .slice ha hb.length hc]] : List (List Value)).flatten = ((zs ++ ([⟨zn, (⟨lu, lk, ln, lb⟩, .slice la lb.length lc), (⟨hu, hk, hn, hb⟩, .slice ha hb.length hc)⟩] : List Zv)).map cellsZ).flatten from by rw [Qj, List.flatten_append]; rfl)
     clear h2 hpm HXP
     go_wp2_with (at_builtin; go_must (refine zAg zWb rfl _ _ rfl W0.heap.size _ _ _ rfl HOWN.out _ [[.int .i64 zn, .bool lu, .int .i64 lk, .int .i64 ln, .slice la lb.length lc, .bool hu, .int .i64 hk, .int .i64 hn, .slice ha hb.length hc]] rfl HRD.out HON.out (by simp; omega) HSZ.out (q + 1) rfl ?_); intro ao4 cap4 w4 hown4 hgrow4 hnew4; rw [HFL.out] at hown4; have HO4 := hid hown4; have HG4 := hid hgrow4; clear hown4 hgrow4 hnew4)
     go_roundw
     case rel =>
      refine ⟨q + 1, zs ++ [⟨zn, (⟨lu, lk, ln, lb⟩, .slice la lb.length lc), (⟨hu, hk, hn, hb⟩, .slice ha hb.length hc)⟩], ao4, cap4, by omega, by go_num, rfl, by rw [List.length_append, HZL.out]; rfl, ?_, HO4.out, ?_, ?_⟩
      ·rw [Qj, HZT.out]
       unfold zonesT
       rw [List.take_add_one, List.getElem?_mapIdx, HCO.out]
       simp only [Option.map_some, Option.toList_some, List.map_cons, List.map_nil]
       rw [HZT2.out, HKD.out]
      ·intro z hz
       rcases List.mem_append.1 hz with h | h
       ·exact HOK.out z h
       ·rw [Qi.1 h]
        exact HOZ.out
      ·exact (HBO2.out.alloc HBO2.out.size _).grown HG4.out HSZ.out (zAh HOWN.out)
     case measure => simp [intOf]; omega
  ·have hqn : q = n := by omega
   have hlti : ¬ (q : Int) < (n : Int) := by omega
   have HF := hid (show RdZ wo (.slice ao q cap) (zonesT cols (L.map fun l => l.map Prod.fst)) ∧ Below w.heap.size w wo from by
    refine ⟨⟨zs, ?_, zLn HO.out (by rw [List.length_map, HZL.out]) (fun t ht => by obtain ⟨z, _, rfl⟩ := List.mem_map.1 ht; rfl), fun z hz => (HOK.out z hz).kept HBW.out⟩, HBW.out⟩
    rw [HZT.out, List.take_of_length_le]
    unfold zonesT
    rw [List.length_mapIdx, <- HN.out]
    omega)
   clear hqn
   go_wp2_with fail
   go_ret
   exact ⟨_, rfl, HF.out⟩
end Go.Proofs.YtmpgnjhgegbdkaaGreat
