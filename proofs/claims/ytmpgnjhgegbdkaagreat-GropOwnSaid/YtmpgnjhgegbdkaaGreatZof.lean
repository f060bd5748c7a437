import Derived.Test.YtmpgnjhgegbdkaaGreatZwid
import Derived.Deep.RegionLaw
set_option linter.unusedVariables false
set_option linter.unusedSimpArgs false
set_option maxRecDepth 100000
set_option maxHeartbeats 8000000
open Go.Lib (hid)
namespace Go.Proofs.YtmpgnjhgegbdkaaGreat
open Go.RowKit
open _root_.Array renaming getElem?_eq_some_iff -> Qa
open _root_.List renaming getElem?_eq_getElem -> Qb, foldl_cons -> Qc, cons_append -> Qd, nil_append -> Qe, mem_of_getElem? -> Qf
open _root_.Nat renaming le_refl -> Qg
open Go renaming cell_of_row -> Qh, frozen_of_row -> Qi
def RdRs (w : World) (v : Value) (L : List (List (Vc × Value))) : Prop :=
 ∃ sls, Rd w v sls ∧ sls.length = L.length ∧ ∀ (i : Nat) (s : Value) (l : List (Vc × Value)), sls[i]? = some s -> L[i]? = some l -> RdP w s l
theorem RdRs.kept {w w' : World} {v : Value} {L : List (List (Vc × Value))} (h : RdRs w v L) (hb : Below w.heap.size w w') : RdRs w' v L := by
 obtain ⟨sls, h1, h2, h3⟩ := h
 exact ⟨sls, h1.kept hb, h2, fun i s l hs hl => (h3 i s l hs hl).kept hb⟩
theorem zDo {w : World} {v : Value} {L : List (List (Vc × Value))} (h : RdRs w v L) : ∃ ao cap, v = .slice ao L.length cap := by
 obtain ⟨sls, h1, h2, _⟩ := h
 obtain ⟨ao, cap, hv, _⟩ := h1
 exact ⟨ao, cap, by rw [<- h2]; exact hv⟩
theorem RdRs.at {w : World} {ao : Option Addr} {n cap : Nat} {L : List (List (Vc × Value))} (h : RdRs w (.slice ao n cap) L) {k : Nat} {l : List (Vc × Value)} (hk : L[k]? = some l) :
  ∃ b off sa sc, ao = some ⟨b, off, none⟩ ∧ w.cell? ⟨b, off + k, none⟩ = some (.slice sa l.length sc) ∧ RdP w (.slice sa l.length sc) l := by
 obtain ⟨sls, h1, h2, h3⟩ := h
 obtain ⟨ao', cap', hv, _, hc⟩ := h1
 cases hv
 have hlt : k < sls.length := by rw [h2]; exact (List.getElem?_eq_some_iff.1 hk).1
 obtain ⟨b, off, rfl, hcell⟩ := hc (by omega)
 have h4 := h3 k _ l (Qb hlt) hk
 obtain ⟨sa, sc, h5⟩ := zD2 h4
 refine ⟨b, off, sa, sc, rfl, ?_, h5 ▸ h4⟩
 rw [hcell k hlt, List.getD_eq_getElem?_getD, Qb hlt, <- h5]
 rfl
structure Zt where
 n : Int
 lo : Vc
 hi : Vc
def Zv.t (z : Zv) : Zt := ⟨z.n, z.lo.1, z.hi.1⟩
def widenT (z : Zt) (v : Vc) : Zt := if v.u = true then ⟨z.n + 1, z.lo, z.hi⟩ else ⟨z.n, if z.lo.u = true ∨ cmpT v z.lo < 0 then v else z.lo, if z.hi.u = true ∨ 0 < cmpT v z.hi then v else z.hi⟩
theorem zSj (z : Zv) (v : Vc × Value) : (widen z v).t = widenT z.t v.1 := by
 unfold widen widenT Zv.t loW hiW
 split
 ·rfl
 ·simp only
  congr 1
  ·split <;> rfl
  ·split <;> rfl
def stepV (c : Nat) (z : Zv) (r : List (Vc × Value)) : Zv := match r[c]? with
 | some v => widen z v
 | none => z
def stepT (c : Nat) (z : Zt) (r : List Vc) : Zt := match r[c]? with
 | some v => widenT z v
 | none => z
theorem zS1 (c : Nat) (z : Zv) (r : List (Vc × Value)) : (stepV c z r).t = stepT c z.t (r.map Prod.fst) := by
 unfold stepV stepT
 rw [List.getElem?_map]
 cases r[c]? with
 | none => rfl
 | some v => exact zSj z v
def noneV (kind : Int) : Vc := ⟨true, kind, 0, []⟩
def zone0 (kind : Int) : Zt := ⟨0, noneV kind, noneV kind⟩
def zoneT (kind : Int) (c : Nat) (rows : List (List Vc)) : Zt := rows.foldl (stepT c) (zone0 kind)
def zoneV0 (kind : Int) : Zv := ⟨0, (noneV kind, .slice none 0 0), (noneV kind, .slice none 0 0)⟩
def zoneV (kind : Int) (c : Nat) (L : List (List (Vc × Value))) : Zv := L.foldl (stepV c) (zoneV0 kind)
theorem zSk (kind : Int) (c : Nat) (L : List (List (Vc × Value))) : (zoneV kind c L).t = zoneT kind c (L.map fun l => l.map Prod.fst) := by
 have h : ∀ (L : List (List (Vc × Value))) (z : Zv), (L.foldl (stepV c) z).t = (L.map fun l => l.map Prod.fst).foldl (stepT c) z.t := by
  intro L
  induction L with
  | nil => intro z; rfl
  | cons x r ih => intro z; rw [Qc, ih, zS1, List.map_cons, Qc]
 exact h L _
theorem zOe {kind : Int} {c : Nat} {L : List (List (Vc × Value))} {q : Nat} {l : List (Vc × Value)} (h : L[q]? = some l) : zoneV kind c (L.take (q + 1)) = stepV c (zoneV kind c (L.take q)) l := by
 unfold zoneV
 rw [List.take_add_one, h, List.foldl_append]
 rfl
theorem zJu {Q : Vc × Value -> Prop} {kind : Int} {c : Nat} (h0 : Q (noneV kind, .slice none 0 0)) : ∀ (L : List (List (Vc × Value))), (∀ l ∈ L, ∀ t ∈ l, Q t) -> Q (zoneV kind c L).lo ∧ Q (zoneV kind c L).hi ∧ 0 <= (zoneV kind c L).n ∧ (zoneV kind c L).n <= L.length := by
 have h : ∀ (L : List (List (Vc × Value))) (z : Zv) (k : Nat), (∀ l ∈ L, ∀ t ∈ l, Q t) -> Q z.lo -> Q z.hi -> 0 <= z.n -> z.n <= k -> Q (L.foldl (stepV c) z).lo ∧ Q (L.foldl (stepV c) z).hi ∧ 0 <= (L.foldl (stepV c) z).n ∧ (L.foldl (stepV c) z).n <= k + L.length := by
  intro L
  induction L with
  | nil => intro z k _ h1 h2 h3 h4; exact ⟨h1, h2, h3, by simpa using h4⟩
  | cons x r ih =>
   intro z k hl h1 h2 h3 h4
   rw [Qc]
   have hx : Q (stepV c z x).lo ∧ Q (stepV c z x).hi ∧ 0 <= (stepV c z x).n ∧ (stepV c z x).n <= ((k + 1 : Nat) : Int) := by
    unfold stepV
    cases hc : x[c]? with
    | none => exact ⟨h1, h2, h3, by show z.n <= _; omega⟩
    | some v =>
     have hv := hl x List.mem_cons_self v (Qf hc)
     simp only
     unfold widen
     split
     ·exact ⟨h1, h2, by show 0 <= z.n + 1; omega, by show z.n + 1 <= _; omega⟩
     ·refine ⟨?_, ?_, h3, by show z.n <= _; omega⟩
      ·show Q (loW z.lo v)
       unfold loW
       split
       ·exact hv
       ·exact h1
      ·show Q (hiW z.hi v)
       unfold hiW
       split
       ·exact hv
       ·exact h2
   have := ih _ (k + 1) (fun l h => hl l (List.mem_cons_of_mem _ h)) hx.1 hx.2.1 hx.2.2.1 hx.2.2.2
   rw [List.length_cons]
   exact ⟨this.1, this.2.1, this.2.2.1, by have := this.2.2.2; omega⟩
 intro L hl
 have := h L (zoneV0 kind) 0 hl h0 h0 (by show (0 : Int) <= 0; omega) (by show (0 : Int) <= 0; omega)
 exact ⟨this.1, this.2.1, this.2.2.1, by have := this.2.2.2; unfold zoneV; omega⟩
theorem zIe (w : World) (X Y : Nat) (b0 b1 b2 b3 b4 b5 b6 b7 b8 : Value) (h : Y ≠ X) : (((((((((w.setCell ⟨X, 0, none⟩ b0).setCell ⟨X, 1, none⟩ b1).setCell ⟨X, 2, none⟩ b2).setCell ⟨X, 3, none⟩ b3).setCell ⟨X, 4, none⟩ b4).setCell ⟨X, 5, none⟩ b5).setCell ⟨X, 6, none⟩ b6).setCell ⟨X, 7, none⟩ b7).setCell ⟨X, 8, none⟩ b8).heap[Y]? = w.heap[Y]? := by
 rw [zCg _ _ _ _ _ _ _ _ _ _ _ h, zCg _ _ _ _ _ _ _ _ _ _ _ h, heap_setCell_other _ _ _ _ h]
theorem zRv {w wx : World} {B X : Nat} (h : Below B w wx) (hx : B <= X) (b0 b1 b2 b3 b4 b5 b6 b7 b8 : Value) : Below B w (((((((((wx.setCell ⟨X, 0, none⟩ b0).setCell ⟨X, 1, none⟩ b1).setCell ⟨X, 2, none⟩ b2).setCell ⟨X, 3, none⟩ b3).setCell ⟨X, 4, none⟩ b4).setCell ⟨X, 5, none⟩ b5).setCell ⟨X, 6, none⟩ b6).setCell ⟨X, 7, none⟩ b7).setCell ⟨X, 8, none⟩ b8) :=
 zHq (zHq (h.setCell (p := ⟨X, 0, none⟩) hx b0) hx _ _ _ _ _ _ _ _) hx _ _ _ _ _ _ _ _
theorem zPx (kind : Int) (c : Nat) (hc6 : c <= 1000) (L : List (List (Vc × Value))) (hL : L.length <= 100000) (rv : Value) (w : World) (hr : RdRs w rv L) (hsm : ∀ l ∈ L, l.length <= 1000 ∧ ∀ t ∈ l, t.1.b.length <= 1000000) :
  Calls Tryz.prog 71 #[.int .i64 kind, .int .i64 (c : Int), rv] w fun e w' => ∃ s1 s2, e = .returned (.agg (cellsZ ⟨(zoneV kind c L).n, ((zoneV kind c L).lo.1, s1), ((zoneV kind c L).hi.1, s2)⟩).toArray) ∧ RdB w.heap.size w' s1 (zoneV kind c L).lo.1.b ∧ RdB w.heap.size w' s2 (zoneV kind c L).hi.1.b ∧ Below w.heap.size w w' := by
 have hall : ∀ l ∈ L, ∀ t ∈ l, OkV w t ∧ t.1.b.length <= 1000000 := fun l hl t ht => by
  obtain ⟨i, hi, rfl⟩ := List.mem_iff_getElem.1 hl
  obtain ⟨sls, h1, h2, h3⟩ := hr
  exact ⟨(h3 i _ _ (Qb (by rw [h2]; exact hi)) (Qb hi)).2 t ht, (hsm _ hl).2 t ht⟩
 have HZA := hid (show ∀ q, (OkV w (zoneV kind c (L.take q)).lo ∧ (zoneV kind c (L.take q)).lo.1.b.length <= 1000000) ∧ (OkV w (zoneV kind c (L.take q)).hi ∧ (zoneV kind c (L.take q)).hi.1.b.length <= 1000000) ∧ 0 <= (zoneV kind c (L.take q)).n ∧ (zoneV kind c (L.take q)).n <= 100000 from fun q => by
  have := zJu (Q := fun t => OkV w t ∧ t.1.b.length <= 1000000) (kind := kind) (c := c) ⟨⟨Rd.nil w, fun x h => by cases h⟩, by simp [noneV]⟩ (L.take q) fun l hl => hall l (List.mem_of_mem_take hl)
  refine ⟨this.1, this.2.1, this.2.2.1, ?_⟩
  have h2 := this.2.2.2
  rw [List.length_take] at h2
  omega)
 have HSM := hid hsm
 have HR := hid hr
 obtain ⟨ao, cap, rfl⟩ := zDo hr
 obtain ⟨n, hN⟩ : ∃ n, n = L.length := ⟨_, rfl⟩
 rw [<- hN] at HR hL ⊢
 have HN := hid hN
 clear hall hsm hr hN
 go_enter Tryz.func71, Tryz.ntmps71
 go_upto_region 3 with (fail)
 obtain ⟨W, hW⟩ : ∃ W : World, W = (((w.alloc (.cells #[.int .i64 0, .bool false, .int .i64 0, .int .i64 0, .slice none 0 0, .bool false, .int .i64 0, .int .i64 0, .slice none 0 0] 103)).alloc (.cells #[.bool true, .int .i64 kind, .int .i64 0, .slice none 0 0] 31)).alloc (.cells #[.int .i64 0, .bool true, .int .i64 kind, .int .i64 0, .slice none 0 0, .bool true, .int .i64 kind, .int .i64 0, .slice none 0 0] 103)) := ⟨_, rfl⟩
 rw [<- hW]
 have hx0 : W.heap[w.heap.size]? = some (.cells #[.int .i64 0, .bool false, .int .i64 0, .int .i64 0, .slice none 0 0, .bool false, .int .i64 0, .int .i64 0, .slice none 0 0] 103 (0, 0)) := by rw [hW]; exact (heap_alloc_old _ _ (by simp; try omega)).trans ((heap_alloc_old _ _ (by simp)).trans (heap_alloc_new w _))
 have hx2 : W.heap[w.heap.size + 1 + 1]? = some (.cells #[.int .i64 0, .bool true, .int .i64 kind, .int .i64 0, .slice none 0 0, .bool true, .int .i64 kind, .int .i64 0, .slice none 0 0] 103 (0, 0)) := by rw [hW]; exact (zSx w _ _ _).2
 have HB0 := hid (show Below w.heap.size w W by rw [hW]; exact zEq w _ _ _)
 obtain ⟨B0, hB0⟩ : ∃ B0, B0 = w.heap.size := ⟨_, rfl⟩
 obtain ⟨B2, hB2⟩ : ∃ B2, B2 = B0 + 1 + 1 := ⟨_, rfl⟩
 have HP0 := hid hB0
 have HP2 := hid hB2
 rw [<- hB0] at hx0 hx2 ⊢
 rw [<- hB2] at hx2 ⊢
 have HX0 := hid hx0
 have HX2 := hid hx2
 clear hW hx0 hx2 hB0 hB2
 go_wp2_with fail
 go_loopw [18] (fun i wr => ∃ q : Nat, q <= n ∧ i = .int .i64 (q : Int) ∧ wr.heap[B0]? = some (.cells #[.int .i64 0, .bool false, .int .i64 0, .int .i64 0, .slice none 0 0, .bool false, .int .i64 0, .int .i64 0, .slice none 0 0] 103 (0, 0)) ∧ wr.heap[B2]? = some (.cells (cellsZ (zoneV kind c (L.take q))).toArray 103 (0, 0)) ∧ Below w.heap.size w wr) (fun i _ => n - (intOf i).toNat)
 case atStart => exact ⟨0, Nat.zero_le _, rfl, HX0.out, HX2.out, HB0.out⟩
 case round =>
  obtain ⟨q, hq, rfl, h0, h2, hb⟩ := hrel
  have HX0r := hid h0
  have HX2r := hid h2
  have HB := hid hb
  obtain ⟨z, hz⟩ : ∃ z, z = zoneV kind c (L.take q) := ⟨_, rfl⟩
  have HZ := hid (show (OkV w z.lo ∧ z.lo.1.b.length <= 1000000) ∧ (OkV w z.hi ∧ z.hi.1.b.length <= 1000000) ∧ 0 <= z.n ∧ z.n <= 100000 from hz ▸ HZA.out q)
  have HZE := hid hz
  rw [<- hz] at HX2r
  clear h0 h2 hb hz
  by_cases hlt : q < n
  ·obtain ⟨l, hl⟩ : ∃ l, L[q]? = some l := ⟨_, Qb (by rw [<- HN.out]; exact hlt)⟩
   have HS := hid (zOe (kind := kind) (c := c) hl)
   obtain ⟨b, off, sa, sc, rfl, hcell, hrp⟩ := (HR.out.kept HB.out).at hl
   obtain ⟨m, hm⟩ : ∃ m, m = l.length := ⟨_, rfl⟩
   have hm6 : m <= 1000 := by rw [hm]; exact (HSM.out l (Qf hl)).1
   rw [<- hm] at hcell hrp
   have HM := hid hm
   clear hl hm
   by_cases hcm : c < m
   ·have hd : decide ((c : Int) < (m : Int)) = true := by rw [decide_eq_true_eq]; omega
    have hdn : decide (c < m) = true := by rw [decide_eq_true_eq]; omega
    have hci : (c : Int) < (m : Int) := by omega
    have hc0 : (0 : Int) <= (c : Int) := by omega
    obtain ⟨t, ht⟩ : ∃ t, l[c]? = some t := ⟨_, Qb (by rw [<- HM.out]; exact hcm)⟩
    have HST := hid (show stepV c z l = widen z t by unfold stepV; rw [ht])
    obtain ⟨b2, off2, rfl, p0, p1, p2, p3, ok⟩ := hrp.at ht
    obtain ⟨ta, tc, hts⟩ := zAz ok.1
    have HWD := hid fun W (h : Below wr.heap.size wr W) => zMr z t W ⟨HZ.out.1.1.kept (zAa HB.out h), HZ.out.2.1.1.kept (zAa HB.out h)⟩ (ok.kept h) HZ.out.2.2.1 (by have := HZ.out.2.2.2; omega)
    obtain ⟨zw, hzw⟩ : ∃ zw, zw = widen z t := ⟨_, rfl⟩
    have hzs : (∃ a k, zw.lo.2 = .slice a zw.lo.1.b.length k) ∧ ∃ a k, zw.hi.2 = .slice a zw.hi.1.b.length k := by
     have h := zQ4 (z := z) (v := t) ⟨HZ.out.1.1.kept HB.out, HZ.out.2.1.1.kept HB.out⟩ ok
     rw [<- hzw] at h
     exact ⟨zAz h.1.1, zAz h.2.1⟩
    rw [<- hzw] at HWD HST
    obtain ⟨sla, slc, hsl⟩ := zAz HZ.out.1.1.1
    obtain ⟨sha, shc, hsh⟩ := zAz HZ.out.2.1.1.1
    obtain ⟨zn, ⟨⟨lu, lk, ln, lb⟩, ls⟩, ⟨⟨hu, hk, hn, hb⟩, hs⟩⟩ := z
    obtain ⟨⟨tu, tk, tn, tb⟩, ts⟩ := t
    simp only at hsl hsh hts p0 p1 p2 p3
    subst hsl hsh hts
    obtain ⟨wn, ⟨⟨xu, xk, xn, xb⟩, xs⟩, ⟨⟨yu, yk, yn, yb⟩, ys⟩⟩ := zw
    obtain ⟨⟨xa, xc, hxs⟩, ⟨ya, yc, hys⟩⟩ := hzs
    simp only at hxs hys
    subst hxs hys
    have h2 := HX2r.out
    unfold cellsZ cellsV at h2
    simp only [Qd, Qe] at h2
    have HX2q := hid h2
    unfold cellsZ cellsV aggV at HWD
    simp only [Qd, Qe] at HWD
    have zzc0 : wr.cell? ⟨B2, 0, none⟩ = some (.int .i64 zn) := (by rw [Qh wr (B2) 0 _ _ _ h2]; rfl)
    have zzf0 : wr.frozen? ⟨B2, 0, none⟩ = false := Qi wr (B2) 0 _ _ h2
    have zzc1 : wr.cell? ⟨B2, 1, none⟩ = some (.bool lu) := (by rw [Qh wr (B2) 1 _ _ _ h2]; rfl)
    have zzf1 : wr.frozen? ⟨B2, 1, none⟩ = false := Qi wr (B2) 1 _ _ h2
    have zzc2 : wr.cell? ⟨B2, 2, none⟩ = some (.int .i64 lk) := (by rw [Qh wr (B2) 2 _ _ _ h2]; rfl)
    have zzf2 : wr.frozen? ⟨B2, 2, none⟩ = false := Qi wr (B2) 2 _ _ h2
    have zzc3 : wr.cell? ⟨B2, 3, none⟩ = some (.int .i64 ln) := (by rw [Qh wr (B2) 3 _ _ _ h2]; rfl)
    have zzf3 : wr.frozen? ⟨B2, 3, none⟩ = false := Qi wr (B2) 3 _ _ h2
    have zzc4 : wr.cell? ⟨B2, 4, none⟩ = some (.slice sla lb.length slc) := (by rw [Qh wr (B2) 4 _ _ _ h2]; rfl)
    have zzf4 : wr.frozen? ⟨B2, 4, none⟩ = false := Qi wr (B2) 4 _ _ h2
    have zzc5 : wr.cell? ⟨B2, 5, none⟩ = some (.bool hu) := (by rw [Qh wr (B2) 5 _ _ _ h2]; rfl)
    have zzf5 : wr.frozen? ⟨B2, 5, none⟩ = false := Qi wr (B2) 5 _ _ h2
    have zzc6 : wr.cell? ⟨B2, 6, none⟩ = some (.int .i64 hk) := (by rw [Qh wr (B2) 6 _ _ _ h2]; rfl)
    have zzf6 : wr.frozen? ⟨B2, 6, none⟩ = false := Qi wr (B2) 6 _ _ h2
    have zzc7 : wr.cell? ⟨B2, 7, none⟩ = some (.int .i64 hn) := (by rw [Qh wr (B2) 7 _ _ _ h2]; rfl)
    have zzf7 : wr.frozen? ⟨B2, 7, none⟩ = false := Qi wr (B2) 7 _ _ h2
    have zzc8 : wr.cell? ⟨B2, 8, none⟩ = some (.slice sha hb.length shc) := (by rw [Qh wr (B2) 8 _ _ _ h2]; rfl)
    have zzf8 : wr.frozen? ⟨B2, 8, none⟩ = false := Qi wr (B2) 8 _ _ h2
    clear hzw ht hrp ok h2 HX2r HX2 HX0
    go_upto_region 7 with (fail)
    go_region_law (go_simp; go_at_call 95; refine (HWD.out _ ?_).mono ?_; (exact zAm _ _); rintro e w2 ⟨rfl, hb2⟩; have HB2R := hid (show Below wr.heap.size wr w2 from (zAm _ wr).trans hb2); have h2 := (HB2R.out.block B2 (Qa.1 HX2q.out).1).trans HX2q.out; have wwc0 : w2.cell? ⟨B2, 0, none⟩ = some (.int .i64 zn) := (by rw [Qh w2 (B2) 0 _ _ _ h2]; rfl); have wwf0 : w2.frozen? ⟨B2, 0, none⟩ = false := Qi w2 (B2) 0 _ _ h2; have wwc1 : w2.cell? ⟨B2, 1, none⟩ = some (.bool lu) := (by rw [Qh w2 (B2) 1 _ _ _ h2]; rfl); have wwf1 : w2.frozen? ⟨B2, 1, none⟩ = false := Qi w2 (B2) 1 _ _ h2; have wwc2 : w2.cell? ⟨B2, 2, none⟩ = some (.int .i64 lk) := (by rw [Qh w2 (B2) 2 _ _ _ h2]; rfl); have wwf2 : w2.frozen? ⟨B2, 2, none⟩ = false := Qi w2 (B2) 2 _ _ h2; have wwc3 : w2.cell? ⟨B2, 3, none⟩ = some (.int .i64 ln) := (by rw [Qh w2 (B2) 3 _ _ _ h2]; rfl); have wwf3 : w2.frozen? ⟨B2, 3, none⟩ = false := Qi w2 (B2) 3 _ _ h2; have wwc4 : w2.cell? ⟨B2, 4, none⟩ = some (.slice sla lb.length slc) := (by rw [Qh w2 (B2) 4 _ _ _ h2]; rfl); have wwf4 : w2.frozen? ⟨B2, 4, none⟩ = false := Qi w2 (B2) 4 _ _ h2; have wwc5 : w2.cell? ⟨B2, 5, none⟩ = some (.bool hu) := (by rw [Qh w2 (B2) 5 _ _ _ h2]; rfl); have wwf5 : w2.frozen? ⟨B2, 5, none⟩ = false := Qi w2 (B2) 5 _ _ h2; have wwc6 : w2.cell? ⟨B2, 6, none⟩ = some (.int .i64 hk) := (by rw [Qh w2 (B2) 6 _ _ _ h2]; rfl); have wwf6 : w2.frozen? ⟨B2, 6, none⟩ = false := Qi w2 (B2) 6 _ _ h2; have wwc7 : w2.cell? ⟨B2, 7, none⟩ = some (.int .i64 hn) := (by rw [Qh w2 (B2) 7 _ _ _ h2]; rfl); have wwf7 : w2.frozen? ⟨B2, 7, none⟩ = false := Qi w2 (B2) 7 _ _ h2; have wwc8 : w2.cell? ⟨B2, 8, none⟩ = some (.slice sha hb.length shc) := (by rw [Qh w2 (B2) 8 _ _ _ h2]; rfl); have wwf8 : w2.frozen? ⟨B2, 8, none⟩ = false := Qi w2 (B2) 8 _ _ h2; have HX2w := hid h2; clear hb2 h2)
    all_goals
     go_wp2_with fail
     go_roundw
     case rel =>
      have hne : B0 ≠ B2 := by have := HP2.out; omega
      refine ⟨q + 1, by omega, by go_num, (zIe _ _ _ _ _ _ _ _ _ _ _ _ hne).trans ((HB2R.out.block B0 (Qa.1 HX0r.out).1).trans HX0r.out), ?_, ?_⟩
      ·rw [HS.out, <- HZE.out, HST.out]
       exact zD7 HX2w.out
      ·exact zRv (zAa HB.out HB2R.out) (by have h1 := HP0.out; have h2 := HP2.out; omega) _ _ _ _ _ _ _ _ _
     case measure => simp [intOf]; omega
   ·have hd : decide ((c : Int) < (m : Int)) = false := by rw [decide_eq_false_iff_not]; omega
    have hdn : decide (c < m) = false := by rw [decide_eq_false_iff_not]; omega
    have HST := hid (show stepV c z l = z by unfold stepV; rw [List.getElem?_eq_none (by rw [<- HM.out]; omega)])
    clear hrp
    go_wp2_with fail
    go_roundw
    case rel => exact ⟨q + 1, by omega, by go_num, HX0r.out, by rw [HS.out, <- HZE.out, HST.out]; exact HX2r.out, HB.out⟩
    case measure => simp [intOf]; omega
  ·have hqn : q = n := by omega
   have htk : L.take q = L := List.take_of_length_le (by rw [<- HN.out]; omega)
   rw [htk] at HZE
   have HV1 := hid fun W (h : Below w.heap.size w W) => zK5 z.lo W (HZ.out.1.1.kept h) HZ.out.1.2
   have HV2 := hid fun W (h : Below w.heap.size w W) => zK5 z.hi W (HZ.out.2.1.1.kept h) HZ.out.2.1.2
   obtain ⟨sla, slc, hsl⟩ := zAz HZ.out.1.1.1
   obtain ⟨sha, shc, hsh⟩ := zAz HZ.out.2.1.1.1
   have HZQ := hid HZ.out
   clear HZ
   obtain ⟨zn, ⟨⟨lu, lk, ln, lb⟩, ls⟩, ⟨⟨hu, hk, hn, hb⟩, hs⟩⟩ := z
   simp only at hsl hsh
   subst hsl hsh
   have h2 := HX2r.out
   unfold cellsZ cellsV at h2
   simp only [Qd, Qe] at h2
   have HX2q := hid h2
   unfold aggV at HV1 HV2
   simp only at HV1 HV2
   have rrc0 : wr.cell? ⟨B2, 0, none⟩ = some (.int .i64 zn) := (by rw [Qh wr (B2) 0 _ _ _ h2]; rfl)
   have rrf0 : wr.frozen? ⟨B2, 0, none⟩ = false := Qi wr (B2) 0 _ _ h2
   have rrc1 : wr.cell? ⟨B2, 1, none⟩ = some (.bool lu) := (by rw [Qh wr (B2) 1 _ _ _ h2]; rfl)
   have rrf1 : wr.frozen? ⟨B2, 1, none⟩ = false := Qi wr (B2) 1 _ _ h2
   have rrc2 : wr.cell? ⟨B2, 2, none⟩ = some (.int .i64 lk) := (by rw [Qh wr (B2) 2 _ _ _ h2]; rfl)
   have rrf2 : wr.frozen? ⟨B2, 2, none⟩ = false := Qi wr (B2) 2 _ _ h2
   have rrc3 : wr.cell? ⟨B2, 3, none⟩ = some (.int .i64 ln) := (by rw [Qh wr (B2) 3 _ _ _ h2]; rfl)
   have rrf3 : wr.frozen? ⟨B2, 3, none⟩ = false := Qi wr (B2) 3 _ _ h2
   have rrc4 : wr.cell? ⟨B2, 4, none⟩ = some (.slice sla lb.length slc) := (by rw [Qh wr (B2) 4 _ _ _ h2]; rfl)
   have rrf4 : wr.frozen? ⟨B2, 4, none⟩ = false := Qi wr (B2) 4 _ _ h2
   have rrc5 : wr.cell? ⟨B2, 5, none⟩ = some (.bool hu) := (by rw [Qh wr (B2) 5 _ _ _ h2]; rfl)
   have rrf5 : wr.frozen? ⟨B2, 5, none⟩ = false := Qi wr (B2) 5 _ _ h2
   have rrc6 : wr.cell? ⟨B2, 6, none⟩ = some (.int .i64 hk) := (by rw [Qh wr (B2) 6 _ _ _ h2]; rfl)
   have rrf6 : wr.frozen? ⟨B2, 6, none⟩ = false := Qi wr (B2) 6 _ _ h2
   have rrc7 : wr.cell? ⟨B2, 7, none⟩ = some (.int .i64 hn) := (by rw [Qh wr (B2) 7 _ _ _ h2]; rfl)
   have rrf7 : wr.frozen? ⟨B2, 7, none⟩ = false := Qi wr (B2) 7 _ _ h2
   have rrc8 : wr.cell? ⟨B2, 8, none⟩ = some (.slice sha hb.length shc) := (by rw [Qh wr (B2) 8 _ _ _ h2]; rfl)
   have rrf8 : wr.frozen? ⟨B2, 8, none⟩ = false := Qi wr (B2) 8 _ _ h2
   clear h2 hqn htk HX2r
   go_wp2_with fail
   refine (HV1.out wr HB.out).mono ?_
   rintro e w2 ⟨s1, rfl, hs1, hb2⟩
   obtain ⟨xa, xc, rfl⟩ := zDb hs1
   have HB2 := hid (zAa HB.out hb2)
   have HS1 := hid hs1
   have h2 := (hb2.block B2 (Qa.1 HX2q.out).1).trans HX2q.out
   have h0 := (hb2.block B0 (Qa.1 HX0r.out).1).trans HX0r.out
   have HQ2 := hid h2
   have HQ0 := hid h0
   clear hs1 hb2 rrc0 rrf0 rrc1 rrf1 rrc2 rrf2 rrc3 rrf3 rrc4 rrf4 rrc5 rrf5 rrc6 rrf6 rrc7 rrf7 rrc8 rrf8
   have ssc0 : w2.cell? ⟨B2, 0, none⟩ = some (.int .i64 zn) := (by rw [Qh w2 (B2) 0 _ _ _ h2]; rfl)
   have ssf0 : w2.frozen? ⟨B2, 0, none⟩ = false := Qi w2 (B2) 0 _ _ h2
   have ssc1 : w2.cell? ⟨B2, 1, none⟩ = some (.bool lu) := (by rw [Qh w2 (B2) 1 _ _ _ h2]; rfl)
   have ssf1 : w2.frozen? ⟨B2, 1, none⟩ = false := Qi w2 (B2) 1 _ _ h2
   have ssc2 : w2.cell? ⟨B2, 2, none⟩ = some (.int .i64 lk) := (by rw [Qh w2 (B2) 2 _ _ _ h2]; rfl)
   have ssf2 : w2.frozen? ⟨B2, 2, none⟩ = false := Qi w2 (B2) 2 _ _ h2
   have ssc3 : w2.cell? ⟨B2, 3, none⟩ = some (.int .i64 ln) := (by rw [Qh w2 (B2) 3 _ _ _ h2]; rfl)
   have ssf3 : w2.frozen? ⟨B2, 3, none⟩ = false := Qi w2 (B2) 3 _ _ h2
   have ssc4 : w2.cell? ⟨B2, 4, none⟩ = some (.slice sla lb.length slc) := (by rw [Qh w2 (B2) 4 _ _ _ h2]; rfl)
   have ssf4 : w2.frozen? ⟨B2, 4, none⟩ = false := Qi w2 (B2) 4 _ _ h2
   have ssc5 : w2.cell? ⟨B2, 5, none⟩ = some (.bool hu) := (by rw [Qh w2 (B2) 5 _ _ _ h2]; rfl)
   have ssf5 : w2.frozen? ⟨B2, 5, none⟩ = false := Qi w2 (B2) 5 _ _ h2
   have ssc6 : w2.cell? ⟨B2, 6, none⟩ = some (.int .i64 hk) := (by rw [Qh w2 (B2) 6 _ _ _ h2]; rfl)
   have ssf6 : w2.frozen? ⟨B2, 6, none⟩ = false := Qi w2 (B2) 6 _ _ h2
   have ssc7 : w2.cell? ⟨B2, 7, none⟩ = some (.int .i64 hn) := (by rw [Qh w2 (B2) 7 _ _ _ h2]; rfl)
   have ssf7 : w2.frozen? ⟨B2, 7, none⟩ = false := Qi w2 (B2) 7 _ _ h2
   have ssc8 : w2.cell? ⟨B2, 8, none⟩ = some (.slice sha hb.length shc) := (by rw [Qh w2 (B2) 8 _ _ _ h2]; rfl)
   have ssf8 : w2.frozen? ⟨B2, 8, none⟩ = false := Qi w2 (B2) 8 _ _ h2
   clear h2 h0
   go_upto_region 10 with (fail)
   obtain ⟨W3, hW3⟩ : ∃ W3 : World, W3 = ((((w2.setCell ⟨B2, 1, none⟩ (.bool lu)).setCell ⟨B2, 2, none⟩ (.int .i64 lk)).setCell ⟨B2, 3, none⟩ (.int .i64 ln)).setCell ⟨B2, 4, none⟩ (.slice xa lb.length xc)) := ⟨_, rfl⟩
   rw [<- hW3]
   have h2 : W3.heap[B2]? = some (.cells #[.int .i64 zn, .bool lu, .int .i64 lk, .int .i64 ln, .slice xa lb.length xc, .bool hu, .int .i64 hk, .int .i64 hn, .slice sha hb.length shc] 103 (0, 0)) := by rw [hW3]; exact zJc HQ2.out
   have h0 : W3.heap[B0]? = some (.cells #[.int .i64 0, .bool false, .int .i64 0, .int .i64 0, .slice none 0 0, .bool false, .int .i64 0, .int .i64 0, .slice none 0 0] 103 (0, 0)) := by rw [hW3]; exact (zCg _ _ _ _ _ _ _ _ _ _ _ (by have := HP2.out; omega)).trans HQ0.out
   have HB3 := hid (show Below w.heap.size w W3 by rw [hW3]; exact zHq HB2.out (by have h1 := HP0.out; have h2 := HP2.out; omega) _ _ _ _ _ _ _ _)
   have HS3 := hid (show RdB wr.heap.size W3 (.slice xa lb.length xc) lb from HS1.out.above (fun x h1 h2 => by rw [hW3]; exact zCg _ _ _ _ _ _ _ _ _ _ _ (by have := (Qa.1 HX2q.out).1; omega)) (Qg _))
   have HQ3 := hid h2
   have HQ03 := hid h0
   clear hW3 ssc0 ssf0 ssc1 ssf1 ssc2 ssf2 ssc3 ssf3 ssc4 ssf4 ssc5 ssf5 ssc6 ssf6 ssc7 ssf7 ssc8 ssf8
   have ttc0 : W3.cell? ⟨B2, 0, none⟩ = some (.int .i64 zn) := (by rw [Qh W3 (B2) 0 _ _ _ h2]; rfl)
   have ttf0 : W3.frozen? ⟨B2, 0, none⟩ = false := Qi W3 (B2) 0 _ _ h2
   have ttc1 : W3.cell? ⟨B2, 1, none⟩ = some (.bool lu) := (by rw [Qh W3 (B2) 1 _ _ _ h2]; rfl)
   have ttf1 : W3.frozen? ⟨B2, 1, none⟩ = false := Qi W3 (B2) 1 _ _ h2
   have ttc2 : W3.cell? ⟨B2, 2, none⟩ = some (.int .i64 lk) := (by rw [Qh W3 (B2) 2 _ _ _ h2]; rfl)
   have ttf2 : W3.frozen? ⟨B2, 2, none⟩ = false := Qi W3 (B2) 2 _ _ h2
   have ttc3 : W3.cell? ⟨B2, 3, none⟩ = some (.int .i64 ln) := (by rw [Qh W3 (B2) 3 _ _ _ h2]; rfl)
   have ttf3 : W3.frozen? ⟨B2, 3, none⟩ = false := Qi W3 (B2) 3 _ _ h2
   have ttc4 : W3.cell? ⟨B2, 4, none⟩ = some (.slice xa lb.length xc) := (by rw [Qh W3 (B2) 4 _ _ _ h2]; rfl)
   have ttf4 : W3.frozen? ⟨B2, 4, none⟩ = false := Qi W3 (B2) 4 _ _ h2
   have ttc5 : W3.cell? ⟨B2, 5, none⟩ = some (.bool hu) := (by rw [Qh W3 (B2) 5 _ _ _ h2]; rfl)
   have ttf5 : W3.frozen? ⟨B2, 5, none⟩ = false := Qi W3 (B2) 5 _ _ h2
   have ttc6 : W3.cell? ⟨B2, 6, none⟩ = some (.int .i64 hk) := (by rw [Qh W3 (B2) 6 _ _ _ h2]; rfl)
   have ttf6 : W3.frozen? ⟨B2, 6, none⟩ = false := Qi W3 (B2) 6 _ _ h2
   have ttc7 : W3.cell? ⟨B2, 7, none⟩ = some (.int .i64 hn) := (by rw [Qh W3 (B2) 7 _ _ _ h2]; rfl)
   have ttf7 : W3.frozen? ⟨B2, 7, none⟩ = false := Qi W3 (B2) 7 _ _ h2
   have ttc8 : W3.cell? ⟨B2, 8, none⟩ = some (.slice sha hb.length shc) := (by rw [Qh W3 (B2) 8 _ _ _ h2]; rfl)
   have ttf8 : W3.frozen? ⟨B2, 8, none⟩ = false := Qi W3 (B2) 8 _ _ h2
   clear h2 h0
   go_wp2_with fail
   refine (HV2.out W3 HB3.out).mono ?_
   rintro e w4 ⟨s2, rfl, hs2, hb4⟩
   obtain ⟨ya, yc, rfl⟩ := zDb hs2
   have HB4 := hid (zAa HB3.out hb4)
   have HS2 := hid hs2
   have HS4 := hid (show RdB wr.heap.size w4 (.slice xa lb.length xc) lb from HS3.out.above (zFm hb4) (Qg _))
   have HSZ := hid hb4.size
   have h2 := (hb4.block B2 (Qa.1 HQ3.out).1).trans HQ3.out
   have h0 := (hb4.block B0 (Qa.1 HQ03.out).1).trans HQ03.out
   have HQ4 := hid h2
   have HQ04 := hid h0
   clear hs2 hb4 ttc0 ttf0 ttc1 ttf1 ttc2 ttf2 ttc3 ttf3 ttc4 ttf4 ttc5 ttf5 ttc6 ttf6 ttc7 ttf7 ttc8 ttf8
   have uuc0 : w4.cell? ⟨B2, 0, none⟩ = some (.int .i64 zn) := (by rw [Qh w4 (B2) 0 _ _ _ h2]; rfl)
   have uuf0 : w4.frozen? ⟨B2, 0, none⟩ = false := Qi w4 (B2) 0 _ _ h2
   have uuc1 : w4.cell? ⟨B2, 1, none⟩ = some (.bool lu) := (by rw [Qh w4 (B2) 1 _ _ _ h2]; rfl)
   have uuf1 : w4.frozen? ⟨B2, 1, none⟩ = false := Qi w4 (B2) 1 _ _ h2
   have uuc2 : w4.cell? ⟨B2, 2, none⟩ = some (.int .i64 lk) := (by rw [Qh w4 (B2) 2 _ _ _ h2]; rfl)
   have uuf2 : w4.frozen? ⟨B2, 2, none⟩ = false := Qi w4 (B2) 2 _ _ h2
   have uuc3 : w4.cell? ⟨B2, 3, none⟩ = some (.int .i64 ln) := (by rw [Qh w4 (B2) 3 _ _ _ h2]; rfl)
   have uuf3 : w4.frozen? ⟨B2, 3, none⟩ = false := Qi w4 (B2) 3 _ _ h2
   have uuc4 : w4.cell? ⟨B2, 4, none⟩ = some (.slice xa lb.length xc) := (by rw [Qh w4 (B2) 4 _ _ _ h2]; rfl)
   have uuf4 : w4.frozen? ⟨B2, 4, none⟩ = false := Qi w4 (B2) 4 _ _ h2
   have uuc5 : w4.cell? ⟨B2, 5, none⟩ = some (.bool hu) := (by rw [Qh w4 (B2) 5 _ _ _ h2]; rfl)
   have uuf5 : w4.frozen? ⟨B2, 5, none⟩ = false := Qi w4 (B2) 5 _ _ h2
   have uuc6 : w4.cell? ⟨B2, 6, none⟩ = some (.int .i64 hk) := (by rw [Qh w4 (B2) 6 _ _ _ h2]; rfl)
   have uuf6 : w4.frozen? ⟨B2, 6, none⟩ = false := Qi w4 (B2) 6 _ _ h2
   have uuc7 : w4.cell? ⟨B2, 7, none⟩ = some (.int .i64 hn) := (by rw [Qh w4 (B2) 7 _ _ _ h2]; rfl)
   have uuf7 : w4.frozen? ⟨B2, 7, none⟩ = false := Qi w4 (B2) 7 _ _ h2
   have uuc8 : w4.cell? ⟨B2, 8, none⟩ = some (.slice sha hb.length shc) := (by rw [Qh w4 (B2) 8 _ _ _ h2]; rfl)
   have uuf8 : w4.frozen? ⟨B2, 8, none⟩ = false := Qi w4 (B2) 8 _ _ h2
   have vvc0 : w4.cell? ⟨B0, 0, none⟩ = some (.int .i64 0) := (by rw [Qh w4 (B0) 0 _ _ _ h0]; rfl)
   have vvf0 : w4.frozen? ⟨B0, 0, none⟩ = false := Qi w4 (B0) 0 _ _ h0
   have vvc1 : w4.cell? ⟨B0, 1, none⟩ = some (.bool false) := (by rw [Qh w4 (B0) 1 _ _ _ h0]; rfl)
   have vvf1 : w4.frozen? ⟨B0, 1, none⟩ = false := Qi w4 (B0) 1 _ _ h0
   have vvc2 : w4.cell? ⟨B0, 2, none⟩ = some (.int .i64 0) := (by rw [Qh w4 (B0) 2 _ _ _ h0]; rfl)
   have vvf2 : w4.frozen? ⟨B0, 2, none⟩ = false := Qi w4 (B0) 2 _ _ h0
   have vvc3 : w4.cell? ⟨B0, 3, none⟩ = some (.int .i64 0) := (by rw [Qh w4 (B0) 3 _ _ _ h0]; rfl)
   have vvf3 : w4.frozen? ⟨B0, 3, none⟩ = false := Qi w4 (B0) 3 _ _ h0
   have vvc4 : w4.cell? ⟨B0, 4, none⟩ = some (.slice none 0 0) := (by rw [Qh w4 (B0) 4 _ _ _ h0]; rfl)
   have vvf4 : w4.frozen? ⟨B0, 4, none⟩ = false := Qi w4 (B0) 4 _ _ h0
   have vvc5 : w4.cell? ⟨B0, 5, none⟩ = some (.bool false) := (by rw [Qh w4 (B0) 5 _ _ _ h0]; rfl)
   have vvf5 : w4.frozen? ⟨B0, 5, none⟩ = false := Qi w4 (B0) 5 _ _ h0
   have vvc6 : w4.cell? ⟨B0, 6, none⟩ = some (.int .i64 0) := (by rw [Qh w4 (B0) 6 _ _ _ h0]; rfl)
   have vvf6 : w4.frozen? ⟨B0, 6, none⟩ = false := Qi w4 (B0) 6 _ _ h0
   have vvc7 : w4.cell? ⟨B0, 7, none⟩ = some (.int .i64 0) := (by rw [Qh w4 (B0) 7 _ _ _ h0]; rfl)
   have vvf7 : w4.frozen? ⟨B0, 7, none⟩ = false := Qi w4 (B0) 7 _ _ h0
   have vvc8 : w4.cell? ⟨B0, 8, none⟩ = some (.slice none 0 0) := (by rw [Qh w4 (B0) 8 _ _ _ h0]; rfl)
   have vvf8 : w4.frozen? ⟨B0, 8, none⟩ = false := Qi w4 (B0) 8 _ _ h0
   clear h2 h0
   have hne1 : ¬ B0 = B2 := by have h1 := HP2.out; omega
   have hne2 : ¬ B2 = B0 := by have h1 := HP2.out; omega
   go_wp2_with fail
   have hlt3 : B2 < wr.heap.size := (Qa.1 HX2q.out).1
   have hlt4 : B2 < W3.heap.size := (Qa.1 HQ3.out).1
   have hw3 : w.heap.size <= wr.heap.size := HB.out.size
   have hw4 : w.heap.size <= W3.heap.size := HB3.out.size
   have hp0 := HP0.out
   have hp2 := HP2.out
   refine bodyPost_ret (results_cell_row rfl _ _ B0 _ _ (0, 0) _ rfl (zD7 ((zCg _ _ _ _ _ _ _ _ _ _ _ (by omega)).trans HQ04.out)) Tryz.underlying103 rfl zFf) rfl ?_
   rw [<- HZE.out]
   refine ⟨.slice xa lb.length xc, .slice ya hb.length yc, rfl, HS4.out.above ?_ hw3, HS2.out.above ?_ hw4, ?_⟩
   ·exact fun x h1 h2 => (zIe _ _ _ _ _ _ _ _ _ _ _ _ (by omega)).trans (zCg _ _ _ _ _ _ _ _ _ _ _ (by omega))
   ·exact fun x h1 h2 => (zIe _ _ _ _ _ _ _ _ _ _ _ _ (by omega)).trans (zCg _ _ _ _ _ _ _ _ _ _ _ (by omega))
   ·exact zRv (zHq HB4.out (by omega) _ _ _ _ _ _ _ _) (by omega) _ _ _ _ _ _ _ _ _
end Go.Proofs.YtmpgnjhgegbdkaaGreat
