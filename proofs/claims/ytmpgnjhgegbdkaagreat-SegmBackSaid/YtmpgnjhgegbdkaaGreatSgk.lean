import Derived.Test.YtmpgnjhgegbdkaaGreatSgj
import Derived.Test.YtmpgnjhgegbdkaaGreatZmay
import Derived.Test.YtmpgnjhgegbdkaaGreatLseven
set_option linter.unusedVariables false
set_option linter.unusedSimpArgs false
set_option maxRecDepth 100000
set_option maxHeartbeats 8000000
open Go.Lib (hid)
namespace Go.Proofs.YtmpgnjhgegbdkaaGreat
open Go.RowKit
open _root_.Array renaming getElem?_eq_some_iff -> Qa
open _root_.List renaming length_map -> Qb, range -> Qc, length -> Qd, mem_singleton -> Qe
open _root_.Nat renaming le_trans -> Qf
open Go renaming cell_of_row -> Qg
theorem zJw {w : World} {p : Pt} {cs : List Value} (h : RdT1 w p cs) : ∃ (k c o vk vn : Int) (u : Bool) (a : Option Addr) (n m : Nat) (a2 : Option Addr) (n2 m2 : Nat), cs = [.int .i64 k, .int .i64 c, .int .i64 o, .bool u, .int .i64 vk, .int .i64 vn, .slice a n m, .slice a2 n2 m2] := by
 obtain ⟨k, c, o, v, l⟩ := p
 unfold RdT1 at h
 obtain ⟨s, ls, css, rfl, h1, h2, _⟩ := h
 obtain ⟨a, m, h3⟩ := zAf h1.1
 obtain ⟨a2, m2, h4⟩ := zAk h2
 simp only at h3
 subst h3 h4
 exact ⟨_, _, _, _, _, _, _, _, _, _, _, _, rfl⟩
theorem zI9 (p : Pt) (cs : List Value) (zv : Value) (zs : List Zv) (n : Nat) (w : World) (hr : RdT1 w p cs) (hz : RdZV w zv zs)
  (hm : ∀ w', Below w.heap.size w w' -> Calls Tryz.prog 61 #[.agg cs.toArray, zv, .int .i64 (n : Int)] w' fun e w'' => e = .returned (.bool (mayT p (zs.map Zv.t) (n : Int))) ∧ Below w'.heap.size w' w'') :
  Calls Tryz.prog 30 #[.agg #[.int .i64 (n : Int), zv], .agg cs.toArray] w fun e w' => e = .returned (.bool (mayT p (zs.map Zv.t) (n : Int))) ∧ Below w.heap.size w w' := by
 have HM := hid hm
 obtain ⟨za, zc, rfl⟩ := zCs hz
 obtain ⟨pk, pc, po, pvk, pvn, pu, psa, psn, psc, pla, pln, plc, hcs⟩ := zJw hr
 subst hcs
 obtain ⟨zn, hzn⟩ : ∃ zn, zn = zs.length := ⟨_, rfl⟩
 obtain ⟨b, hb⟩ : ∃ b, b = mayT p (zs.map Zv.t) (n : Int) := ⟨_, rfl⟩
 rw [<- hzn, <- hb] at HM
 rw [<- hzn, <- hb]
 clear hr hz hzn hb hm
 go_enter Tryz.func30, Tryz.ntmps30
 go_upto_region 1 with (fail)
 obtain ⟨W, hW⟩ : ∃ W : World, W = (w.alloc (.cells #[.int .i64 (n : Int), .slice za zn zc] 39)).alloc (.cells #[.int .i64 pk, .int .i64 pc, .int .i64 po, .bool pu, .int .i64 pvk, .int .i64 pvn, .slice psa psn psc, .slice pla pln plc] 65) := ⟨_, rfl⟩
 rw [<- hW]
 have hm0 : W.heap[w.heap.size]? = some (.cells #[.int .i64 (n : Int), .slice za zn zc] 39 (0, 0)) := by rw [hW]; exact (heap_alloc_old _ _ (by simp)).trans (heap_alloc_new w _)
 have hp0 : W.heap[w.heap.size + 1]? = some (.cells #[.int .i64 pk, .int .i64 pc, .int .i64 po, .bool pu, .int .i64 pvk, .int .i64 pvn, .slice psa psn psc, .slice pla pln plc] 65 (0, 0)) := by rw [hW]; exact zHk w _ _
 have HB := hid (show Below w.heap.size w W by rw [hW]; exact zAq w _ _)
 obtain ⟨MB, hMB⟩ : ∃ MB, MB = w.heap.size := ⟨_, rfl⟩
 obtain ⟨PB, hPB⟩ : ∃ PB, PB = MB + 1 := ⟨_, rfl⟩
 rw [<- hMB] at hm0 hp0 ⊢
 rw [<- hPB] at hp0 ⊢
 have m0 : W.cell? ⟨MB, 0, none⟩ = some (.int .i64 (n : Int)) := by rw [Qg W MB 0 _ _ _ hm0]; rfl
 have m1 : W.cell? ⟨MB, 1, none⟩ = some (.slice za zn zc) := by rw [Qg W MB 1 _ _ _ hm0]; rfl
 have p0 : W.cell? ⟨PB, 0, none⟩ = some (.int .i64 pk) := (by rw [Qg W PB 0 _ _ _ hp0]; rfl)
 have p1 : W.cell? ⟨PB, 1, none⟩ = some (.int .i64 pc) := (by rw [Qg W PB 1 _ _ _ hp0]; rfl)
 have p2 : W.cell? ⟨PB, 2, none⟩ = some (.int .i64 po) := (by rw [Qg W PB 2 _ _ _ hp0]; rfl)
 have p3 : W.cell? ⟨PB, 3, none⟩ = some (.bool pu) := (by rw [Qg W PB 3 _ _ _ hp0]; rfl)
 have p4 : W.cell? ⟨PB, 4, none⟩ = some (.int .i64 pvk) := (by rw [Qg W PB 4 _ _ _ hp0]; rfl)
 have p5 : W.cell? ⟨PB, 5, none⟩ = some (.int .i64 pvn) := (by rw [Qg W PB 5 _ _ _ hp0]; rfl)
 have p6 : W.cell? ⟨PB, 6, none⟩ = some (.slice psa psn psc) := (by rw [Qg W PB 6 _ _ _ hp0]; rfl)
 have p7 : W.cell? ⟨PB, 7, none⟩ = some (.slice pla pln plc) := (by rw [Qg W PB 7 _ _ _ hp0]; rfl)
 clear hW hm0 hp0 hMB hPB
 go_wp2_with fail
 refine (HM.out _ HB.out).mono ?_
 rintro e w2 ⟨rfl, hb2⟩
 have HB2 := hid (zAa HB.out hb2)
 clear hb2
 go_wp2_with fail
 go_ret
 exact ⟨rfl, HB2.out⟩
def OwnPl (base : Nat) (w : World) (v : Value) (l : List Nat) : Prop := w.ownsRow base 3 1 v l.length (l.map fun (i : Nat) => Value.int .i64 (i : Int))
theorem zMq (base : Nat) (w : World) : OwnPl base w (.slice none 0 0) [] := World.ownsRow_nil ..
theorem OwnPl.of {base : Nat} {w : World} {v : Value} {n : Nat} {l : List Nat} (h : w.ownsRow base 3 1 v n (l.map fun (i : Nat) => Value.int .i64 (i : Int))) : OwnPl base w v l := by
 have h1 := h.1
 rw [Qb, Nat.mul_one] at h1
 subst h1
 exact h
def pickT (rows : List (List Vc)) (p : Pt) (q : Nat) : List Nat := (Qc q).filter fun i => evalT (rows.getD i []) p == 1
theorem zRb (rows : List (List Vc)) (p : Pt) (q : Nat) : pickT rows p (q + 1) = pickT rows p q ++ (if evalT (rows.getD q []) p = 1 then [q] else []) := by
 unfold pickT
 rw [List.range_succ, List.filter_append]
 rw [List.filter_cons, List.filter_nil]
 by_cases h : evalT (rows.getD q []) p = 1
 ·rw [if_pos h, if_pos (by rw [h]; rfl)]
 ·rw [if_neg h, if_neg (by rw [beq_iff_eq]; exact h)]
theorem zS9 (rows : List (List Vc)) (p : Pt) (q : Nat) : (pickT rows p q).length <= q := by
 have := List.length_filter_le (fun i => evalT (rows.getD i []) p == 1) (Qc q)
 rw [List.length_range] at this
 exact this
theorem SegAt.blk {K g : Nat} {w : World} {cols : List Co} {rows : List (List Vc)} (h : SegAt K w g cols rows) : ∃ (zs : List Zv) (zv kv tv : Value), w.heap[g]? = some (.cells #[.int .i64 (rows.length : Nat), zv, kv, tv] 43 (0, 0)) ∧ RdZV w zv zs ∧ zs.map Zv.t = zonesT cols rows := by
 obtain ⟨_, _, zs, ps, zv, kv, tv, h3, ⟨h4, h5⟩, _⟩ := h
 exact ⟨zs, zv, kv, tv, h3, ⟨h4.1.rd, fun z hz => (h4.2 z hz).ok⟩, h5⟩
theorem zTa {K0 g : Nat} {cols : List Co} {rows : List (List Vc)} (hrc : RowsC cols rows) (hne : 0 < cols.length) (hm6 : cols.length <= 6) (p : Pt) (cs : List Value) (w : World) (hr : RdT1 w p cs) (h : SegAt K0 w g cols rows)
  (hmy : ∀ w', Below w.heap.size w w' -> ∀ zv zs, RdZV w' zv zs -> zs.length <= 1000 -> Calls Tryz.prog 61 #[.agg cs.toArray, zv, .int .i64 (rows.length : Nat)] w' fun e w'' => e = .returned (.bool (mayT p (zs.map Zv.t) (rows.length : Nat))) ∧ Below w'.heap.size w' w'')
  (hev : ∀ w', Below w.heap.size w w' -> ∀ rv r, RdRow w' rv r -> r.length <= 1000000 -> Calls Tryz.prog 60 #[.agg cs.toArray, rv] w' fun e w'' => e = .returned (.int .i64 (evalT r p)) ∧ Below w'.heap.size w' w'') :
  Calls Tryz.prog 29 #[.pointer (some ⟨g, 0, none⟩), .agg cs.toArray] w fun e w' => ∃ v, e = .returned v ∧ OwnPl w.heap.size w' v (if mayT p (zonesT cols rows) (rows.length : Nat) = true then pickT rows p rows.length else []) ∧ Below w.heap.size w w' := by
 obtain ⟨zs, zv, kv, tv, hx, hzr, hzt⟩ := h.blk
 have hzl : zs.length = cols.length := by have := congrArg Qd hzt; rw [Qb] at this; rw [this]; unfold zonesT; rw [List.length_mapIdx]
 have HMY := hid fun w' (hb : Below w.heap.size w w') => zI9 p cs zv zs rows.length w' (RdT1.kept hb p hr) (hzr.kept hb) fun w'' hb2 => hmy w'' (zAa hb hb2) zv zs (hzr.kept (zAa hb hb2)) (by omega)
 rw [hzt] at HMY
 have HROWS := hid fun w' (hb : Below w.heap.size w w') => zS6 hrc hne hm6 w' (h.kept hb)
 have HEV := hid fun w' (hb : Below w.heap.size w w') (rv : Value) (r : List Vc) (hrr : RdRow w' rv r) (hrl : r.length <= 1000000) => hev w' hb rv r hrr hrl
 obtain ⟨za, zc, rfl⟩ := zCs hzr
 obtain ⟨pk, pc, po, pvk, pvn, pu, psa, psn, psc, pla, pln, plc, hcs⟩ := zJw hr
 subst hcs
 obtain ⟨m, hm⟩ : ∃ m, m = zs.length := ⟨_, rfl⟩
 obtain ⟨n, hnn⟩ : ∃ n, n = rows.length := ⟨_, rfl⟩
 obtain ⟨b, hb⟩ : ∃ b, b = mayT p (zonesT cols rows) (n : Int) := ⟨_, rfl⟩
 rw [<- hnn] at HMY hx
 rw [<- hb, <- hm] at HMY
 rw [<- hm] at hx
 rw [<- hnn, <- hb]
 have HX := hid hx
 have HN := hid hnn
 have HLE := hid hrc.le
 have hn64 : n <= 64 := by rw [hnn]; exact HLE.out
 have HRL := hid (show ∀ r ∈ rows, r.length <= 1000000 from fun r hr => by rw [hrc.len r hr]; omega)
 clear hr h hzr hzt hzl hm hnn hb hx hrc hm6 hmy hev
 go_enter Tryz.func29, Tryz.ntmps29
 go_upto_region 1 with (fail)
 obtain ⟨W, hW⟩ : ∃ W : World, W = w.alloc (.cells #[.int .i64 pk, .int .i64 pc, .int .i64 po, .bool pu, .int .i64 pvk, .int .i64 pvn, .slice psa psn psc, .slice pla pln plc] 65) := ⟨_, rfl⟩
 obtain ⟨PB, hPB⟩ : ∃ PB, PB = w.heap.size := ⟨_, rfl⟩
 rw [<- hW, <- hPB]
 have hp0 : W.heap[PB]? = some (.cells #[.int .i64 pk, .int .i64 pc, .int .i64 po, .bool pu, .int .i64 pvk, .int .i64 pvn, .slice psa psn psc, .slice pla pln plc] 65 (0, 0)) := by rw [hW, hPB]; exact heap_alloc_new w _
 have HB := hid (show Below w.heap.size w W by rw [hW]; exact zAd w _)
 have HP := hid hp0
 have hx := (HB.out.block g (Qa.1 HX.out).1).trans HX.out
 have g0 : W.cell? ⟨g, 0, none⟩ = some (.int .i64 (n : Int)) := by rw [Qg W g 0 _ _ _ hx]; rfl
 have g1 : W.cell? ⟨g, 1, none⟩ = some (.slice za m zc) := by rw [Qg W g 1 _ _ _ hx]; rfl
 have cp0 : W.cell? ⟨PB, 0, none⟩ = some (.int .i64 pk) := (by rw [Qg W PB 0 _ _ _ hp0]; rfl)
 have cp1 : W.cell? ⟨PB, 1, none⟩ = some (.int .i64 pc) := (by rw [Qg W PB 1 _ _ _ hp0]; rfl)
 have cp2 : W.cell? ⟨PB, 2, none⟩ = some (.int .i64 po) := (by rw [Qg W PB 2 _ _ _ hp0]; rfl)
 have cp3 : W.cell? ⟨PB, 3, none⟩ = some (.bool pu) := (by rw [Qg W PB 3 _ _ _ hp0]; rfl)
 have cp4 : W.cell? ⟨PB, 4, none⟩ = some (.int .i64 pvk) := (by rw [Qg W PB 4 _ _ _ hp0]; rfl)
 have cp5 : W.cell? ⟨PB, 5, none⟩ = some (.int .i64 pvn) := (by rw [Qg W PB 5 _ _ _ hp0]; rfl)
 have cp6 : W.cell? ⟨PB, 6, none⟩ = some (.slice psa psn psc) := (by rw [Qg W PB 6 _ _ _ hp0]; rfl)
 have cp7 : W.cell? ⟨PB, 7, none⟩ = some (.slice pla pln plc) := (by rw [Qg W PB 7 _ _ _ hp0]; rfl)
 clear hW hPB hp0 hx
 go_region_law (go_simp; go_at_call 30; refine (HMY.out _ ?_).mono ?_; (exact HB.out.trans (zAe _ _)); rintro e w2 ⟨rfl, hb2⟩; have HB2 := hid (show Below w.heap.size w w2 from zAa HB.out ((zAe _ _).trans hb2)); have HP2 := hid ((((zAe _ W).trans hb2).block PB (Qa.1 HP.out).1).trans HP.out); clear hb2)
 all_goals
  cases b
  ·go_wp2_with fail
   go_ret
   exact ⟨_, rfl, zMq _ _, HB2.out⟩
  ·clear g0 g1 cp0 cp1 cp2 cp3 cp4 cp5 cp6 cp7
   go_wp2_with fail
   refine (HROWS.out _ HB2.out).mono ?_
   rintro e w3 ⟨rv, L, rfl, hL, hra, hb3⟩
   have hrs := hra.rd
   obtain ⟨ra, rc, rfl⟩ := zCr hrs
   have hln : L.length = n := by have := congrArg Qd hL; rw [Qb] at this; rw [this, HN.out]
   rw [hln] at hrs ⊢
   have HLL := hid hL
   have HRS := hid hrs
   have HB3 := hid (zAa HB2.out hb3)
   have HP3 := hid ((hb3.block PB (Qa.1 HP2.out).1).trans HP2.out)
   have HLN := hid hln
   clear hL hra hrs hb3 hln
   go_wp2_with fail
   go_loopw [5, 18] (fun o i wr => ∃ (q k : Nat) (oa : Option Addr) (oc : Nat), q <= n ∧ i = .int .i64 (q : Int) ∧ o = .slice oa k oc ∧ k = (pickT rows p q).length ∧ OwnPl w3.heap.size wr (.slice oa k oc) (pickT rows p q) ∧ Below w3.heap.size w3 wr ∧ Below w.heap.size w wr) (fun _ i _ => n - (intOf i).toNat)
   case atStart => exact ⟨0, 0, none, 0, Nat.zero_le _, rfl, rfl, rfl, zMq _ _, Below.refl _ _, HB3.out⟩
   case round =>
    obtain ⟨q, k, oa, oc, hq, rfl, rfl, hk, hown, hb3r, hb⟩ := hrel
    have HK := hid hk
    have HO := hid hown
    have HBr := hid hb
    have HB3r := hid hb3r
    have hp := (hb3r.block PB (Qa.1 HP3.out).1).trans HP3.out
    have hp' : wr.heap[PB]? = some (.cells #[.int .i64 pk, .int .i64 pc, .int .i64 po, .bool pu, .int .i64 pvk, .int .i64 pvn, .slice psa psn psc, .slice pla pln plc] 65 (0, 0)) := hp
    have cp0 : wr.cell? ⟨PB, 0, none⟩ = some (.int .i64 pk) := (by rw [Qg wr PB 0 _ _ _ hp']; rfl)
    have cp1 : wr.cell? ⟨PB, 1, none⟩ = some (.int .i64 pc) := (by rw [Qg wr PB 1 _ _ _ hp']; rfl)
    have cp2 : wr.cell? ⟨PB, 2, none⟩ = some (.int .i64 po) := (by rw [Qg wr PB 2 _ _ _ hp']; rfl)
    have cp3 : wr.cell? ⟨PB, 3, none⟩ = some (.bool pu) := (by rw [Qg wr PB 3 _ _ _ hp']; rfl)
    have cp4 : wr.cell? ⟨PB, 4, none⟩ = some (.int .i64 pvk) := (by rw [Qg wr PB 4 _ _ _ hp']; rfl)
    have cp5 : wr.cell? ⟨PB, 5, none⟩ = some (.int .i64 pvn) := (by rw [Qg wr PB 5 _ _ _ hp']; rfl)
    have cp6 : wr.cell? ⟨PB, 6, none⟩ = some (.slice psa psn psc) := (by rw [Qg wr PB 6 _ _ _ hp']; rfl)
    have cp7 : wr.cell? ⟨PB, 7, none⟩ = some (.slice pla pln plc) := (by rw [Qg wr PB 7 _ _ _ hp']; rfl)
    have hkq : k <= q := by rw [hk]; exact zS9 rows p q
    clear hk hown hb3r hb hp hp'
    by_cases hlt : q < n
    ·obtain ⟨l, hl⟩ : ∃ l, L[q]? = some l := ⟨_, List.getElem?_eq_getElem (by rw [HLN.out]; exact hlt)⟩
     have hrq : rows[q]? = some (l.map Prod.fst) := by rw [<- HLL.out, List.getElem?_map, hl]; rfl
     obtain ⟨b1, off, sa, sc, rfl, hcell, hrp⟩ := (HRS.out.kept HB3r.out).at hl
     have HE := hid (HEV.out wr HBr.out (.slice sa l.length sc) (l.map Prod.fst) ⟨l, rfl, hrp⟩ (HRL.out _ (List.mem_of_getElem? hrq)))
     obtain ⟨ml, hml⟩ : ∃ ml, ml = l.length := ⟨_, rfl⟩
     rw [<- hml] at hcell HE
     have hps := zRb rows p q
     rw [show rows.getD q [] = l.map Prod.fst by rw [List.getD_eq_getElem?_getD, hrq]; rfl] at hps
     obtain ⟨ev, hev⟩ : ∃ ev, ev = evalT (l.map Prod.fst) p := ⟨_, rfl⟩
     rw [<- hev] at HE hps
     have HPS := hid hps
     clear hl hrq hrp hml hps hev
     go_wp2_with fail
     refine HE.out.mono ?_
     rintro e w4 ⟨rfl, hb4⟩
     have HB4 := hid (zAa HB3r.out hb4)
     have HBF := hid (zAa HBr.out hb4)
     have HO4 := hid (show OwnPl w3.heap.size w4 (.slice oa k oc) (pickT rows p q) from zAl (X := fun _ => False) HO.out ⟨hb4.os, hb4.tape, hb4.output, hb4.size, fun i hi _ => hb4.block i hi⟩ (fun _ _ h => h))
     have hs34 : w3.heap.size <= w4.heap.size := HB4.out.size
     clear hb4 hcell cp0 cp1 cp2 cp3 cp4 cp5 cp6 cp7
     by_cases he : ev = 1
     ·have he1 : (ev == 1) = true := by rw [he]; rfl
      have HPS1 := hid (show pickT rows p (q + 1) = pickT rows p q ++ [q] by rw [HPS.out, if_pos he])
      have HLT := hid (zBb w4 #[.int .i64 (q : Int)] 3 1 rfl)
      have HON := hid (show Ones 1 [[Value.int .i64 (q : Int)]] from fun t ht => by rw [Qe.1 ht]; exact ⟨rfl, fun u hu => by rw [Qe.1 hu]; rfl⟩)
      have HO4b := hid (show w4.ownsRow w3.heap.size 3 1 (.slice oa k oc) k ((pickT rows p q).map fun (i : Nat) => Value.int .i64 (i : Int)) by have h := HO4.out; unfold OwnPl at h; rw [<- HK.out] at h; exact h)
      have HOA := hid (HO4b.out.alloc (.cells #[.int .i64 (q : Int)] 3))
      have HSZ := hid (show w3.heap.size <= (w4.alloc (.cells #[.int .i64 (q : Int)] 3)).heap.size by simp; omega)
      clear he
      go_wp2_with (at_builtin; go_must (refine zAg zS1 rfl _ _ rfl w3.heap.size _ _ _ rfl HOA.out _ [[.int .i64 (q : Int)]] rfl HLT.out HON.out (by simp; omega) HSZ.out (k + 1) rfl ?_); intro ao4 cap4 w5 hown5 hgrow5 hnew5; have HO5 := hid hown5; have HG5 := hid hgrow5; have HN5 := hid hnew5; clear hown5 hgrow5 hnew5)
      go_roundw
      case rel =>
       refine ⟨q + 1, k + 1, ao4, cap4, by omega, by go_num, rfl, by rw [HPS1.out, List.length_append, <- HK.out]; rfl, ?_, (zAn HB4.out _).grown HG5.out HSZ.out (zAh HOA.out), (zAn HBF.out _).grown HG5.out (Qf HB3.out.size HSZ.out) (fun b e => Qf HB3.out.size (zAh HOA.out b e))⟩
       ·rw [HPS1.out]
        refine OwnPl.of (n := k + 1) ?_
        rw [List.map_append]
        exact HO5.out
      case measure => simp [intOf]; omega
     ·have he1 : (ev == 1) = false := by rw [beq_eq_false_iff_ne]; exact he
      have HPS1 := hid (show pickT rows p (q + 1) = pickT rows p q by rw [HPS.out, if_neg he, List.append_nil])
      go_wp2_with fail
      go_roundw
      case rel => exact ⟨q + 1, k, oa, oc, by omega, by go_num, rfl, by rw [HPS1.out]; exact HK.out, by rw [HPS1.out]; exact HO4.out, HB4.out, HBF.out⟩
      case measure => simp [intOf]; omega
    ·have hqn : q = n := by omega
     have HF := hid (show OwnPl w.heap.size wr (.slice oa k oc) (pickT rows p n) from by
      have h := HO.out
      rw [hqn] at h
      exact Joins.ownsRow_le h HB3.out.size)
     clear hqn cp0 cp1 cp2 cp3 cp4 cp5 cp6 cp7
     go_wp2_with fail
     go_ret
     exact ⟨_, rfl, HF.out, HBr.out⟩
end Go.Proofs.YtmpgnjhgegbdkaaGreat
