import Derived.Test.YtmpgnjhgegbdkaaGreatSga
import Derived.Test.YtmpgnjhgegbdkaaGreatNmk
import Derived.Test.YtmpgnjhgegbdkaaGreatZof2
set_option linter.unusedVariables false
set_option linter.unusedSimpArgs false
set_option maxRecDepth 100000
set_option maxHeartbeats 8000000
open Go.Lib (hid)
namespace Go.Proofs.YtmpgnjhgegbdkaaGreat
open Go.RowKit
open _root_.Array renaming getElem?_eq_some_iff -> Qa
open _root_.List renaming length_map -> Qb, getElem?_eq_getElem -> Qc, mem_map -> Qe, mem_of_getElem? -> Qg, mem_singleton -> Qh, all_eq_true -> Qj, take_add_one -> Qn, take_of_length_le -> Qo
open _root_.Nat renaming le_refl -> Qd, zero_le -> Ql
open _root_.Bool renaming false_and -> Qf, and_eq_true -> Qi, and_false -> Qk
open Go.RowKit.Below renaming refl -> Qm
open Go renaming cell_of_row -> Qp, frozen_of_row -> Qq, heap_setCell_same -> Qr, heap_alloc_new -> Qs
theorem zRk : (Tryz.prog.info? 3).map (fun i => (i.zero, i.size, i.bytes)) = some (some (.int .i64 0), 1, 8) := by kernel_rfl
theorem zLx : Elm Tryz.prog 40 3 1 8 := zFw Tryz.underlying40 zRk rfl (by decide) (by decide)
def SegAt (K : Nat) (w : World) (g : Nat) (cols : List Co) (rows : List (List Vc)) : Prop :=
 K <= g ∧ g < w.heap.size ∧ ∃ (zs : List Zv) (ps : Bc.Row) (zv kv tv : Value),
  w.heap[g]? = some (.cells #[.int .i64 (rows.length : Nat), zv, kv, tv] 43 (0, 0)) ∧ (RdZA K w zv zs ∧ zs.map Zv.t = zonesT cols rows) ∧
   RdSK K w 1 kv (cols.map fun c => [.int .i64 c.k]) ∧ (RdSK K w 1 tv ((Bc.vs ps).map fun u => [u]) ∧ Bc.xs ps = toldT cols rows ∧ ∀ p ∈ ps, RdB K w p.1 p.2)
theorem RdZA.above {K K0 : Nat} {w w' : World} {v : Value} {zs : List Zv} (h : RdZA K w v zs) (ha : Above K w w') (hk : K0 <= K) : RdZA K0 w' v zs :=
 ⟨h.1.above ha hk, fun z hz => (h.2 z hz).above ha hk⟩
theorem SegAt.above {K K0 g : Nat} {w w' : World} {cols : List Co} {rows : List (List Vc)} (h : SegAt K w g cols rows) (ha : Above K w w') (hs : w.heap.size <= w'.heap.size) (hk : K0 <= K) : SegAt K0 w' g cols rows := by
 obtain ⟨h1, h2, zs, ps, zv, kv, tv, h3, ⟨h4, h5⟩, h6, h7, h8, h9⟩ := h
 exact ⟨by omega, by omega, zs, ps, zv, kv, tv, (ha g h1 h2).trans h3, ⟨h4.above ha hk, h5⟩, h6.above ha hk, h7.above ha hk, h8, fun p hp => (h9 p hp).above ha hk⟩
theorem SegAt.kept {K g : Nat} {w w' : World} {cols : List Co} {rows : List (List Vc)} (h : SegAt K w g cols rows) (hb : Below w.heap.size w w') : SegAt K w' g cols rows :=
 h.above (zFm hb) hb.size (Qd _)
def rowsB (cols : List Co) (rows : List (List Vc)) : Bool := decide (0 < rows.length) && decide (rows.length <= 64) && rows.all (fitsR cols)
theorem zLy {cols : List Co} {rows : List (List Vc)} (h : rowsB cols rows = true) (hv : ∀ r ∈ rows, ∀ v ∈ r, I64 v.n ∧ ∀ x ∈ v.b, x < 256) : RowsC cols rows := by
 unfold rowsB at h
 simp only [Qi, decide_eq_true_eq, Qj] at h
 exact zQ9 h.1.1 h.1.2 h.2 hv
theorem zJz {K : Nat} {w : World} {v : Value} {n : Nat} {E : TypeId} {xs : List Value} (h : w.ownsRow K E 1 v n xs) : RdSK K w 1 v (xs.map fun u => [u]) :=
 zH4 (E := E) (by rw [zAp]; exact h) (by have := h.1; rw [Qb]; omega) (fun t ht => by obtain ⟨u, _, rfl⟩ := Qe.1 ht; rfl)
theorem zRl (cols : List Co) (hsc : SchOk cols) (L : List (List (Vc × Value))) (hL : L.length <= 1000) (hl6 : ∀ l ∈ L, l.length <= 1000) (hi : ∀ l ∈ L, ∀ t ∈ l, I64 t.1.n) (hbb : ∀ l ∈ L, ∀ t ∈ l, t.1.b.length <= 1000000) (sv rv : Value) (w : World) (hs : RdC w sv cols) (hr : RdRs w rv L) :
  Calls Tryz.prog 15 #[.agg #[sv], rv] w fun e w' =>
   ((rowsB cols (L.map fun l => l.map Prod.fst) = true ∧ ∃ g, e = .returned (.tuple #[.pointer (some ⟨g, 0, none⟩), .bool true]) ∧ SegAt w.heap.size w' g cols (L.map fun l => l.map Prod.fst)) ∨
    (rowsB cols (L.map fun l => l.map Prod.fst) = false ∧ e = .returned (.tuple #[.pointer none, .bool false]))) ∧ Below w.heap.size w w' := by
 obtain ⟨sa, sc, rfl⟩ := zBs hs
 obtain ⟨ra, rc, rfl⟩ := zDo hr
 obtain ⟨n, hN⟩ : ∃ n, n = L.length := ⟨_, rfl⟩
 obtain ⟨m, hM⟩ : ∃ m, m = cols.length := ⟨_, rfl⟩
 obtain ⟨rows, hrows⟩ : ∃ rows, rows = L.map fun l => l.map Prod.fst := ⟨_, rfl⟩
 have hrl : rows.length = n := by rw [hrows, Qb, hN]
 have hrat : ∀ (q : Nat) (l : List (Vc × Value)), L[q]? = some l -> rows[q]? = some (l.map Prod.fst) := fun q l h => by rw [hrows, List.getElem?_map, h]; rfl
 have h256 : ∀ l ∈ L, ∀ t ∈ l, ∀ x ∈ t.1.b, x < 256 := fun l hl t ht => by
  obtain ⟨i, hi, rfl⟩ := List.mem_iff_getElem.1 hl
  obtain ⟨sls, h1, h2, h3⟩ := hr
  exact ((h3 i _ _ (Qc (by rw [h2]; exact hi)) (Qc hi)).2 t ht).2
 have hvals : ∀ r ∈ rows, ∀ v ∈ r, I64 v.n ∧ ∀ x ∈ v.b, x < 256 := fun r hrr v hv => by
  rw [hrows] at hrr
  obtain ⟨l, hl, rfl⟩ := Qe.1 hrr
  obtain ⟨t, ht, rfl⟩ := Qe.1 hv
  exact ⟨hi l hl t ht, h256 l hl t ht⟩
 rw [<- hrows]
 rw [<- hN] at hr hL ⊢
 rw [<- hM] at hs ⊢
 have hm6 : m <= 6 := by rw [hM]; exact hsc.ok.le
 have HOKC := hid fun w' (h : Below w.heap.size w w') => zRj cols hsc (.slice sa m sc) w' (hs.kept h)
 have HROWS := hid hrows
 have HVALS := hid hvals
 have HRAT := hid hrat
 have HRL := hid hrl
 have HN := hid hN
 have HM := hid hM
 have HS := hid hs
 have HR := hid hr
 have HL6 := hid hl6
 have HSM := hid (show ∀ l ∈ L, l.length <= 1000 ∧ ∀ t ∈ l, t.1.b.length <= 1000000 ∧ ∀ x ∈ t.1.b, x < 256 from fun l hl => ⟨hl6 l hl, fun t ht => ⟨hbb l hl t ht, h256 l hl t ht⟩⟩)
 have HKS := hid hsc.ok.ks
 clear hN hM hrows hrl hrat h256 hvals hs hr hl6 hi hbb hsc
 obtain ⟨W, hW⟩ : ∃ W : World, W = w.alloc (.cells #[.slice sa m sc] 24) := ⟨_, rfl⟩
 have HB0 := hid (show Below w.heap.size w W by rw [hW]; exact zAd w _)
 have HX0 := hid (show W.heap[w.heap.size]? = some (.cells #[.slice sa m sc] 24 (0, 0)) by rw [hW]; exact Qs w _)
 obtain ⟨SB, hSB⟩ : ∃ SB, SB = w.heap.size := ⟨_, rfl⟩
 have HSB := hid hSB
 go_enter Tryz.func15, Tryz.ntmps15
 go_upto_region 1 with (fail)
 rw [<- hW]
 rw [<- hSB] at HX0 ⊢
 clear hW hSB
 have cs0 : W.cell? ⟨SB, 0, none⟩ = some (.slice sa m sc) := by rw [Qp W SB 0 _ _ _ HX0.out]; rfl
 by_cases hin : 0 < n ∧ n <= 64
 case neg =>
  have hno : rowsB cols rows = false := by
   unfold rowsB
   rw [HRL.out]
   by_cases h0 : 0 < n
   ·have h2 : decide (n <= 64) = false := by rw [decide_eq_false_iff_not]; omega
    rw [h2, Qk, Qf]
   ·have h2 : decide (0 < n) = false := by rw [decide_eq_false_iff_not]; omega
    rw [h2, Qf, Qf]
  have HNO := hid hno
  have hq : (((n : Int) == 0) = true ∧ n = 0) ∨ (((n : Int) == 0) = false ∧ decide ((n : Int) > 64) = true ∧ (64 < (n : Int)) ∧ 64 < n ∧ ¬ n = 0) := by
   by_cases h0 : n = 0
   ·exact .inl ⟨by rw [beq_iff_eq]; omega, h0⟩
   ·exact .inr ⟨by rw [beq_eq_false_iff_ne]; omega, by rw [decide_eq_true_eq]; omega, by omega, by omega, h0⟩
  clear hno hin
  rcases hq with ⟨hq0, hq1⟩ | ⟨hq0, hq1, hq2, hq3, hq4⟩
  all_goals
   go_wp2_with fail
   refine (HOKC.out _ HB0.out).mono ?_
   rintro e w1 ⟨rfl, hb1⟩
   have HB1 := hid (zAa HB0.out hb1)
   clear hb1
   go_wp2_with fail
   go_ret2
   exact ⟨.inr ⟨HNO.out, rfl⟩, HB1.out⟩
 case pos =>
  obtain ⟨hn0, hn64⟩ := hin
  have hq0 : ((n : Int) == 0) = false := by rw [beq_eq_false_iff_ne]; omega
  have hq1 : decide ((n : Int) > 64) = false := by rw [decide_eq_false_iff_not]; omega
  have hq2 : ¬ (64 < (n : Int)) := by omega
  have hq3 : ¬ (64 < n) := by omega
  have hq4 : ¬ (n = 0) := by omega
  go_wp2_with fail
  refine (HOKC.out _ HB0.out).mono ?_
  rintro e w1 ⟨rfl, hb1⟩
  have HB1 := hid (zAa HB0.out hb1)
  have HX1 := hid ((hb1.block SB (Qa.1 HX0.out).1).trans HX0.out)
  clear hb1 cs0
  go_wp2_with fail
  go_loopw [26] (fun i wr => ∃ q : Nat, q <= n ∧ i = .int .i64 (q : Int) ∧ (∀ (j : Nat) (r : List Vc), j < q -> rows[j]? = some r -> fitsR cols r = true) ∧ Below w1.heap.size w1 wr) (fun i _ => n - (intOf i).toNat)
  case atStart => exact ⟨0, Ql _, rfl, fun j r h => by omega, Qm _ _⟩
  case round =>
   obtain ⟨q, hq, rfl, hfit, hb⟩ := hrel
   have HFIT := hid hfit
   have HB := hid hb
   have HXr := hid ((hb.block SB (Qa.1 HX1.out).1).trans HX1.out)
   have HBW := hid (zAa HB1.out hb)
   clear hfit hb
   have cs0 : wr.cell? ⟨SB, 0, none⟩ = some (.slice sa m sc) := by rw [Qp wr SB 0 _ _ _ HXr.out]; rfl
   by_cases hlt : q < n
   ·obtain ⟨l, hl⟩ : ∃ l, L[q]? = some l := ⟨_, Qc (by rw [<- HN.out]; exact hlt)⟩
    have hr6 := HL6.out l (Qg hl)
    have hrq := HRAT.out q l hl
    obtain ⟨b, off, ra2, rc2, rfl, hcell, hrp⟩ := (HR.out.kept HBW.out).at hl
    obtain ⟨rr, hrr⟩ : ∃ rr, rr = l.map Prod.fst := ⟨_, rfl⟩
    have HFC := hid (zMh (.slice sa m sc) (.slice ra2 l.length rc2) cols rr wr (HS.out.kept HBW.out) ⟨l, hrr.symm, hrp⟩ (by rw [<- HM.out]; omega) (by rw [hrr, Qb]; omega))
    rw [<- hrr] at hrq
    have HRQ := hid hrq
    obtain ⟨ml, hml⟩ : ∃ ml, ml = l.length := ⟨_, rfl⟩
    rw [<- hml] at hcell HFC
    obtain ⟨ft, hft⟩ : ∃ ft, ft = fitsR cols rr := ⟨_, rfl⟩
    rw [<- hft] at HFC
    have HFT := hid hft
    clear hl hrp hrq hrr hr6 hml hft
    go_wp2_with fail
    refine HFC.out.mono ?_
    rintro e w2 ⟨rfl, hb2⟩
    have HB2 := hid (zAa HB.out hb2)
    have HBW2 := hid (zAa HBW.out hb2)
    clear hb2 hcell cs0
    cases ft
    ·have HNO := hid (show rowsB cols rows = false by
      unfold rowsB
      have h : rows.all (fitsR cols) = false := by
       rw [List.all_eq_false]
       exact ⟨rr, Qg HRQ.out, by rw [<- HFT.out]; decide⟩
      rw [h, Qk])
     go_wp2_with fail
     go_ret2
     exact ⟨.inr ⟨HNO.out, rfl⟩, HBW2.out⟩
    ·go_wp2_with fail
     go_roundw
     case rel =>
      refine ⟨q + 1, by omega, by go_num, fun j r hj hr => ?_, HB2.out⟩
      by_cases hjq : j = q
      ·subst hjq
       rw [HRQ.out, Option.some.injEq] at hr
       rw [<- hr]
       exact HFT.out.symm
      ·exact HFIT.out j r (by omega) hr
     case measure => simp [intOf]; omega
   ·have hqn : q = n := by omega
    have HYES := hid (show rowsB cols rows = true by
     unfold rowsB
     simp only [Qi, decide_eq_true_eq, Qj, HRL.out]
     refine ⟨⟨hn0, hn64⟩, fun r hr => ?_⟩
     obtain ⟨j, hj⟩ := List.getElem?_of_mem hr
     exact HFIT.out j r (by have := (List.getElem?_eq_some_iff.1 hj).1; rw [HRL.out] at this; omega) hj)
    have HRC := hid (zLy HYES.out HVALS.out)
    have HZ := hid (zOf cols (by rw [<- HM.out]; omega) L (by rw [<- HN.out]; omega) (.slice sa m sc) (.slice ra L.length rc) wr (HS.out.kept HBW.out) (by rw [<- HN.out]; exact HR.out.kept HBW.out) HSM.out)
    rw [<- HN.out, <- HROWS.out] at HZ
    clear hqn
    go_wp2_with fail
    refine HZ.out.mono ?_
    rintro e w2 ⟨zv, zs, rfl, hzt, hza, hb2⟩
    have HZT := hid hzt
    obtain ⟨za, zc, hzv⟩ := zC7 hza.1.rd
    subst hzv
    rw [show ((zs.map cellsZ).length) = m by rw [Qb]; have := congrArg List.length hzt; rw [Qb] at this; rw [this]; unfold zonesT; rw [List.length_mapIdx, <- HM.out]] at hza ⊢
    have HZA := hid hza
    have HB2 := hid (zAa HBW.out hb2)
    have HX2 := hid ((hb2.block SB (Qa.1 HXr.out).1).trans HXr.out)
    have HSZ2 := hid hb2.size
    clear hzt hza hb2 cs0
    go_upto_region 10 with (fail)
    obtain ⟨g, hg⟩ : ∃ g, g = w2.heap.size := ⟨_, rfl⟩
    obtain ⟨W3, hW3⟩ : ∃ W3 : World, W3 = w2.alloc (.cells #[.int .i64 (n : Int), .slice za m zc, .slice none 0 0, .slice none 0 0] 43) := ⟨_, rfl⟩
    rw [<- hW3, <- hg]
    have HX3 := hid (show W3.heap[g]? = some (.cells #[.int .i64 (n : Int), .slice za m zc, .slice none 0 0, .slice none 0 0] 43 (0, 0)) by rw [hW3, hg]; exact Qs w2 _)
    have HS3 := hid (show g < W3.heap.size by rw [hW3, hg]; simp)
    have HS3e := hid (show W3.heap.size = g + 1 by rw [hW3, hg]; simp)
    have HB3 := hid (show Below w.heap.size w W3 by rw [hW3]; exact zAl HB2.out _)
    have HXS3 := hid (show W3.heap[SB]? = some (.cells #[.slice sa m sc] 24 (0, 0)) by rw [hW3]; exact (heap_alloc_old _ _ (Qa.1 HX2.out).1).trans HX2.out)
    have HZA3 := hid (show Free (fun b => g <= b) W3 (fun w' => RdZA w.heap.size w' (.slice za m zc) zs) from fun w' ha => by
     refine HZA.out.above (fun b h1 h2 => ?_) HBW.out.size
     refine (ha.block b (by have := HS3e.out; omega) (by omega)).trans ?_
     rw [hW3]
     exact heap_alloc_old _ _ h2)
    have HGW := hid (show w.heap.size <= g by rw [hg]; exact HB2.out.size)
    have HSBG := hid (show SB < g by rw [hg]; exact (Qa.1 HX2.out).1)
    have cs0 : W3.cell? ⟨SB, 0, none⟩ = some (.slice sa m sc) := by rw [Qp W3 SB 0 _ _ _ HXS3.out]; rfl
    clear hg hW3 HX2 HZA HSZ2
    go_wp2_with fail
    clear cs0
    go_loopw [46] (fun i wr => ∃ (q : Nat) (ps : Bc.Row) (ka ta : Option Addr) (kc tc : Nat), q <= m ∧ i = .int .i64 (q : Int) ∧ wr.heap[g]? = some (.cells #[.int .i64 (n : Int), .slice za m zc, .slice ka q kc, .slice ta q tc] 43 (0, 0)) ∧
     wr.ownsRow (g + 1) 3 1 (.slice ka q kc) q ((cols.take q).map fun c => .int .i64 c.k) ∧ wr.ownsRow (g + 1) 29 1 (.slice ta q tc) q (Bc.vs ps) ∧ Bc.xs ps = (toldT cols rows).take q ∧
     Free (fun b => b = g ∨ (Value.slice ka q kc).ownBlock = some b ∨ (Value.slice ta q tc).ownBlock = some b) wr (fun w' => RdZA w.heap.size w' (.slice za m zc) zs ∧ ∀ p ∈ ps, RdB w.heap.size w' p.1 p.2) ∧
     (∀ b, (Value.slice ka q kc).ownBlock = some b -> (Value.slice ta q tc).ownBlock ≠ some b) ∧ Below g W3 wr) (fun i _ => m - (intOf i).toNat)
    case atStart =>
     exact ⟨0, [], none, none, 0, 0, Ql _, rfl, HX3.out, World.ownsRow_nil .., World.ownsRow_nil .., rfl, fun w' ha => ⟨HZA3.out w' (ha.mono fun i _ h => by rcases h with h | h | h; exact Nat.le_of_eq h.symm; cases h; cases h), fun p hp => by cases hp⟩, (fun b h => by cases h), Qm _ _⟩
    case round =>
     obtain ⟨q, ps, ka, ta, kc, tc, hq, rfl, hxg, hko, hto, hps, hfr, hdis, hb⟩ := hrel
     have HXG := hid hxg
     have HKO := hid hko
     have HTO := hid hto
     have HPS := hid hps
     have HFR := hid hfr
     have HDIS := hid hdis
     have HB := hid hb
     have HBW4 := hid (show Below w.heap.size w wr from HB3.out.trans (hb.mono HGW.out))
     have HSG := hid (show g < wr.heap.size from (Qa.1 hxg).1)
     clear hxg hko hto hps hfr hdis hb
     by_cases hlt : q < m
     ·obtain ⟨co, hco⟩ : ∃ co, cols[q]? = some co := ⟨_, Qc (by rw [<- HM.out]; exact hlt)⟩
      have hkc := HKS.out co (Qg hco)
      have hcv := HRC.out.col hco
      obtain ⟨b, off, rfl, p0, p1, p2⟩ := (RdC.kept HS.out HBW4.out).at hco
      have HTA := hid (show (toldT cols rows).take (q + 1) = (toldT cols rows).take q ++ [scolT co.k (colVs rows q)] by rw [Qn, zLu, hco]; rfl)
      have HKA := hid (show (cols.take (q + 1)).map (fun c => Value.int .i64 c.k) = (cols.take q).map (fun c => .int .i64 c.k) ++ [.int .i64 co.k] by rw [Qn, hco, List.map_append]; rfl)
      obtain ⟨tn, htn⟩ : ∃ tn, tn = (scolT co.k (colVs rows q)).length := ⟨_, rfl⟩
      have HTN := hid (show tn <= 42000 by rw [htn]; exact (zIg hkc hcv (by rw [zD8, HRL.out]; omega)).2)
      have HT := hid (show ∀ W', Below w.heap.size w W' -> Calls Tryz.prog 45 #[.int .i64 co.k, .int .i64 (q : Int), .slice ra n rc] W' fun e w' => ∃ ao cap, e = .returned (.slice ao tn cap) ∧ OwnB W'.heap.size w' (.slice ao tn cap) (scolT co.k (colVs rows q)) ∧ Below W'.heap.size W' w' from fun W' h => by
       have h1 := zP2 co.k hkc q (by omega) L (by rw [<- HN.out]; omega) (.slice ra n rc) W' (HR.out.kept h) (fun l hl => ⟨by
        have h2 := HRC.out.len (l.map Prod.fst) (by rw [HROWS.out]; exact List.mem_map_of_mem hl)
        rw [Qb] at h2
        rw [h2, <- HM.out]
        exact hlt, (HSM.out l hl).1⟩) (by rw [<- HROWS.out]; exact hcv)
       rw [<- HROWS.out] at h1
       refine h1.mono ?_
       rintro e w' ⟨v, rfl, ho, hb⟩
       obtain ⟨ao, cap, rfl⟩ := ho.shape
       rw [<- htn] at ho ⊢
       exact ⟨ao, cap, rfl, ho, hb⟩)
      obtain ⟨cn, ck, cu⟩ := co
      simp only at p0 p1 p2 HTA HKA HT hkc
      clear hco hcv htn hkc
      go_upto_region 13 with (fail)
      obtain ⟨XB, hXB⟩ : ∃ XB, XB = wr.heap.size := ⟨_, rfl⟩
      obtain ⟨W4, hW4⟩ : ∃ W4 : World, W4 = wr.alloc (.cells #[.string cn, .int .i64 ck, .bool cu] 46) := ⟨_, rfl⟩
      rw [<- hW4, <- hXB]
      have hx4 : W4.heap[XB]? = some (.cells #[.string cn, .int .i64 ck, .bool cu] 46 (0, 0)) := by rw [hW4, hXB]; exact Qs wr _
      have hg4 : W4.heap[g]? = some (.cells #[.int .i64 (n : Int), .slice za m zc, .slice ka q kc, .slice ta q tc] 43 (0, 0)) := by rw [hW4]; exact (heap_alloc_old _ _ HSG.out).trans HXG.out
      have hs4 : W4.heap.size = XB + 1 := by rw [hW4, hXB]; simp
      have HAG4 := hid (show ∀ X : Nat -> Prop, Agree X wr W4 from fun X => by rw [hW4]; exact zCf X wr _)
      have HK4 := hid (show W4.ownsRow (g + 1) 3 1 (.slice ka q kc) q ((cols.take q).map fun c => .int .i64 c.k) by rw [hW4]; exact HKO.out.alloc _)
      have HX4 := hid hx4
      have HG4 := hid hg4
      have HS4 := hid hs4
      have HXB := hid hXB
      clear hW4 hXB p0 p1 p2
      have c2 : W4.cell? ⟨g, 2, none⟩ = some (.slice ka q kc) := by rw [Qp W4 g 2 _ _ _ hg4]; rfl
      have f2 : W4.frozen? ⟨g, 2, none⟩ = false := Qq W4 g 2 _ _ hg4
      have x1 : W4.cell? ⟨XB, 1, none⟩ = some (.int .i64 ck) := by rw [Qp W4 XB 1 _ _ _ hx4]; rfl
      have c2a := fun o => Lib.cell?_alloc_some (W := W4) o c2
      have HLT := hid (zBa W4 #[.int .i64 ck] 3 1 rfl)
      have HONI := hid (show Ones 1 [[Value.int .i64 ck]] from fun t ht => by rw [Qh.1 ht]; exact ⟨rfl, fun u hu => by rw [Qh.1 hu]; rfl⟩)
      have HKB := hid (show ∀ b, (Value.slice ka q kc).ownBlock = some b -> g + 1 <= b ∧ b < wr.heap.size from HKO.out.lt)
      have HTB := hid (show ∀ b, (Value.slice ta q tc).ownBlock = some b -> g + 1 <= b ∧ b < wr.heap.size from HTO.out.lt)
      have hgx : g < XB := by have := HSG.out; have := HXB.out; omega
      have HSZ4 := hid (show g + 1 <= (W4.alloc (.cells #[.int .i64 ck] 3)).heap.size by simp; omega)
      clear hx4 hg4 hs4
      go_cut [46] (fun v wx => v = .int .i64 (q : Int) ∧ ∃ (kb : Option Addr) (kd : Nat), wx.heap[g]? = some (.cells #[.int .i64 (n : Int), .slice za m zc, .slice kb (q + 1) kd, .slice ta q tc] 43 (0, 0)) ∧
       wx.ownsRow (g + 1) 3 1 (.slice kb (q + 1) kd) (q + 1) ((cols.take (q + 1)).map fun c => .int .i64 c.k) ∧ wx.ownsRow (g + 1) 29 1 (.slice ta q tc) q (Bc.vs ps) ∧
       Free (fun b => b = g ∨ (Value.slice kb (q + 1) kd).ownBlock = some b ∨ (Value.slice ta q tc).ownBlock = some b) wx (fun w' => RdZA w.heap.size w' (.slice za m zc) zs ∧ ∀ p ∈ ps, RdB w.heap.size w' p.1 p.2) ∧
       (∀ b, (Value.slice kb (q + 1) kd).ownBlock = some b -> (Value.slice ta q tc).ownBlock ≠ some b) ∧ wx.heap[XB]? = some (.cells #[.string cn, .int .i64 ck, .bool cu] 46 (0, 0)) ∧ Below g W3 wx)
      case first =>
       go_region_law
        ((refine zBc zLx (by rfl) _ _ (by rfl) (g + 1) (.slice ka q kc) q ((cols.take q).map fun c => .int .i64 c.k) (by rfl) ((HK4.out.alloc _).drew) _ [[.int .i64 ck]] (by rfl) HLT.out HONI.out (by simp; omega) HSZ4.out (q + 1) rfl ?_; intro kb kd w5 hown5 hgrow5 hnew5;
          have hg5 : w5.heap[g]? = some (.cells #[.int .i64 (n : Int), .slice za m zc, .slice ka q kc, .slice ta q tc] 43 (0, 0)) := (hgrow5.block g (by simp; have := HS4.out; omega) (fun h => by have := (HKB.out g h.symm).1; omega)).trans ((heap_alloc_old W4 _ (by have := HS4.out; omega)).trans HG4.out);
          have f5 : w5.frozen? ⟨g, 2, none⟩ = false := Qq w5 g 2 _ _ hg5;
          have c5 : w5.cell? ⟨g, 2, none⟩ = some (.slice ka q kc) := by rw [Qp w5 g 2 _ _ _ hg5]; rfl))
       all_goals
        go_wp2_with fail
        go_meet
        have hsz4 := HS4.out
        have hag0 : ∀ X : Nat -> Prop, Agree X wr (W4.alloc (.cells #[.int .i64 ck] 3)).drew := fun X => ((HAG4.out X).alloc _).drew
        have hag1 : Agree (fun b => b = g ∨ (Value.slice ka q kc).ownBlock = some b) wr (w5.setCell ⟨g, 2, none⟩ (.slice kb (q + 1) kd)) := ((hag0 _).thenGrown hgrow5 fun i _ h => .inr h).set ⟨g, 2, none⟩ _ (.inl (.inl rfl))
        have hnb : ∀ b, (Value.slice kb (q + 1) kd).ownBlock = some b -> (Value.slice ka q kc).ownBlock = some b ∨ XB < b := fun b h => (hnew5 b h).imp id fun h => by simp at h; omega
        refine ⟨rfl, kb, kd, ?_, ?_, ?_, ?_, ?_, ?_, ?_⟩
        ·exact Qr w5 g 2 _ _ _ hg5
        ·rw [HKA.out]
         exact zAe hown5 (zBl (fun b => b = g) w5 ⟨g, 2, none⟩ _ rfl) (fun b hb h => by have := zAg hown5 b hb; omega)
        ·exact zAe HTO.out hag1 (fun b hb h => by
          rcases h with h | h
          ·have := (HTB.out b hb).1; omega
          ·exact HDIS.out b h hb)
        ·refine HFR.out.to hag1 (fun i _ h => h.elim .inl fun h => .inr (.inl h)) (fun i hi h => ?_)
         rcases h with h | h | h
         ·exact .inl h
         ·exact (hnb i h).elim (fun h => .inr (.inl h)) fun h => by have := HXB.out; omega
         ·exact .inr (.inr h)
        ·intro b h h2
         rcases hnb b h with h1 | h1
         ·exact HDIS.out b h1 h2
         ·have := (HTB.out b h2).2; have := HXB.out; omega
        ·refine (heap_setCell_other w5 ⟨g, 2, none⟩ XB _ (by show XB ≠ g; omega)).trans ((hgrow5.block XB (by simp; omega) (fun h => by have := (HKB.out XB h.symm).2; have := HXB.out; omega)).trans ((heap_alloc_old W4 _ (by omega)).trans HX4.out))
        ·exact HB.out.trans (hag1.below (fun i hi h => h.elim (fun h => by omega) fun h => by have := (HKB.out i h).1; omega) (by have := HSG.out; omega))
      case rest =>
       obtain ⟨rfl, kb, kd, hg5, hk5, ht5, hf5, hd5, hx5, hb5⟩ := hcut
       obtain ⟨W5, hW5⟩ : ∃ W5 : World, W5 = wc := ⟨_, rfl⟩
       rw [<- hW5] at hg5 hk5 ht5 hf5 hx5 hb5 ⊢
       clear hW5
       have HG5 := hid hg5
       have HK5 := hid hk5
       have HT5 := hid ht5
       have HF5 := hid hf5
       have HD5 := hid hd5
       have HX5 := hid hx5
       have HB5 := hid hb5
       have HBW5 := hid (show Below w.heap.size w W5 from HB3.out.trans (hb5.mono HGW.out))
       have hs5 : g + 1 < W5.heap.size := by have := (Qa.1 hx5).1; omega
       have HS5 := hid hs5
       have c3 : W5.cell? ⟨g, 3, none⟩ = some (.slice ta q tc) := by rw [Qp W5 g 3 _ _ _ hg5]; rfl
       have x1 : W5.cell? ⟨XB, 1, none⟩ = some (.int .i64 ck) := by rw [Qp W5 XB 1 _ _ _ hx5]; rfl
       clear hg5 hk5 ht5 hf5 hd5 hx5 hb5 hs5
       go_upto_region 14 with (fail)
       go_region_law
        (first
         | (go_simp; go_at_call 45; refine (HT.out _ ?_).mono ?_; (exact HBW5.out.trans (zAm _ _)); rintro e w6 ⟨ua, uc, rfl, ho6, hb6⟩; have HO6 := hid (show OwnB W5.heap.size w6 (.slice ua tn uc) (scolT ck (colVs rows q)) from ho6); have HB6 := hid (show Below W5.heap.size W5 w6 from (zAm _ W5).trans hb6); have dc3 : w6.cell? ⟨g, 3, none⟩ = some (.slice ta q tc) := (HB6.out.cell (World.block_lt_of_cell? _ _ c3)).trans c3; have dc4 := fun o => Lib.cell?_alloc_some (W := w6) o dc3; clear ho6 hb6)
         | (refine zBc Bc.elmR (by rfl) _ _ (by rfl) (g + 1) (.slice ta q tc) q (Bc.vs ps) (by rfl) ((zAe (X := fun _ => False) HT5.out ⟨HB6.out.os, HB6.out.tape, HB6.out.output, HB6.out.size, fun i hi _ => HB6.out.block i hi⟩ (fun _ _ h => h)).alloc _) _ [[.slice ua tn uc]] (by rfl) (zBa w6 _ _ 1 rfl) (Bc.zEz _ rfl) (by simp; omega) (by have h1 := HB6.out.size; have h2 := HS5.out; simp; omega) (q + 1) rfl ?_; intro tb td w7 hown7 hgrow7 hnew7;
            have hg7 : w7.heap[g]? = some (.cells #[.int .i64 (n : Int), .slice za m zc, .slice kb (q + 1) kd, .slice ta q tc] 43 (0, 0)) := (hgrow7.block g (by have h1 := HB6.out.size; have h2 := HS5.out; simp; omega) (fun h => by have := zAg HT5.out g h.symm; omega)).trans ((heap_alloc_old w6 _ (by have h1 := HB6.out.size; have h2 := HS5.out; omega)).trans ((HB6.out.block g (by have h2 := HS5.out; omega)).trans HG5.out));
            have f7 : w7.frozen? ⟨g, 3, none⟩ = false := Qq w7 g 3 _ _ hg7;
            have c7 : w7.cell? ⟨g, 3, none⟩ = some (.slice ta q tc) := by rw [Qp w7 g 3 _ _ _ hg7]; rfl))
       all_goals
        go_wp2_with fail
        go_roundw
        case rel =>
         have hs5 := HS5.out
         have hs6 := HB6.out.size
         have hKB : ∀ b, (Value.slice kb (q + 1) kd).ownBlock = some b -> g + 1 <= b ∧ b < W5.heap.size := HK5.out.lt
         have hTB : ∀ b, (Value.slice ta q tc).ownBlock = some b -> g + 1 <= b ∧ b < W5.heap.size := HT5.out.lt
         have hag6 : ∀ X : Nat -> Prop, Agree X W5 w6 := fun X => ⟨HB6.out.os, HB6.out.tape, HB6.out.output, HB6.out.size, fun i hi _ => HB6.out.block i hi⟩
         have hagx : Agree (fun b => b = g ∨ (Value.slice ta q tc).ownBlock = some b) w6 (w7.setCell ⟨g, 3, none⟩ (.slice tb (q + 1) td)) := ((zCf _ w6 _).thenGrown hgrow7 fun i _ h => .inr h).set ⟨g, 3, none⟩ _ (.inl (.inl rfl))
         have hag7 : Agree (fun b => b = g ∨ (Value.slice ta q tc).ownBlock = some b) W5 (w7.setCell ⟨g, 3, none⟩ (.slice tb (q + 1) td)) := (hag6 _).trans hagx
         have hnb : ∀ b, (Value.slice tb (q + 1) td).ownBlock = some b -> (Value.slice ta q tc).ownBlock = some b ∨ w6.heap.size <= b := fun b h => (hnew7 b h).imp id fun h => by simp at h; omega
         refine ⟨q + 1, ps ++ [(.slice ua tn uc, scolT ck (colVs rows q))], kb, tb, kd, td, by omega, by go_num, ?_, ?_, ?_, ?_, ?_, ?_, ?_⟩
         ·exact Qr w7 g 3 _ _ _ hg7
         ·exact zAe HK5.out hag7 (fun b hb h => by
           rcases h with h | h
           ·have := (hKB b hb).1; omega
           ·exact HD5.out b hb h)
         ·rw [Bc.zEn]
          exact zAe hown7 (zBl (fun b => b = g) w7 ⟨g, 3, none⟩ _ rfl) (fun b hb h => by have := zAg hown7 b hb; omega)
         ·rw [Bc.zDv, HPS.out, HTA.out]
         ·intro w' ha
          have hold := HF5.out.to (Y := fun b => b = g ∨ (Value.slice kb (q + 1) kd).ownBlock = some b ∨ (Value.slice tb (q + 1) td).ownBlock = some b) hag7 (fun i _ h => h.elim .inl fun h => .inr (.inr h)) (fun i hi h => by
           rcases h with h | h | h
           ·exact .inl h
           ·exact .inr (.inl h)
           ·exact (hnb i h).elim (fun h => .inr (.inr h)) fun h => by omega) w' ha
          refine ⟨hold.1, fun p hp => ?_⟩
          rcases List.mem_append.1 hp with h | h
          ·exact hold.2 p h
          ·rw [Qh.1 h]
           refine RdB.above (zM4 HO6.out) (fun b h1 h2 => ?_) HBW5.out.size
           refine (ha.block b (Nat.lt_of_lt_of_le h2 hagx.size) (fun h => ?_)).trans (hagx.block b h2 fun h => ?_)
           ·rcases h with h | h | h
            ·omega
            ·have := (hKB b h).2; omega
            ·exact (hnb b h).elim (fun h => by have := (hTB b h).2; omega) fun h => by omega
           ·rcases h with h | h
            ·omega
            ·have := (hTB b h).2; omega
         ·intro b h h2
          rcases hnb b h2 with h1 | h1
          ·exact HD5.out b h h1
          ·have := (hKB b h).2; omega
         ·exact HB5.out.trans (hag7.below (fun i hi h => h.elim (fun h => by omega) fun h => by have := (hTB i h).1; omega) (by omega))
        case measure => simp [intOf]; omega
     ·have hqm : q = m := by omega
      have HF := hid (show SegAt w.heap.size wr g cols rows from by
       have h1 := HFR.out.now
       have h2 := HKO.out
       have h3 := HTO.out
       have h4 := HPS.out
       rw [hqm, Qo (by rw [<- HM.out]; exact Qd _)] at h2
       rw [hqm, Qo (by rw [zJx, <- HM.out]; exact Qd _)] at h4
       have h5 := HXG.out
       rw [<- HRL.out] at h5
       refine ⟨HGW.out, HSG.out, zs, ps, _, _, _, h5, ⟨h1.1, HZT.out⟩, ?_, ?_, h4, h1.2⟩
       ·have h6 := zJz h2
        rw [List.map_map] at h6
        rw [hqm]
        exact h6.above (Above.refl _ _) (by have := HGW.out; omega)
       ·exact (zJz h3).above (Above.refl _ _) (by have := HGW.out; omega))
      clear hqm
      go_wp2_with fail
      go_ret2
      exact ⟨.inl ⟨HYES.out, g, rfl, HF.out⟩, HBW4.out⟩
end Go.Proofs.YtmpgnjhgegbdkaaGreat
