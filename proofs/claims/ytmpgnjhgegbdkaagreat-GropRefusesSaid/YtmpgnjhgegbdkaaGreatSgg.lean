import Derived.Test.YtmpgnjhgegbdkaaGreatSgf
set_option linter.unusedVariables false
set_option linter.unusedSimpArgs false
set_option maxRecDepth 100000
set_option maxHeartbeats 8000000
open Go.Lib (hid)
namespace Go.Proofs.YtmpgnjhgegbdkaaGreat
open Go.RowKit
open _root_.List renaming mem_of_getElem? -> Qa, mem_replicate -> Qb, getElem?_eq_getElem -> Qc, replicate -> Qf, take -> Qh, getElem?_map -> Qi, getElem?_eq_some_iff -> Qj, length_map -> Qk, length_replicate -> Ql, mem_cons -> Qp, mem_cons_of_mem -> Qq, mem_cons_self -> Qr
open _root_.Nat renaming le_trans -> Qd, le_refl -> Qe, zero_le -> Qn
open _root_.Option renaming map_some -> Qg
open _root_.Array renaming getElem?_eq_some_iff -> Qm
open Go.World renaming block_lt_of_cell? -> Qo
open Go renaming cell_of_row -> Qs
theorem zMp : (Tryz.prog.info? 27).map (fun i => (i.zero, i.size, i.bytes)) = some (some (.slice none 0 0), 1, 24) := by kernel_rfl
theorem OwnV.above_rd {K : Nat} {w w' : World} {v : Value} {l : List (Vc × Value)} (h : OwnV K w v l) (ha : Above K w w') : RdP w' v l ∧ ∀ t ∈ l, RdB K w' t.2 t.1.b :=
 ⟨⟨((zC8 h.1 (by rw [Qk]) (fun t ht => by obtain ⟨c, _, rfl⟩ := List.mem_map.1 ht; rfl)).above ha (Qe _)).rd, fun t ht => ⟨(h.2 t ht).1.rd ha, (h.2 t ht).2⟩⟩, fun t ht => (h.2 t ht).1.above ha (Qe _)⟩
theorem zLb {B n : Nat} {w : World} {v : Value} (h : w.ownsRow B 27 1 v n (Qf n (.slice none 0 0))) : RowsB B w v (Qf n (.slice none 0 0)) (Qf n []) where
 own := by rw [Ql]; exact h
 len := by simp
 apart := fun i j a b g hi hj ha hb => by
  have hx : ∀ (k : Nat) (c : Value), (v :: Qf n (Value.slice none 0 0))[k]? = some c -> c.ownBlock = some g -> k = 0 := fun k c hk hc => by
   cases k with
   | zero => rfl
   | succ k =>
    rw [List.getElem?_cons_succ] at hk
    have := Qa hk
    rw [(Qb.1 this).2] at hc
    cases hc
  rw [hx i a hi ha, hx j b hj hb]
 row := fun i s l hs hl => by
  rw [(Qb.1 (Qa hs)).2, (Qb.1 (Qa hl)).2]
  exact World.ownsRow_nil ..
 val := fun w' _ l hl t ht => by rw [(Qb.1 hl).2] at ht; cases ht
 lt := fun l hl t ht => by rw [(Qb.1 hl).2] at ht; cases ht
theorem RowsB.far {B G n cap p : Nat} {w : World} {s : Value} {sls : List Value} {L : List (List (Vc × Value))} (h : RowsB B w (.slice (some ⟨G, 0, none⟩) n cap) sls L) (hs : sls[p]? = some s) : s.ownBlock ≠ some G := fun e => by
 have := h.apart 0 (p + 1) _ s G rfl (by simpa using hs) rfl e
 omega
theorem zLc {n q : Nat} {L : List (List (Vc × Value))} {lv : List (Vc × Value)} {rows : List (List Vc)} (h1 : L.map (fun l => l.map Prod.fst) = rows.map (Qh q)) (hn : L.length = n) (hv : lv.map Prod.fst = colVs rows q) (hl : ∀ r ∈ rows, q < r.length) :
  (snocN n L lv).map (fun l => l.map Prod.fst) = rows.map (Qh (q + 1)) := by
 refine List.ext_getElem? fun i => ?_
 rw [Qi, zCt, Qi]
 have h2 := congrArg (fun l => l[i]?) h1
 have h3 := congrArg (fun l => l[i]?) hv
 simp only [Qi, colVs] at h2 h3
 cases hL : L[i]? with
 | none =>
  rw [hL] at h2
  cases hR : rows[i]? with
  | none => rfl
  | some r => rw [hR] at h2; cases h2
 | some l =>
  rw [hL] at h2
  cases hR : rows[i]? with
  | none => rw [hR] at h2; cases h2
  | some r =>
   rw [hR] at h2 h3
   have hq := hl r (Qa hR)
   simp only [Qg, Option.some.injEq] at h2 h3
   have hi : i < n := by rw [<- hn]; exact (Qj.1 hL).1
   cases hV : lv[i]? with
   | none => rw [hV] at h3; cases h3
   | some t =>
    rw [hV] at h3
    simp only [Qg, Option.some.injEq] at h3
    simp only [Qg, if_pos hi, Option.toList_some, List.map_append, List.map_cons, List.map_nil, Option.some.injEq]
    rw [h2, h3, List.take_add_one, List.getD_eq_getElem?_getD, Qc hq]
    rfl
theorem zS6 {K0 g : Nat} {cols : List Co} {rows : List (List Vc)} (hrc : RowsC cols rows) (hne : 0 < cols.length) (hm6 : cols.length <= 6) (w : World) (h : SegAt K0 w g cols rows) :
  Calls Tryz.prog 59 #[.pointer (some ⟨g, 0, none⟩)] w fun e w' => ∃ v L, e = .returned v ∧ L.map (fun l => l.map Prod.fst) = rows ∧ RdRsA w.heap.size w' v L ∧ Below w.heap.size w w' := by
 have HSZ0 := hid (zMm hrc hne w h)
 have HRC := hid hrc
 have HLE := hid hrc.le
 obtain ⟨kb, ko, kc, tb, tf, tc, zv, us, hx, htc, hcol⟩ := h.open hne
 have HCOL := hid hcol
 obtain ⟨m, hm⟩ : ∃ m, m = cols.length := ⟨_, rfl⟩
 obtain ⟨n, hn⟩ : ∃ n, n = rows.length := ⟨_, rfl⟩
 rw [<- hm] at hx hne hm6
 rw [<- hn] at hx HSZ0 HLE
 have HM := hid hm
 have HN := hid hn
 have HX := hid hx
 have hn64 : n <= 64 := HLE.out
 have HRG := hid (show ∀ (p : Nat) (s : Value) (sls : List Value) (L : List (List (Vc × Value))) {B G n cap : Nat} {w : World}, RowsB B w (.slice (some ⟨G, 0, none⟩) n cap) sls L -> sls[p]? = some s -> s.ownBlock ≠ some G from fun p s sls L _ _ _ _ _ h hs => h.far hs)
 obtain ⟨i0, hi, hz0, hz1, hz2⟩ := info_parts zMp
 clear hx htc hcol hm hn h hrc
 go_enter Tryz.func59, Tryz.ntmps59
 go_wp2_with fail
 refine HSZ0.out.mono ?_
 rintro e w2 ⟨rfl, hb2⟩
 have HB2 := hid hb2
 clear hb2
 go_upto_region 2 with (at_make; go_must (refine wpList_make_full _ rfl _ _ 26 rfl w2.heap.size 27 i0 _ 1 Tryz.underlying26 hi hz0 hz1 .i64 .i64 _ _ n rfl rfl rfl rfl (by rw [hz2]; omega) (by unfold maxLen; omega) (Qe _) ?_); intro w3 hown3 hgrow3)
 have hown3b : w3.ownsRow w2.heap.size 27 1 (.slice (some ⟨w2.heap.size, 0, none⟩) n n) n (Qf n (.slice none 0 0)) := by
  have h := hown3
  rw [show (Value.slice none 0 0).cells = #[Value.slice none 0 0] from rfl, Nat.mul_one, toList_madeCells_one] at h
  exact h
 have HRB3 := hid (zLb (Joins.ownsRow_le hown3b HB2.out.size))
 have hb23 : Below w2.heap.size w2 w3 := ⟨hgrow3.os, hgrow3.tape, hgrow3.output, hgrow3.size, fun i hi => hgrow3.block i hi (by simp)⟩
 have HB3 := hid (zAa HB2.out hb23)
 have HX3 := hid ((HB3.out.block g (Qm.1 HX.out).1).trans HX.out)
 have c3 : w3.cell? ⟨g, 3, none⟩ = some (.slice (some ⟨tb, tf, none⟩) m tc) := by rw [Qs w3 g 3 _ _ _ HX3.out]; rfl
 obtain ⟨G, hG⟩ : ∃ G, G = w2.heap.size := ⟨_, rfl⟩
 rw [<- hG] at HRB3 ⊢
 clear hown3 hown3b hgrow3 hb23 hi hz0 hz1 hz2 hG
 go_wp2_with fail
 clear c3
 go_loopw [18] (fun i wr => ∃ (q : Nat) (sls : List Value) (L : List (List (Vc × Value))), q <= m ∧ i = .int .i64 (q : Int) ∧ L.length = n ∧ (∀ l ∈ L, l.length = q) ∧ L.map (fun l => l.map Prod.fst) = rows.map (Qh q) ∧ RowsB w.heap.size wr (.slice (some ⟨G, 0, none⟩) n n) sls L ∧ Below w.heap.size w wr) (fun i _ => m - (intOf i).toNat)
 case atStart =>
  refine ⟨0, _, _, Qn _, rfl, Ql, fun l hl => by rw [(Qb.1 hl).2]; rfl, ?_, HRB3.out, HB3.out⟩
  rw [List.map_replicate, HN.out]
  refine List.ext_getElem (by simp) fun i h1 h2 => ?_
  simp
 case round =>
  obtain ⟨q, sls, L, hq, rfl, hln, hlq, hlm, hrb, hb⟩ := hrel
  obtain ⟨wo, hwo⟩ : ∃ wo : World, wo = wr := ⟨_, rfl⟩
  rw [<- hwo] at hrb hb ⊢
  clear hwo
  have HLN := hid hln
  have HLQ := hid hlq
  have HLM := hid hlm
  have HRB0 := hid hrb
  have HBo := hid hb
  have hxo := (hb.block g (Qm.1 HX.out).1).trans HX.out
  have c2 : wo.cell? ⟨g, 2, none⟩ = some (.slice (some ⟨kb, ko, none⟩) m kc) := by rw [Qs wo g 2 _ _ _ hxo]; rfl
  clear hln hlq hlm hrb hb hxo
  by_cases hlt : q < m
  ·obtain ⟨co, hco⟩ : ∃ co, cols[q]? = some co := ⟨_, Qc (by rw [<- HM.out]; exact hlt)⟩
   obtain ⟨ck, u, _, ct, hrbt⟩ := HCOL.out q co hco
   have ck2 := (HBo.out.cell (Qo _ _ ck)).trans ck
   have ct2 := (HBo.out.cell (Qo _ _ ct)).trans ct
   have hrd := (hrbt.rd (Above.refl _ _)).kept HBo.out
   have hkk := HRC.out.ks co (Qa hco)
   have hcv := HRC.out.col hco
   have hlt2 := zEq hkk hcv (by rw [zAz]; have := HRC.out.le; omega)
   have HRD := hid (zMn co.k hkk _ u n (by omega) wo hrd hlt2.1 (by omega))
   have hrc2 := zHy hkk hcv (by rw [zAz]; have := HRC.out.le; omega)
   rw [zAz, <- HN.out] at hrc2
   rw [hrc2] at HRD
   have HROWL := hid (show ∀ r ∈ rows, q < r.length from fun r hr => by rw [HRC.out.len r hr, <- HM.out]; exact hlt)
   obtain ⟨ua, uc, rfl⟩ := zA6 hrbt
   obtain ⟨tn, htn⟩ : ∃ tn, tn = (scolT co.k (colVs rows q)).length := ⟨_, rfl⟩
   rw [<- htn] at ct2 HRD
   obtain ⟨cn, cck, cu⟩ := co
   simp only at ck2 HRD
   clear hco ck ct hrbt hrd hkk hcv hlt2 hrc2 htn
   go_wp2_with fail
   refine HRD.out.mono ?_
   rintro e Wv ⟨hret, hbv⟩
   obtain ⟨vv, lv, rfl, hlv, hov⟩ := hret
   have HVF := hid hlv
   have HVN := hid (show lv.length = n by have := congrArg List.length hlv; rw [Qk, zAz] at this; rw [this, HN.out])
   obtain ⟨va, vc, rfl⟩ := zBc hov.1
   have HOV0 := hid hov
   rw [HVN.out] at HOV0 ⊢
   obtain ⟨K, hK⟩ : ∃ K, K = wo.heap.size := ⟨_, rfl⟩
   rw [<- hK] at HOV0
   have HOV := hid HOV0.out
   have HRBv := hid (HRB0.out.kept hbv)
   have HBLK := hid (show ∀ u ∈ (Value.slice (some ⟨G, 0, none⟩) n n) :: sls, ∀ b, u.ownBlock = some b -> b < K ∨ Wv.heap.size <= b from fun u hu b hb => .inl (by rw [hK]; exact (HRB0.out.blocks u hu b hb).2))
   have HBv := hid (zAa HBo.out hbv)
   have HKB := hid (show w.heap.size <= K by rw [hK]; exact HBo.out.size)
   have HKW := hid (show K <= Wv.heap.size by rw [hK]; exact hbv.size)
   clear hlv hov hbv hK ck2 ct2 c2
   go_wp2_with fail
   go_loopw [39] (fun i wi => ∃ (p : Nat) (sls2 : List Value), p <= n ∧ i = .int .i64 (p : Int) ∧ RowsB (w.heap.size) wi (.slice (some ⟨G, 0, none⟩) n n) sls2 (snocN p L lv) ∧ Above K Wv wi ∧ Wv.heap.size <= wi.heap.size ∧
     (∀ u ∈ (Value.slice (some ⟨G, 0, none⟩) n n) :: sls2, ∀ b, u.ownBlock = some b -> b < K ∨ Wv.heap.size <= b) ∧ Below (w.heap.size) Wv wi) (fun i _ => n - (intOf i).toNat)
   case atStart => exact ⟨0, sls, Qn _, rfl, by rw [zK9]; exact HRBv.out, Above.refl _ _, Qe _, HBLK.out, Below.refl _ _⟩
   case round =>
    obtain ⟨p, sls2, hp, rfl, hrb, hab, hsz, hblk, hbi⟩ := hrel
    obtain ⟨wi, hwi⟩ : ∃ wi : World, wi = wr := ⟨_, rfl⟩
    rw [<- hwi] at hrb hab hsz hbi ⊢
    clear hwi
    have HRB := hid hrb
    have HAB := hid hab
    have HSZ := hid hsz
    have HBK := hid hblk
    have HBI := hid hbi
    clear hrb hab hsz hblk hbi
    by_cases hlp : p < n
    ·obtain ⟨l, hl⟩ : ∃ l, L[p]? = some l := ⟨_, Qc (by rw [HLN.out]; exact hlp)⟩
     obtain ⟨t, ht⟩ : ∃ t, lv[p]? = some t := ⟨_, Qc (by rw [HVN.out]; exact hlp)⟩
     have hll := HLQ.out l (Qa hl)
     have hsl : (snocN p L lv)[p]? = some l := by rw [zCt, hl, Qg, if_neg (Nat.lt_irrefl _)]
     have hsn := zLa hl ht
     obtain ⟨s, hs⟩ : ∃ s, sls2[p]? = some s := ⟨_, Qc (by rw [HRB.out.len, zB9, HLN.out]; exact hlp)⟩
     have hrow := HRB.out.row p s l hs hsl
     have HMOR := hid (zB9 p L lv)
     obtain ⟨sa, sc, rfl⟩ := zBc hrow
     rw [hll] at hs hrow
     have hown := HRB.out.own
     rw [zB9, HLN.out] at hown
     have cR : wi.cell? ⟨G, p, none⟩ = some (.slice sa q sc) := (hown.cellAt p (by omega)).trans (by rw [<- hs])
     have fR := hown.frozenAt p
     have hvp := HOV.out.above_rd HAB.out
     obtain ⟨vb, vo, hva, p0, p1, p2, p3, ok⟩ := hvp.1.at ht
     cases hva
     obtain ⟨ta, tc, hts⟩ := zAf ok.1
     have HTB := hid (HOV.out.2 t (Qa ht))
     have HS := hid hs
     have HSL := hid hsl
     have HSN := hid hsn
     have HLL := hid hll
     have HROW := hid hrow
     have hGl : G < wi.heap.size := (hown.lt G rfl).2
     have HGL := hid (hown.lt G rfl)
     obtain ⟨⟨tu, tk, tn, tb⟩, ts⟩ := t
     simp only at hts p0 p1 p2 p3
     subst hts
     clear hl ht hsl hsn hs hrow hown hvp ok hll
     go_upto_region 9 with (fail)
     obtain ⟨W5, hW5⟩ : ∃ W5 : World, W5 = wi.alloc (.cells #[.bool tu, .int .i64 tk, .int .i64 tn, .slice ta tb.length tc] 31) := ⟨_, rfl⟩
     obtain ⟨XB, hXB⟩ : ∃ XB, XB = wi.heap.size := ⟨_, rfl⟩
     rw [<- hW5, <- hXB]
     have hx5 : W5.heap[XB]? = some (.cells #[.bool tu, .int .i64 tk, .int .i64 tn, .slice ta tb.length tc] 31 (0, 0)) := by rw [hW5, hXB]; exact heap_alloc_new wi _
     have HS5 := hid (show W5.heap.size = XB + 1 by rw [hW5, hXB]; simp)
     have HXB := hid hXB
     have HB5 := hid (show Below wi.heap.size wi W5 by rw [hW5]; exact zAd wi _)
     have HR5 := hid (show W5.ownsRow (w.heap.size) 31 4 (.slice sa q sc) q (l.map cellsV).flatten by rw [hW5]; exact HROW.out.alloc _)
     have cR5 : W5.cell? ⟨G, p, none⟩ = some (.slice sa q sc) := (HB5.out.cell (p := ⟨G, p, none⟩) hGl).trans cR
     have fR5 : W5.frozen? ⟨G, p, none⟩ = false := (World.frozen?_of_block (a := ⟨G, p, none⟩) (HB5.out.block G hGl)).trans fR
     have cR6 := fun o => Lib.cell?_alloc_some (W := W5) o cR5
     have x0 : W5.cell? ⟨XB, 0, none⟩ = some (.bool tu) := by rw [Qs W5 XB 0 _ _ _ hx5]; rfl
     have x1 : W5.cell? ⟨XB, 1, none⟩ = some (.int .i64 tk) := by rw [Qs W5 XB 1 _ _ _ hx5]; rfl
     have x2 : W5.cell? ⟨XB, 2, none⟩ = some (.int .i64 tn) := by rw [Qs W5 XB 2 _ _ _ hx5]; rfl
     have x3 : W5.cell? ⟨XB, 3, none⟩ = some (.slice ta tb.length tc) := by rw [Qs W5 XB 3 _ _ _ hx5]; rfl
     have HLT5 := hid (zBb W5 #[.bool tu, .int .i64 tk, .int .i64 tn, .slice ta tb.length tc] 31 4 rfl)
     have HON5 := hid (show Ones 4 [[Value.bool tu, .int .i64 tk, .int .i64 tn, .slice ta tb.length tc]] from fun t ht => by rw [List.mem_singleton.1 ht]; exact ⟨rfl, fun u hu => by simp only [Qp, List.not_mem_nil, or_false] at hu; rcases hu with rfl | rfl | rfl | rfl <;> rfl⟩)
     have hwB : w.heap.size <= XB := by rw [hXB]; exact Qd HKB.out (Qd HKW.out HSZ.out)
     have HSZ5 := hid (show w.heap.size <= (W5.alloc (.cells #[.bool tu, .int .i64 tk, .int .i64 tn, .slice ta tb.length tc] 31)).heap.size by have := HS5.out; simp; omega)
     have hq5 : q + 1 <= 10000000 := by omega
     clear hW5 hx5 hXB p0 p1 p2 p3 cR fR
     go_region_law
      ((refine zBf zK8 (by rfl) _ _ (by rfl) (w.heap.size) (.slice sa q sc) q (l.map cellsV).flatten (by rfl) ((HR5.out.alloc _).drew) _ [[.bool tu, .int .i64 tk, .int .i64 tn, .slice ta tb.length tc]] (by rfl) HLT5.out HON5.out hq5 HSZ5.out (q + 1) rfl ?_; intro sb sd w6 hown6 hgrow6 hnew6;
        have hb6 : w6.heap[G]? = W5.heap[G]? := (hgrow6.block G (by simp; have := HS5.out; have := HXB.out; omega) (fun h => HRG.out p _ sls2 _ HRB.out HS.out h.symm)).trans (heap_alloc_old W5 _ (by have := HS5.out; have := HXB.out; omega));
        have c6 : w6.cell? ⟨G, p, none⟩ = some (.slice sa q sc) := (World.cell?_of_block hb6).trans cR5;
        have f6 : w6.frozen? ⟨G, p, none⟩ = false := (World.frozen?_of_block (a := ⟨G, p, none⟩) hb6).trans fR5))
     all_goals
      go_wp2_with fail
      go_roundw
      case rel =>
       have hs5 := HS5.out
       have hxb := HXB.out
       have hb1 : Below wi.heap.size wi (W5.alloc (.cells #[.bool tu, .int .i64 tk, .int .i64 tn, .slice ta tb.length tc] 31)).drew := (zAn HB5.out _).trans (zAe _ _)
       have hnb : ∀ b, (Value.slice sb (q + 1) sd).ownBlock = some b -> (Value.slice sa q sc).ownBlock = some b ∨ wi.heap.size <= b := fun b h => (hnew6 b h).imp id fun h => by simp at h; omega
       have hag : Agree (fun b => b = G ∨ (Value.slice sa q sc).ownBlock = some b) wi (w6.setCell ⟨G, p, none⟩ (.slice sb (q + 1) sd)) := (((Agree.refl _ wi).thenBelow hb1).thenGrown hgrow6 fun b _ h => .inr h).set ⟨G, p, none⟩ _ (.inl (.inl rfl))
       have hsb : ∀ b, (Value.slice sa q sc).ownBlock = some b -> b < K ∨ Wv.heap.size <= b := HBK.out _ (Qq _ (Qa HS.out))
       have hgb := HBK.out _ Qr G rfl
       have habf : Above K Wv (w6.setCell ⟨G, p, none⟩ (.slice sb (q + 1) sd)) := fun b h1 h2 => (hag.block b (Nat.lt_of_lt_of_le h2 HSZ.out) fun e => by
        rcases e with e | e
        ·omega
        ·have := hsb b e; omega).trans (HAB.out b h1 h2)
       have hblk2 : ∀ u ∈ (Value.slice (some ⟨G, 0, none⟩) n n) :: sls2.set p (.slice sb (q + 1) sd), ∀ b, u.ownBlock = some b -> b < K ∨ Wv.heap.size <= b := fun u hu b hb => by
        rcases Qp.1 hu with rfl | hu
        ·exact HBK.out _ Qr b hb
        ·rcases List.mem_or_eq_of_mem_set hu with hu | rfl
         ·exact HBK.out u (Qq _ hu) b hb
         ·rcases hnb b hb with h | h
          ·exact hsb b h
          ·have := HSZ.out; omega
       have hpush := RowsB.push (t := (⟨tu, tk, tn, tb⟩, .slice ta tb.length tc)) HRB.out HS.out HSL.out hb1 hgrow6 (by rw [HLL.out]; exact hown6) hnb (zMo (K := K) (wv := Wv) HTB.out.1 HKB.out habf (Qd HSZ.out hag.size) fun b e => by obtain ⟨u, hu, hub⟩ := e; exact hblk2 u hu b hub) HTB.out.2
       rw [HSN.out] at hpush
       exact ⟨p + 1, sls2.set p (.slice sb (q + 1) sd), by omega, by go_num, hpush, habf, Qd HSZ.out hag.size, hblk2, HBI.out.trans (hag.below (fun i hi e => by
        rcases e with e | e
        ·have := HGL.out.1; omega
        ·have := (HROW.out.lt i e).1; omega) (Qd HKB.out (Qd HKW.out HSZ.out)))⟩
      case measure => simp [intOf]; omega
    ·have hpn : p = n := by omega
     have HRBN := hid (show RowsB w.heap.size wi (.slice (some ⟨G, 0, none⟩) n n) sls2 (snocN n L lv) from by
      have h := HRB.out
      rw [show snocN p L lv = snocN n L lv by rw [hpn]] at h
      exact h)
     clear hpn
     go_wp2_with fail
     go_roundw
     case rel =>
      refine ⟨q + 1, sls2, snocN n L lv, by omega, by go_num, by rw [zB9]; exact HLN.out, fun l hl => ?_, ?_, HRBN.out, HBv.out.trans HBI.out⟩
      ·obtain ⟨j, hj⟩ := List.getElem?_of_mem hl
       rw [zCt] at hj
       cases h1 : L[j]? with
       | none => rw [h1] at hj; cases hj
       | some l0 =>
        rw [h1, Qg, if_pos (by rw [<- HLN.out]; exact (Qj.1 h1).1), Option.some.injEq] at hj
        rw [<- hj, List.length_append, HLQ.out l0 (Qa h1)]
        have : j < lv.length := by rw [HVN.out, <- HLN.out]; exact (Qj.1 h1).1
        rw [Qc this]
        rfl
      ·exact zLc HLM.out HLN.out HVF.out HROWL.out
     case measure => simp [intOf]; omega
  ·have hqm : q = m := by omega
   have HF := hid (show L.map (fun l => l.map Prod.fst) = rows ∧ RdRsA w.heap.size wo (.slice (some ⟨G, 0, none⟩) n n) L from by
    refine ⟨?_, HRB0.out.rdA⟩
    rw [HLM.out, hqm]
    conv => rhs; rw [<- List.map_id rows]
    refine List.map_congr_left fun r hr => ?_
    rw [List.take_of_length_le (by rw [HRC.out.len r hr, <- HM.out]; exact Qe _)]
    rfl)
   clear hqm
   go_wp2_with fail
   go_ret
   exact ⟨_, L, rfl, HF.out.1, HF.out.2, HBo.out⟩
end Go.Proofs.YtmpgnjhgegbdkaaGreat
