import Derived.Test.YtnfjdoeemnhkbaaRff
import Derived.Test.YtnfjdoeemnhkbaaAgom
import Derived.Deep.RegionHeld3
set_option linter.unusedVariables false
set_option linter.unusedSimpArgs false
set_option maxRecDepth 100000
set_option maxHeartbeats 8000000
open Go.Lib (hid)
namespace Go.Proofs.Ytnfjdoeemnhkbaa
open Go.RowKit Sy
open _root_.List renaming getElem_toArray -> Qa, getElem_cons_succ -> Qb, getElem_cons_zero -> Qc, setIfInBounds_toArray -> Qd, set_cons_zero -> Qe, set_cons_succ -> Qf, length_map -> Qh, map_set -> Qi, getElem?_eq_some_iff -> Qj, getElem?_eq_getElem -> Ql, getElem?_map -> Qm, mem_of_getElem? -> Qo, mem_map -> Qp, length_set -> Qq, mem_or_eq_of_mem_set -> Qr, mem_cons -> Qt, not_mem_nil -> Qu
open Go.World renaming block_lt_of_cell? -> Qg
open _root_.Nat renaming le_refl -> Qk, zero_add -> Qn
open _root_.Array renaming getElem?_eq_some_iff -> Qv
def RetR (o : Option (List Vc)) (e : Ending) (w' : World) : Prop := match o with
 | none => e = .returned (.tuple #[.slice none 0 0, .bool false])
 | some r => ∃ (v' : Value) (L : List (Vc × Value)), e = .returned (.tuple #[v', .bool true]) ∧ RdP w' v' L ∧ L.map Prod.fst = r
theorem zO5 {w : World} {X : Nat} {a b : List Value} {cs : Array Value} {T : TypeId} {fz : Nat × Nat} (h : w.heap[X]? = some (.cells cs T fz)) (ha : a.length = 4) (hcs : cs.toList = a ++ b) : RdS w 4 (.slice (some ⟨X, 0, none⟩) 2 2) [a, b] := by
 refine ⟨some ⟨X, 0, none⟩, 2, rfl, ⟨(fun h => by cases h), by simp⟩, fun k t ht => ⟨X, 0, rfl, fun j u hu => ?_⟩⟩
 have hc : ∀ i, w.cell? ⟨X, i, none⟩ = cs.toList[i]? := fun i => by rw [cell_of_row w X i _ _ _ h]; simp
 have hk : k < 2 := by have := (Qj.1 ht).1; simpa using this
 rw [hc, hcs]
 rcases (show k = 0 ∨ k = 1 by omega) with rfl | rfl
 ·cases ht
  have := (Qj.1 hu).1
  rw [Nat.zero_mul, Qn, List.getElem?_append_left (by omega)]
  exact hu
 ·cases ht
  rw [Qn, Nat.one_mul, List.getElem?_append_right (by omega), ha, Nat.add_sub_cancel_left]
  exact hu
theorem zN7 (x : El) (l : List SetP) (hl6 : l.length <= 1000) (w : World) (hr : RdP w x.1 x.2) (hlen : x.2.length <= 1000000) (hsm : ∀ t ∈ x.2, I64 t.1.n) (sv : Value) (hs : RdS w 6 sv (l.map setC)) (hok : ∀ y ∈ l, OkV w (y.v, y.s) ∧ I64 y.v.n ∧ (0 <= y.col ∧ y.col < (x.2.length : Int)) ∧ (y.add = true -> y.v.u = false)) :
  Calls Try.prog 24 #[x.1, sv] w fun e w' => RetR (setsT x.row l) e w' ∧ Below w.heap.size w w' := by
 obtain ⟨xa, xc, hxs⟩ := zAl hr.1
 obtain ⟨m, hm⟩ : ∃ m, m = x.2.length := ⟨_, rfl⟩
 rw [Qh, <- hm] at hxs
 obtain ⟨sa, sc, hsv⟩ := zAl hs
 obtain ⟨ln, hln⟩ : ∃ ln, ln = l.length := ⟨_, rfl⟩
 rw [Qh, <- hln] at hsv
 subst hsv
 have HXR := hid (show RdS w 4 (.slice xa m xc) (x.2.map cellsV) from by rw [<- hxs]; exact hr.1)
 have HON := hid (zD4 hr.2)
 rw [hxs]
 have HM := hid hm
 have HLN := hid hln
 have HS := hid hs
 have HK := hid hok
 have HX0 := hid (show ∀ t ∈ x.2, OkV w t ∧ I64 t.1.n from fun t ht => ⟨hr.2 t ht, hsm t ht⟩)
 rw [<- hm] at hlen
 rw [<- hln] at hl6
 have HOE := hid (World.ownsRow_lit (e := 36) (size := 4) w #[] 0 (Qk _) (by unfold maxLen; omega) rfl)
 have HSZE := hid (show w.heap.size <= (w.alloc (.cells #[] 36)).heap.size by simp)
 have HXE := hid (HXR.out.kept (zAi w (.cells #[] 36)))
 clear hr hsm hs hok hxs hm hln
 go_enter Try.func24, Try.ntmps24
 go_upto_region 2 with (at_builtin; go_must (refine zAq zCc rfl _ _ rfl w.heap.size _ _ _ rfl HOE.out _ _ rfl HXE.out HON.out (by rw [Qh]; have := HM.out; omega) HSZE.out m (by rw [Qh]; have := HM.out; omega) ?_); intro oa rc w1 hown1 hg1 hn1; have HO1 := hid hown1; have HG1 := hid hg1; clear hown1 hg1 hn1)
 have HB1 := hid ((zAi w (.cells #[] 36)).grown HG1.out (by simp) (zAg HOE.out))
 clear HOE HSZE HXE HG1
 go_wp2_with fail
 go_loopw [7] (fun i wr => ∃ (q : Nat) (L : List (Vc × Value)), q <= ln ∧ i = .int .i64 (q : Int) ∧ wr.ownsRow w.heap.size 36 4 (.slice oa m rc) m (L.map cellsV).flatten ∧ L.length = m ∧ (∀ u ∈ L, OkV w u ∧ I64 u.1.n) ∧ setsT x.row l = setsT (L.map Prod.fst) (l.drop q) ∧ Below w.heap.size w wr) (fun i _ => ln - (intOf i).toNat)
 case atStart => exact ⟨0, x.2, Nat.zero_le _, rfl, by have h := HO1.out; rw [List.nil_append] at h; exact h, HM.out.symm, HX0.out, rfl, HB1.out⟩
 case round =>
  obtain ⟨q, L, hq, rfl, hown, hll, hlk, heq, hb⟩ := hrel
  have HO := hid hown
  have HLL := hid hll
  have HLK := hid hlk
  have HEQ := hid heq
  have HBr := hid hb
  clear hown hll hlk heq hb
  by_cases hlt : q < ln
  ·obtain ⟨y, hy⟩ : ∃ y, l[q]? = some y := ⟨_, Ql (by rw [<- HLN.out]; exact hlt)⟩
   have hdrop : l.drop q = y :: l.drop (q + 1) := by
    rw [List.drop_eq_getElem_cons (by rw [<- HLN.out]; exact hlt)]
    congr 1
    have h := Ql (l := l) (show q < l.length by rw [<- HLN.out]; exact hlt)
    rw [hy] at h
    exact (Option.some.inj h).symm
   rw [hdrop] at HEQ
   obtain ⟨hyok, hyi, ⟨hc0, hcm⟩, hyu⟩ := HK.out y (Qo hy)
   obtain ⟨ysa, ysc, hys⟩ := zAo hyok.1
   obtain ⟨ysm, hysm⟩ : ∃ ysm, ysm = y.v.b.length := ⟨_, rfl⟩
   simp only at hys
   rw [<- hysm] at hys
   obtain ⟨sb, so, hsa, hcell⟩ := HS.out.at (k := q) (t := setC y) (by rw [Qm, hy]; rfl)
   subst hsa
   obtain ⟨yc, ya, yv, ys⟩ := y
   simp only at hys hyok hyi hyu hysm HEQ hdrop hc0 hcm
   subst hys
   rw [<- HM.out] at hcm
   obtain ⟨c, hcc⟩ : ∃ c : Nat, yc = (c : Int) := ⟨yc.toNat, by omega⟩
   subst hcc
   have hcn : c < m := by omega
   obtain ⟨tt, htt⟩ : ∃ tt, L[c]? = some tt := ⟨_, Ql (by rw [HLL.out]; exact hcn)⟩
   have htk := HLK.out tt (Qo htt)
   obtain ⟨ta, tc, hts⟩ := zAo htk.1.1
   obtain ⟨tm, htm⟩ : ∃ tm, tm = tt.1.b.length := ⟨_, rfl⟩
   rw [<- htm] at hts
   obtain ⟨t, ts⟩ := tt
   simp only at hts htm htk
   subst hts
   obtain ⟨R, hR⟩ := zA3 HO.out (by omega)
   subst hR
   have HTK := hid htk
   have HTT := hid htt
   have HYO := hid hyok
   have HYI := hid hyi
   have HYU := hid hyu
   have HTF := hid (show (L.map Prod.fst)[c]? = some t by rw [Qm, htt]; rfl)
   have HL4 := hid (show ∀ u ∈ L.map cellsV, u.length = 4 from fun u hu => by obtain ⟨y, _, rfl⟩ := Qp.1 hu; rfl)
   have HCV := hid (show (L.map cellsV)[c]? = some (cellsV (t, .slice ta tm tc)) by rw [Qm, htt]; rfl)
   have g0 : w.cell? ⟨sb, so + q * 6, none⟩ = some (.int .i64 (c : Int)) := hcell 0 _ rfl
   have g1 : w.cell? ⟨sb, so + q * 6 + 1, none⟩ = some (.bool ya) := hcell 1 _ rfl
   have g2 : w.cell? ⟨sb, so + q * 6 + 2, none⟩ = some (.bool yv.u) := hcell 2 _ rfl
   have g3 : w.cell? ⟨sb, so + q * 6 + 3, none⟩ = some (.int .i64 yv.k) := hcell 3 _ rfl
   have g4 : w.cell? ⟨sb, so + q * 6 + 4, none⟩ = some (.int .i64 yv.n) := hcell 4 _ rfl
   have g5 : w.cell? ⟨sb, so + q * 6 + 5, none⟩ = some (.slice ysa ysm ysc) := hcell 5 _ rfl
   have HCX := hid (show ∀ w', Below w.heap.size w w' -> (w'.cell? ⟨sb, so + q * 6, none⟩ = some (.int .i64 (c : Int)) ∧ w'.cell? ⟨sb, so + q * 6 + 2, none⟩ = some (.bool yv.u) ∧ w'.cell? ⟨sb, so + q * 6 + 3, none⟩ = some (.int .i64 yv.k) ∧ w'.cell? ⟨sb, so + q * 6 + 4, none⟩ = some (.int .i64 yv.n) ∧ w'.cell? ⟨sb, so + q * 6 + 5, none⟩ = some (.slice ysa ysm ysc)) from fun w' h => ⟨(h.cell (Qg _ _ g0)).trans g0, (h.cell (Qg _ _ g2)).trans g2, (h.cell (Qg _ _ g3)).trans g3, (h.cell (Qg _ _ g4)).trans g4, (h.cell (Qg _ _ g5)).trans g5⟩)
   have HCA := hid (show ∀ w', Below w.heap.size w w' -> w'.cell? ⟨sb, so + q * 6 + 1, none⟩ = some (.bool ya) from fun w' h => (h.cell (Qg _ _ g1)).trans g1)
   have hRw := (HO.out.lt R rfl).1
   have hlti : (q : Int) < (ln : Int) := by omega
   have hq00 : (0 : Int) <= (q : Int) := by omega
   have hq1 : IntKind.i64.wrap ((q : Int) + 1) = (q : Int) + 1 := IntWalk.i64_in _ (by omega)
   have hci : (c : Int) < (m : Int) := by omega
   have h0 := (HCX.out _ HBr.out).1
   have h1 := HCA.out _ HBr.out
   have r0 : wr.cell? ⟨R, c * 4, none⟩ = some (.bool t.u) := (HO.out.cellAt (c * 4) (by omega)).trans (zAn _ 4 HL4.out c _ 0 _ HCV.out rfl)
   have r1 : wr.cell? ⟨R, c * 4 + 1, none⟩ = some (.int .i64 t.k) := (HO.out.cellAt (c * 4 + 1) (by omega)).trans (zAn _ 4 HL4.out c _ 1 _ HCV.out rfl)
   have r2 : wr.cell? ⟨R, c * 4 + 2, none⟩ = some (.int .i64 t.n) := (HO.out.cellAt (c * 4 + 2) (by omega)).trans (zAn _ 4 HL4.out c _ 2 _ HCV.out rfl)
   have r3 : wr.cell? ⟨R, c * 4 + 3, none⟩ = some (.slice ta tm tc) := (HO.out.cellAt (c * 4 + 3) (by omega)).trans (zAn _ 4 HL4.out c _ 3 _ HCV.out rfl)
   have f0 := HO.out.frozenAt (c * 4)
   have f1 := HO.out.frozenAt (c * 4 + 1)
   have f2 := HO.out.frozenAt (c * 4 + 2)
   have f3 := HO.out.frozenAt (c * 4 + 3)
   clear hdrop hyok hyi hyu hcell hy hysm htt htk htm g0 g1 g2 g3 g4 g5 f0 f1 f2 f3
   obtain ⟨W3, hW3⟩ : ∃ W3 : World, W3 = wr.alloc (.cells #[.bool t.u, .int .i64 t.k, .int .i64 t.n, .slice ta tm tc] 36) := ⟨_, rfl⟩
   obtain ⟨VB, hVB⟩ : ∃ VB, VB = wr.heap.size := ⟨_, rfl⟩
   have HV := hid (show W3.heap[VB]? = some (.cells #[.bool t.u, .int .i64 t.k, .int .i64 t.n, .slice ta tm tc] 36 (0, 0)) by rw [hW3, hVB]; exact heap_alloc_new wr _)
   have HB3 := hid (show Below w.heap.size w W3 by rw [hW3]; exact zAa HBr.out (zAi wr _))
   have HO3 := hid (show W3.ownsRow w.heap.size 36 4 (.slice (some ⟨R, 0, none⟩) m rc) m (L.map cellsV).flatten by rw [hW3]; exact zAf HO.out (zAc (zAi wr _)) (Qk _))
   have HRV := hid (show R < VB ∧ w.heap.size <= VB by rw [hVB]; exact ⟨(HO.out.lt R rfl).2, HBr.out.size⟩)
   go_upto_region 6 with (fail)
   rw [<- hW3, <- hVB]
   clear hW3 hVB h0 h1 r0 r1 r2 r3
   have h1 := HCA.out _ HB3.out
   cases ya with
   | false =>
    have HSO := hid (zD5 (r := L.map Prod.fst) (y := ⟨(c : Int), false, yv, .slice ysa ysm ysc⟩) (l := l.drop (q + 1)) (t := t) (v := yv) rfl HTF.out (by unfold becT; rw [if_pos rfl]))
    go_upto_region 7 with (fail)
    have r0 : W3.cell? ⟨R, c * 4, none⟩ = some (.bool t.u) := (HO3.out.cellAt (c * 4) (by omega)).trans (zAn _ 4 HL4.out c _ 0 _ HCV.out rfl)
    have r1 : W3.cell? ⟨R, c * 4 + 1, none⟩ = some (.int .i64 t.k) := (HO3.out.cellAt (c * 4 + 1) (by omega)).trans (zAn _ 4 HL4.out c _ 1 _ HCV.out rfl)
    have r2 : W3.cell? ⟨R, c * 4 + 2, none⟩ = some (.int .i64 t.n) := (HO3.out.cellAt (c * 4 + 2) (by omega)).trans (zAn _ 4 HL4.out c _ 2 _ HCV.out rfl)
    have r3 : W3.cell? ⟨R, c * 4 + 3, none⟩ = some (.slice ta tm tc) := (HO3.out.cellAt (c * 4 + 3) (by omega)).trans (zAn _ 4 HL4.out c _ 3 _ HCV.out rfl)
    have f0 := HO3.out.frozenAt (c * 4)
    have f1 := HO3.out.frozenAt (c * 4 + 1)
    have f2 := HO3.out.frozenAt (c * 4 + 2)
    have f3 := HO3.out.frozenAt (c * 4 + 3)
    have HST := hid (show ((((W3.drew.setCell ⟨R, c * 4, none⟩ (.bool yv.u)).setCell ⟨R, c * 4 + 1, none⟩ (.int .i64 yv.k)).setCell ⟨R, c * 4 + 2, none⟩ (.int .i64 yv.n)).setCell ⟨R, c * 4 + 3, none⟩ (.slice ysa ysm ysc)).ownsRow w.heap.size 36 4 (.slice (some ⟨R, 0, none⟩) m rc) m ((L.set c (yv, .slice ysa ysm ysc)).map cellsV).flatten from by
     have ho := (((((show W3.drew.ownsRow w.heap.size 36 4 (.slice (some ⟨R, 0, none⟩) m rc) m (L.map cellsV).flatten from HO3.out).stored (c * 4) (.bool yv.u)).1.stored (c * 4 + 1) (.int .i64 yv.k)).1.stored (c * 4 + 2) (.int .i64 yv.n)).1.stored (c * 4 + 3) (.slice ysa ysm ysc)).1
     rw [zEj _ c _ _ _ _ HL4.out (by rw [Qh, HLL.out]; exact hcn)] at ho
     rw [Qi]
     exact ho)
    have HBZ := hid (show Below w.heap.size w ((((W3.drew.setCell ⟨R, c * 4, none⟩ (.bool yv.u)).setCell ⟨R, c * 4 + 1, none⟩ (.int .i64 yv.k)).setCell ⟨R, c * 4 + 2, none⟩ (.int .i64 yv.n)).setCell ⟨R, c * 4 + 3, none⟩ (.slice ysa ysm ysc)) from ((((zAa HB3.out (zAb W3.heap.size W3)).setCell (p := ⟨R, c * 4, none⟩) hRw _).setCell (p := ⟨R, c * 4 + 1, none⟩) hRw _).setCell (p := ⟨R, c * 4 + 2, none⟩) hRw _).setCell (p := ⟨R, c * 4 + 3, none⟩) hRw _)
    set_option maxRecDepth 100000 in
     refine wp_region_noPanic ?_
     refine wp_region_held_drew (S := fun w' => (w'.cell? ⟨sb, so + q * 6, none⟩ = some (.int .i64 (c : Int)) ∧ w'.cell? ⟨sb, so + q * 6 + 2, none⟩ = some (.bool yv.u) ∧ w'.cell? ⟨sb, so + q * 6 + 3, none⟩ = some (.int .i64 yv.k) ∧ w'.cell? ⟨sb, so + q * 6 + 4, none⟩ = some (.int .i64 yv.n) ∧ w'.cell? ⟨sb, so + q * 6 + 5, none⟩ = some (.slice ysa ysm ysc)) ∧ Below w.heap.size w w') (by kernel_rfl) ?hS0A (fun hHeld => ?go0A)
     case' hS0A => ((try dsimp only); exact ⟨HCX.out _ (zAa HB3.out (zAb W3.heap.size W3)), zAa HB3.out (zAb W3.heap.size W3)⟩)
     refine tkH 0 (v := ?v0A) rfl (.inl ⟨by rfl, ?y0A⟩) ?_
     case' y0A => (intro w hSw; first | (go_simp; done) | (go_simp; with_reducible rfl))
     (try simp only [Act.put, Qa, Qb, Qc, Qd, Qe, Qf])
     refine tkH 1 (v := ?v1A) rfl (.inl ⟨by rfl, ?y1A⟩) ?_
     case' y1A => (intro w hSw; first | (go_simp; done) | (go_simp; with_reducible rfl))
     (try simp only [Act.put, Qa, Qb, Qc, Qd, Qe, Qf])
     refine tkH 2 (v := ?v2A) rfl (.inl ⟨by rfl, ?y2A⟩) ?_
     case' y2A => (intro w hSw; first | (go_simp; done) | (go_simp; with_reducible rfl))
     (try simp only [Act.put, Qa, Qb, Qc, Qd, Qe, Qf])
     refine tkH 3 (v := ?v3A) rfl (.inl ⟨by rfl, ?y3A⟩) ?_
     case' y3A => (intro w hSw; first | (go_simp; done) | (go_simp; with_reducible rfl))
     (try simp only [Act.put, Qa, Qb, Qc, Qd, Qe, Qf])
     refine tkH 4 (v := ?v4A) rfl (.inl ⟨by rfl, ?y4A⟩) ?_
     case' y4A => (intro w hSw; first | (go_simp; done) | (go_simp; with_reducible rfl))
     (try simp only [Act.put, Qa, Qb, Qc, Qd, Qe, Qf])
     refine tkH 5 (v := ?v5A) rfl (.inl ⟨by rfl, ?y5A⟩) ?_
     case' y5A => (intro w hSw; first | (go_simp; done) | (go_simp; with_reducible rfl))
     (try simp only [Act.put, Qa, Qb, Qc, Qd, Qe, Qf])
     refine tkH 6 (v := ?v6A) rfl (.inl ⟨by rfl, ?y6A⟩) ?_
     case' y6A => (intro w hSw; first | (go_simp; done) | (go_simp; with_reducible rfl))
     (try simp only [Act.put, Qa, Qb, Qc, Qd, Qe, Qf])
     refine tkH 7 (v := ?v7A) rfl (.inl ⟨by rfl, ?y7A⟩) ?_
     case' y7A => (intro w hSw; first | (go_simp; done) | (go_simp; with_reducible rfl))
     (try simp only [Act.put, Qa, Qb, Qc, Qd, Qe, Qf])
     refine tkH 8 (v := ?v8A) rfl (.inl ⟨by rfl, ?y8A⟩) ?_
     case' y8A => (intro w hSw; first | (go_simp; done) | (go_simp; with_reducible rfl))
     (try simp only [Act.put, Qa, Qb, Qc, Qd, Qe, Qf])
     refine tkH 9 (v := ?v9A) rfl (.inl ⟨by rfl, ?y9A⟩) ?_
     case' y9A => (intro w hSw; first | (go_simp; done) | (go_simp; with_reducible rfl))
     (try simp only [Act.put, Qa, Qb, Qc, Qd, Qe, Qf])
     refine tkH 10 (v := ?v10A) rfl (.inl ⟨by rfl, ?y10A⟩) ?_
     case' y10A => (intro w hSw; first | (go_simp; done) | (go_simp; with_reducible rfl))
     (try simp only [Act.put, Qa, Qb, Qc, Qd, Qe, Qf])
     refine tkH 11 (v := ?v11A) rfl (.inl ⟨by rfl, ?y11A⟩) ?_
     case' y11A => (intro w hSw; first | (go_simp; done) | (go_simp; with_reducible rfl))
     (try simp only [Act.put, Qa, Qb, Qc, Qd, Qe, Qf])
     refine wpAnyH_ready (rs := [12]) (by kernel_rfl) (by simp) ?_
     refine AllReadyH.cons (o := _) rfl (fun K12a hK12a => ?_) AllReadyH.nil
     go_simp
     refine hK12a.out _ _ ?hS12aA (fun hHeld12a => ?_)
     case' hS12aA => ((try dsimp only); exact ⟨HCX.out _ (((((zAa HB3.out (zAb W3.heap.size W3)).setCell (p := ⟨R, c * 4, none⟩) hRw _).setCell (p := ⟨R, c * 4 + 1, none⟩) hRw _).setCell (p := ⟨R, c * 4 + 2, none⟩) hRw _).setCell (p := ⟨R, c * 4 + 3, none⟩) hRw _), ((((zAa HB3.out (zAb W3.heap.size W3)).setCell (p := ⟨R, c * 4, none⟩) hRw _).setCell (p := ⟨R, c * 4 + 1, none⟩) hRw _).setCell (p := ⟨R, c * 4 + 2, none⟩) hRw _).setCell (p := ⟨R, c * 4 + 3, none⟩) hRw _⟩)
     clear hK12a K12a
     (try simp only [Act.put, Qa, Qb, Qc, Qd, Qe, Qf])
     refine wpAnyH_done (by kernel_rfl) ?_ _
     refine NoPanic.normal ?_
    go_wp2_with fail
    go_roundw
    case rel =>
     refine ⟨q + 1, L.set c (yv, .slice ysa ysm ysc), by omega, by go_num, HST.out, by rw [Qq]; exact HLL.out, fun u hu => ?_, by rw [HEQ.out, HSO.out, Qi], HBZ.out⟩
     rcases Qr hu with hu | hu
     ·exact HLK.out u hu
     ·rw [hu]; exact ⟨HYO.out, HYI.out⟩
    case measure => simp [intOf]; omega
   | true =>
    cases htu : t.u with
    | true =>
     have HSO := hid (zD5 (r := L.map Prod.fst) (y := ⟨(c : Int), true, yv, .slice ysa ysm ysc⟩) (l := l.drop (q + 1)) (t := t) (v := t) rfl HTF.out (by unfold becT; rw [if_neg (by simp), if_pos htu]))
     obtain ⟨v0, v1, v2, v3, _⟩ := zA2 HV.out
     rw [htu] at v0
     have HLS := hid (show (L.map Prod.fst).set c t = L.map Prod.fst from by
      obtain ⟨hlt2, he⟩ := Qj.1 HTF.out
      rw [<- he]
      exact List.set_getElem_self hlt2)
     clear htu
     go_wp2_with fail
     go_roundw
     case rel => exact ⟨q + 1, L, by omega, by go_num, HO3.out, HLL.out, HLK.out, by rw [HEQ.out, HSO.out, HLS.out], HB3.out⟩
     case measure => simp [intOf]; omega
    | false =>
     have hyu := HYU.out rfl
     obtain ⟨v0, v1, v2, v3, _⟩ := zA2 HV.out
     have HCV3 := hid (show ∀ w', Below W3.heap.size W3 w' -> ((w'.cell? ⟨sb, so + q * 6, none⟩ = some (.int .i64 (c : Int)) ∧ w'.cell? ⟨sb, so + q * 6 + 2, none⟩ = some (.bool yv.u) ∧ w'.cell? ⟨sb, so + q * 6 + 3, none⟩ = some (.int .i64 yv.k) ∧ w'.cell? ⟨sb, so + q * 6 + 4, none⟩ = some (.int .i64 yv.n) ∧ w'.cell? ⟨sb, so + q * 6 + 5, none⟩ = some (.slice ysa ysm ysc)) ∧ (w'.cell? ⟨VB, 0, none⟩ = some (.bool t.u) ∧ w'.cell? ⟨VB, 1, none⟩ = some (.int .i64 t.k) ∧ w'.cell? ⟨VB, 2, none⟩ = some (.int .i64 t.n) ∧ w'.cell? ⟨VB, 3, none⟩ = some (.slice ta tm tc))) ∧ Below W3.heap.size W3 w' from fun w' h => ⟨⟨HCX.out _ (zAa HB3.out h), (h.cell (Qg _ _ v0)).trans v0, (h.cell (Qg _ _ v1)).trans v1, (h.cell (Qg _ _ v2)).trans v2, (h.cell (Qg _ _ v3)).trans v3⟩, h⟩)
     have HOK2 := hid (show ∀ w', Below W3.heap.size W3 w' -> ∀ u ∈ [(t, Value.slice ta tm tc), (yv, .slice ysa ysm ysc)], OkV w' u from fun w' h u hu => by
      simp only [Qt, Qu, or_false] at hu
      rcases hu with rfl | rfl
      ·exact HTK.out.1.kept (zAa HB3.out h)
      ·exact HYO.out.kept (zAa HB3.out h))
     have HI2 := hid (show ∀ u ∈ [(t, Value.slice ta tm tc), (yv, .slice ysa ysm ysc)], I64 u.1.n from fun u hu => by
      simp only [Qt, Qu, or_false] at hu
      rcases hu with rfl | rfl
      ·exact HTK.out.2
      ·exact HYI.out)
     have HNT := hid (show numsT [(t, Value.slice ta tm tc), (yv, .slice ysa ysm ysc)] = t.n + yv.n from by unfold numsT; simp [htu, hyu])
     have HTU := hid htu
     have v0' := v0
     rw [htu] at v0'
     clear hyu htu v0
     have v0 := v0'
     clear v0'
     go_upto_region 9 with (fail)
     have v0b : W3.cell? ⟨VB, 0, none⟩ = some (.bool t.u) := (zA2 HV.out).1
     clear v0
     refine wp_region_noPanic ?_
     refine wp_region_held_drew (S := fun w' => ((w'.cell? ⟨sb, so + q * 6, none⟩ = some (.int .i64 (c : Int)) ∧ w'.cell? ⟨sb, so + q * 6 + 2, none⟩ = some (.bool yv.u) ∧ w'.cell? ⟨sb, so + q * 6 + 3, none⟩ = some (.int .i64 yv.k) ∧ w'.cell? ⟨sb, so + q * 6 + 4, none⟩ = some (.int .i64 yv.n) ∧ w'.cell? ⟨sb, so + q * 6 + 5, none⟩ = some (.slice ysa ysm ysc)) ∧ (w'.cell? ⟨VB, 0, none⟩ = some (.bool t.u) ∧ w'.cell? ⟨VB, 1, none⟩ = some (.int .i64 t.k) ∧ w'.cell? ⟨VB, 2, none⟩ = some (.int .i64 t.n) ∧ w'.cell? ⟨VB, 3, none⟩ = some (.slice ta tm tc))) ∧ Below W3.heap.size W3 w') (by kernel_rfl) ?hS0B (fun hHeld => ?go0B)
     case' hS0B => ((try dsimp only); exact HCV3.out _ (zAb W3.heap.size W3))
     refine tkH 0 (v := ?v0B) rfl (.inl ⟨by rfl, ?y0B⟩) ?_
     case' y0B => (intro w hSw; first | (go_simp; done) | (go_simp; with_reducible rfl))
     (try simp only [Act.put, Qa, Qb, Qc, Qd, Qe, Qf])
     refine tkH 1 (v := ?v1B) rfl (.inl ⟨by rfl, ?y1B⟩) ?_
     case' y1B => (intro w hSw; first | (go_simp; done) | (go_simp; with_reducible rfl))
     (try simp only [Act.put, Qa, Qb, Qc, Qd, Qe, Qf])
     refine tkH 2 (v := ?v2B) rfl (.inl ⟨by rfl, ?y2B⟩) ?_
     case' y2B => (intro w hSw; first | (go_simp; done) | (go_simp; with_reducible rfl))
     (try simp only [Act.put, Qa, Qb, Qc, Qd, Qe, Qf])
     refine tkH 3 (v := ?v3B) rfl (.inl ⟨by rfl, ?y3B⟩) ?_
     case' y3B => (intro w hSw; first | (go_simp; done) | (go_simp; with_reducible rfl))
     (try simp only [Act.put, Qa, Qb, Qc, Qd, Qe, Qf])
     refine tkH 4 (v := ?v4B) rfl (.inl ⟨by rfl, ?y4B⟩) ?_
     case' y4B => (intro w hSw; first | (go_simp; done) | (go_simp; with_reducible rfl))
     (try simp only [Act.put, Qa, Qb, Qc, Qd, Qe, Qf])
     refine tkH 5 (v := ?v5B) rfl (.inl ⟨by rfl, ?y5B⟩) ?_
     case' y5B => (intro w hSw; first | (go_simp; done) | (go_simp; with_reducible rfl))
     (try simp only [Act.put, Qa, Qb, Qc, Qd, Qe, Qf])
     refine wpAnyH_ready (rs := [6]) (by kernel_rfl) (by simp) ?_
     refine AllReadyH.cons (o := _) rfl (fun K6a hK6a => ?_) AllReadyH.nil
     go_simp
     (have hb4 : Below W3.heap.size W3 (W3.drew.alloc (.cells #[.bool t.u, .int .i64 t.k, .int .i64 t.n, .slice ta tm tc, .bool yv.u, .int .i64 yv.k, .int .i64 yv.n, .slice ysa ysm ysc] 36)) := zAe (zAb W3.heap.size W3) _)
     refine hK6a.out _ _ ?hS6aB (fun hHeld6a => ?_)
     case' hS6aB => ((try dsimp only); exact HCV3.out _ hb4)
     clear hK6a K6a
     (try simp only [Act.put, Qa, Qb, Qc, Qd, Qe, Qf])
     refine wpAnyH_ready (rs := [7]) (by kernel_rfl) (by simp) ?_
     refine AllReadyH.cons (o := _) rfl (fun K7a hK7a => ?_) AllReadyH.nil
     go_simp
     (go_at_call 57; refine (zJf [(t, .slice ta tm tc), (yv, .slice ysa ysm ysc)] _ _ (by simp) ⟨zO5 (heap_alloc_new W3.drew (.cells #[.bool t.u, .int .i64 t.k, .int .i64 t.n, .slice ta tm tc, .bool yv.u, .int .i64 yv.k, .int .i64 yv.n, .slice ysa ysm ysc] 36)) rfl rfl, HOK2.out _ hb4⟩ HI2.out).mono ?_; rintro e w5 ⟨⟨n2, rfl, hval⟩, hb⟩; have hb5 : Below W3.heap.size W3 w5 := zAa hb4 hb)
     refine hK7a.out _ _ ?hS7aB (fun hHeld7a => ?_)
     case' hS7aB => ((try dsimp only); exact HCV3.out _ hb5)
     clear hK7a K7a
     (try simp only [Act.put, Qa, Qb, Qc, Qd, Qe, Qf])
     refine tkH 8 (v := ?v8bB) rfl (.inl ⟨by rfl, ?y8bB⟩) ?_
     case' y8bB => (intro w hSw; first | (go_simp; done) | (go_simp; with_reducible rfl))
     (try simp only [Act.put, Qa, Qb, Qc, Qd, Qe, Qf])
     refine tkH 9 (v := ?v9bB) rfl (.inl ⟨by rfl, ?y9bB⟩) ?_
     case' y9bB => (intro w hSw; first | (go_simp; done) | (go_simp; with_reducible rfl))
     (try simp only [Act.put, Qa, Qb, Qc, Qd, Qe, Qf])
     refine tkH 10 (v := ?v10bB) rfl (.inl ⟨by rfl, ?y10bB⟩) ?_
     case' y10bB => (intro w hSw; first | (go_simp; done) | (go_simp; with_reducible rfl))
     (try simp only [Act.put, Qa, Qb, Qc, Qd, Qe, Qf])
     refine tkH 11 (v := ?v11bB) rfl (.inl ⟨by rfl, ?y11bB⟩) ?_
     case' y11bB => (intro w hSw; first | (go_simp; done) | (go_simp; with_reducible rfl))
     (try simp only [Act.put, Qa, Qb, Qc, Qd, Qe, Qf])
     refine tkH 12 (v := ?v12bB) rfl (.inl ⟨by rfl, ?y12bB⟩) ?_
     case' y12bB => (intro w hSw; first | (go_simp; done) | (go_simp; with_reducible rfl))
     (try simp only [Act.put, Qa, Qb, Qc, Qd, Qe, Qf])
     refine wpAnyH_done (by kernel_rfl) ?_ _
     refine NoPanic.normal ?_
     go_upto_region 10 with (fail)
     rw [HNT.out] at hval
     have HVAL := hid hval
     have HB5 := hid (zAa HB3.out hb5)
     have HO5 := hid (zAf HO3.out (zAc hb5) (Qk _))
     have HV5 := hid ((hb5.block VB (Qv.1 HV.out).1).trans HV.out)
     rw [HNT.out]
     clear hval hb hb4 hb5 v0b v1 v2 v3 h1
     by_cases hin : InR (t.n + yv.n)
     ·rw [decide_eq_true hin]
      have hn2 := HVAL.out hin
      subst hn2
      have HSO := hid (zD5 (r := L.map Prod.fst) (y := ⟨(c : Int), true, yv, .slice ysa ysm ysc⟩) (l := l.drop (q + 1)) (t := t) (v := ⟨t.u, t.k, t.n + yv.n, t.b⟩) rfl HTF.out (by unfold becT; rw [if_neg (by simp), if_neg (by rw [HTU.out]; simp), if_pos (show -9223372036854775808 <= t.n + yv.n ∧ t.n + yv.n < 9223372036854775808 from hin)]))
      have HI5 := hid (show I64 (t.n + yv.n) from by unfold InR at hin; unfold I64; omega)
      obtain ⟨_, _, v2, _, _, _, fv2, _⟩ := zA2 HV5.out
      clear hin
      go_upto_region 13 with (fail)
      obtain ⟨W6, hW6⟩ : ∃ W6 : World, W6 = w5.setCell ⟨VB, 2, none⟩ (.int .i64 (t.n + yv.n)) := ⟨_, rfl⟩
      have HV6 := hid (show W6.heap[VB]? = some (.cells #[.bool t.u, .int .i64 t.k, .int .i64 (t.n + yv.n), .slice ta tm tc] 36 (0, 0)) from by rw [hW6]; exact heap_setCell_same w5 VB 2 _ _ _ HV5.out)
      have HB6 := hid (show Below w.heap.size w W6 from by rw [hW6]; exact HB5.out.setCell (p := ⟨VB, 2, none⟩) HRV.out.2 _)
      have HO6 := hid (show W6.ownsRow w.heap.size 36 4 (.slice (some ⟨R, 0, none⟩) m rc) m (L.map cellsV).flatten from by rw [hW6]; exact zAj HO5.out (zAs (fun b => b = VB) w5 ⟨VB, 2, none⟩ _ rfl) fun b hb e => by have e2 : b = VB := e; have hb2 : R = b := (by cases hb; rfl); have := HRV.out.1; omega)
      rw [<- hW6]
      obtain ⟨n2, hn2⟩ : ∃ n2, n2 = t.n + yv.n := ⟨_, rfl⟩
      rw [<- hn2] at HV6 HSO HI5 ⊢
      obtain ⟨x0, x1, x2, x3, _⟩ := zA2 HV6.out
      have hvlt := (Qv.1 HV6.out).1
      have HCV6 := hid (show ∀ w', Agree (fun b => b = R) W6 w' -> ((w'.cell? ⟨sb, so + q * 6, none⟩ = some (.int .i64 (c : Int)) ∧ w'.cell? ⟨sb, so + q * 6 + 2, none⟩ = some (.bool yv.u) ∧ w'.cell? ⟨sb, so + q * 6 + 3, none⟩ = some (.int .i64 yv.k) ∧ w'.cell? ⟨sb, so + q * 6 + 4, none⟩ = some (.int .i64 yv.n) ∧ w'.cell? ⟨sb, so + q * 6 + 5, none⟩ = some (.slice ysa ysm ysc)) ∧ (w'.cell? ⟨VB, 0, none⟩ = some (.bool t.u) ∧ w'.cell? ⟨VB, 1, none⟩ = some (.int .i64 t.k) ∧ w'.cell? ⟨VB, 2, none⟩ = some (.int .i64 n2) ∧ w'.cell? ⟨VB, 3, none⟩ = some (.slice ta tm tc))) ∧ Below w.heap.size w w' from fun w' h => by
       have hbw : Below w.heap.size w w' := HB6.out.trans (h.below (fun i hi e => by omega) HB6.out.size)
       have hv := (h.block VB hvlt (by have := HRV.out.1; omega)).trans HV6.out
       obtain ⟨y0, y1, y2, y3, _⟩ := zA2 hv
       exact ⟨⟨HCX.out _ hbw, y0, y1, y2, y3⟩, hbw⟩)
      have HAG := hid (show Agree (fun b => b = R) W6 (((((W6.drew.setCell ⟨R, c * 4, none⟩ (.bool t.u)).setCell ⟨R, c * 4 + 1, none⟩ (.int .i64 t.k)).setCell ⟨R, c * 4 + 2, none⟩ (.int .i64 n2)).setCell ⟨R, c * 4 + 3, none⟩ (.slice ta tm tc))) from ((((Agree.refl (fun b => b = R) W6).drew.trans (zAs (fun b => b = R) _ ⟨R, c * 4, none⟩ _ rfl)).trans (zAs (fun b => b = R) _ ⟨R, c * 4 + 1, none⟩ _ rfl)).trans (zAs (fun b => b = R) _ ⟨R, c * 4 + 2, none⟩ _ rfl)).trans (zAs (fun b => b = R) _ ⟨R, c * 4 + 3, none⟩ _ rfl))
      clear hW6 hn2 v2 fv2
      have r0 : W6.cell? ⟨R, c * 4, none⟩ = some (.bool t.u) := (HO6.out.cellAt (c * 4) (by omega)).trans (zAn _ 4 HL4.out c _ 0 _ HCV.out rfl)
      have r1 : W6.cell? ⟨R, c * 4 + 1, none⟩ = some (.int .i64 t.k) := (HO6.out.cellAt (c * 4 + 1) (by omega)).trans (zAn _ 4 HL4.out c _ 1 _ HCV.out rfl)
      have r2 : W6.cell? ⟨R, c * 4 + 2, none⟩ = some (.int .i64 t.n) := (HO6.out.cellAt (c * 4 + 2) (by omega)).trans (zAn _ 4 HL4.out c _ 2 _ HCV.out rfl)
      have r3 : W6.cell? ⟨R, c * 4 + 3, none⟩ = some (.slice ta tm tc) := (HO6.out.cellAt (c * 4 + 3) (by omega)).trans (zAn _ 4 HL4.out c _ 3 _ HCV.out rfl)
      have f0 := HO6.out.frozenAt (c * 4)
      have f1 := HO6.out.frozenAt (c * 4 + 1)
      have f2 := HO6.out.frozenAt (c * 4 + 2)
      have f3 := HO6.out.frozenAt (c * 4 + 3)
      have HST := hid (show ((((W6.drew.setCell ⟨R, c * 4, none⟩ (.bool (⟨t.u, t.k, n2, t.b⟩ : Vc).u)).setCell ⟨R, c * 4 + 1, none⟩ (.int .i64 (⟨t.u, t.k, n2, t.b⟩ : Vc).k)).setCell ⟨R, c * 4 + 2, none⟩ (.int .i64 (⟨t.u, t.k, n2, t.b⟩ : Vc).n)).setCell ⟨R, c * 4 + 3, none⟩ (.slice ta tm tc)).ownsRow w.heap.size 36 4 (.slice (some ⟨R, 0, none⟩) m rc) m ((L.set c ((⟨t.u, t.k, n2, t.b⟩ : Vc), .slice ta tm tc)).map cellsV).flatten from by
       have ho := (((((show W6.drew.ownsRow w.heap.size 36 4 (.slice (some ⟨R, 0, none⟩) m rc) m (L.map cellsV).flatten from HO6.out).stored (c * 4) (.bool (⟨t.u, t.k, n2, t.b⟩ : Vc).u)).1.stored (c * 4 + 1) (.int .i64 (⟨t.u, t.k, n2, t.b⟩ : Vc).k)).1.stored (c * 4 + 2) (.int .i64 (⟨t.u, t.k, n2, t.b⟩ : Vc).n)).1.stored (c * 4 + 3) (.slice ta tm tc)).1
       rw [zEj _ c _ _ _ _ HL4.out (by rw [Qh, HLL.out]; exact hcn)] at ho
       rw [Qi]
       exact ho)
      have HBZ := hid (show Below w.heap.size w ((((W6.drew.setCell ⟨R, c * 4, none⟩ (.bool (⟨t.u, t.k, n2, t.b⟩ : Vc).u)).setCell ⟨R, c * 4 + 1, none⟩ (.int .i64 (⟨t.u, t.k, n2, t.b⟩ : Vc).k)).setCell ⟨R, c * 4 + 2, none⟩ (.int .i64 (⟨t.u, t.k, n2, t.b⟩ : Vc).n)).setCell ⟨R, c * 4 + 3, none⟩ (.slice ta tm tc)) from ((((zAa HB6.out (zAb W6.heap.size W6)).setCell (p := ⟨R, c * 4, none⟩) hRw _).setCell (p := ⟨R, c * 4 + 1, none⟩) hRw _).setCell (p := ⟨R, c * 4 + 2, none⟩) hRw _).setCell (p := ⟨R, c * 4 + 3, none⟩) hRw _)
      set_option maxRecDepth 100000 in
       refine wp_region_noPanic ?_
       refine wp_region_held_drew (S := fun w' => ((w'.cell? ⟨sb, so + q * 6, none⟩ = some (.int .i64 (c : Int)) ∧ w'.cell? ⟨sb, so + q * 6 + 2, none⟩ = some (.bool yv.u) ∧ w'.cell? ⟨sb, so + q * 6 + 3, none⟩ = some (.int .i64 yv.k) ∧ w'.cell? ⟨sb, so + q * 6 + 4, none⟩ = some (.int .i64 yv.n) ∧ w'.cell? ⟨sb, so + q * 6 + 5, none⟩ = some (.slice ysa ysm ysc)) ∧ (w'.cell? ⟨VB, 0, none⟩ = some (.bool t.u) ∧ w'.cell? ⟨VB, 1, none⟩ = some (.int .i64 t.k) ∧ w'.cell? ⟨VB, 2, none⟩ = some (.int .i64 n2) ∧ w'.cell? ⟨VB, 3, none⟩ = some (.slice ta tm tc))) ∧ Below w.heap.size w w') (by kernel_rfl) ?hS0C (fun hHeld => ?go0C)
       case' hS0C => ((try dsimp only); exact HCV6.out _ (Agree.refl _ _).drew)
       refine tkH 0 (v := ?v0C) rfl (.inl ⟨by rfl, ?y0C⟩) ?_
       case' y0C => (intro w hSw; first | (go_simp; done) | (go_simp; with_reducible rfl))
       (try simp only [Act.put, Qa, Qb, Qc, Qd, Qe, Qf])
       refine tkH 1 (v := ?v1C) rfl (.inl ⟨by rfl, ?y1C⟩) ?_
       case' y1C => (intro w hSw; first | (go_simp; done) | (go_simp; with_reducible rfl))
       (try simp only [Act.put, Qa, Qb, Qc, Qd, Qe, Qf])
       refine tkH 2 (v := ?v2C) rfl (.inl ⟨by rfl, ?y2C⟩) ?_
       case' y2C => (intro w hSw; first | (go_simp; done) | (go_simp; with_reducible rfl))
       (try simp only [Act.put, Qa, Qb, Qc, Qd, Qe, Qf])
       refine tkH 3 (v := ?v3C) rfl (.inl ⟨by rfl, ?y3C⟩) ?_
       case' y3C => (intro w hSw; first | (go_simp; done) | (go_simp; with_reducible rfl))
       (try simp only [Act.put, Qa, Qb, Qc, Qd, Qe, Qf])
       refine tkH 4 (v := ?v4C) rfl (.inl ⟨by rfl, ?y4C⟩) ?_
       case' y4C => (intro w hSw; first | (go_simp; done) | (go_simp; with_reducible rfl))
       (try simp only [Act.put, Qa, Qb, Qc, Qd, Qe, Qf])
       refine tkH 5 (v := ?v5C) rfl (.inl ⟨by rfl, ?y5C⟩) ?_
       case' y5C => (intro w hSw; first | (go_simp; done) | (go_simp; with_reducible rfl))
       (try simp only [Act.put, Qa, Qb, Qc, Qd, Qe, Qf])
       refine tkH 6 (v := ?v6C) rfl (.inl ⟨by rfl, ?y6C⟩) ?_
       case' y6C => (intro w hSw; first | (go_simp; done) | (go_simp; with_reducible rfl))
       (try simp only [Act.put, Qa, Qb, Qc, Qd, Qe, Qf])
       refine tkH 7 (v := ?v7C) rfl (.inl ⟨by rfl, ?y7C⟩) ?_
       case' y7C => (intro w hSw; first | (go_simp; done) | (go_simp; with_reducible rfl))
       (try simp only [Act.put, Qa, Qb, Qc, Qd, Qe, Qf])
       refine wpAnyH_ready (rs := [8]) (by kernel_rfl) (by simp) ?_
       refine AllReadyH.cons (o := _) rfl (fun K8a hK8a => ?_) AllReadyH.nil
       go_simp
       refine hK8a.out _ _ ?hS8aC (fun hHeld8a => ?_)
       case' hS8aC => ((try dsimp only); exact HCV6.out _ HAG.out)
       clear hK8a K8a
       (try simp only [Act.put, Qa, Qb, Qc, Qd, Qe, Qf])
       refine wpAnyH_done (by kernel_rfl) ?_ _
       refine NoPanic.normal ?_
      go_wp2_with fail
      go_roundw
      case rel =>
       refine ⟨q + 1, L.set c ((⟨t.u, t.k, n2, t.b⟩ : Vc), .slice ta tm tc), by omega, by go_num, HST.out, by rw [Qq]; exact HLL.out, fun u hu => ?_, by rw [HEQ.out, HSO.out, Qi], HBZ.out⟩
       rcases Qr hu with hu | hu
       ·exact HLK.out u hu
       ·rw [hu]; exact ⟨HTK.out.1, HI5.out⟩
      case measure => simp [intOf]; omega
     ·rw [decide_eq_false hin]
      have HSO := hid (zHl (r := L.map Prod.fst) (y := ⟨(c : Int), true, yv, .slice ysa ysm ysc⟩) (l := l.drop (q + 1)) (t := t) rfl HTF.out (by unfold becT; rw [if_neg (by simp), if_neg (by rw [HTU.out]; simp), if_neg (show ¬ (-9223372036854775808 <= t.n + yv.n ∧ t.n + yv.n < 9223372036854775808) from hin)]))
      clear hin
      go_wp2_with fail
      go_ret2
      rw [HEQ.out, HSO.out]
      exact ⟨rfl, HB5.out⟩
  ·have hlti : ¬ (q : Int) < (ln : Int) := by omega
   have hdr : l.drop q = [] := List.drop_eq_nil_of_le (by rw [<- HLN.out]; omega)
   rw [hdr] at HEQ
   clear hdr
   go_wp2_with fail
   go_ret2
   rw [HEQ.out]
   exact ⟨⟨_, L, rfl, ⟨zCb HO.out (by rw [Qh, HLL.out]) (fun t ht => by obtain ⟨y, _, rfl⟩ := Qp.1 ht; rfl), fun u hu => (HLK.out u hu).1.kept HBr.out⟩, rfl⟩, HBr.out⟩
end Go.Proofs.Ytnfjdoeemnhkbaa
