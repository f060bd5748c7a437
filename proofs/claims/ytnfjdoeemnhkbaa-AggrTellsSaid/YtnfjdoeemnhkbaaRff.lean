import Derived.Test.YtnfjdoeemnhkbaaRfd
import Derived.Test.YtnfjdoeemnhkbaaRfe
import Derived.Deep.RegionHeld3
set_option linter.unusedVariables false
set_option linter.unusedSimpArgs false
set_option maxRecDepth 100000
set_option maxHeartbeats 8000000
open Go.Lib (hid)
namespace Go.Proofs.Ytnfjdoeemnhkbaa
open Go.RowKit Sy
open _root_.List renaming getElem_toArray -> Qa, getElem_cons_succ -> Qb, getElem_cons_zero -> Qc, setIfInBounds_toArray -> Qd, set_cons_zero -> Qe, set_cons_succ -> Qf, mem_map -> Qh, map_append -> Qi, length_map -> Qj, foldl_append -> Qk, foldl_cons -> Qm, map_map -> Qn, getElem?_map -> Qo, getElem?_eq_getElem -> Qp, mem_of_getElem? -> Qq, take_of_length_le -> Qv, mem_cons_self -> Qw, mem_cons_of_mem -> Qx, take_zero -> Qy, foldl_map -> Qz
open Go.World renaming block_lt_of_cell? -> Qg
open _root_.Nat renaming le_refl -> Ql, zero_le -> Qt
open _root_.Array renaming getElem?_eq_some_iff -> Qr
open Go.IntWalk renaming i64_in -> Qu
open Go renaming cell_of_row -> Ja, frozen_of_row -> Jb, heap_setCell_other -> Jc, heap_alloc_new -> Jd
def bestStep (s : Int) (best v : Vc) : Vc := if v.u = true then best else if best.u = true ∨ 0 < refC v best * s then v else best
theorem zIh {kk : Int} (hkk : kk = 1 ∨ kk = 2) (s : Int) : ∀ (L : List Vc), (∀ v ∈ L, NormV v ∧ v.k = kk) -> ∀ (b : Vc), NormV b -> b.k = kk -> L.foldl (bestStep s) b = L.foldl (extStep s) b
 | [], _, _, _, _ => rfl
 | v :: L, h, b, hb, hbk => by
  obtain ⟨hv, hvk⟩ := h v Qw
  have e : bestStep s b v = extStep s b v := by
   unfold bestStep extStep
   by_cases hu : v.u = true
   ·rw [if_pos hu, if_pos hu]
    split
    ·obtain ⟨bu, bk, bn, bb⟩ := b
     simp only at hbk ⊢
     rw [hvk, hbk]
    ·rfl
   ·rw [if_neg hu, if_neg hu, show refC v b = cmpT v b by rw [zJe hv hb hvk hbk hkk, zBg hv hb (hvk.trans hbk.symm)]]
  rw [Qm, Qm, e]
  refine zIh hkk s L (fun v hv => h v (Qx _ hv)) _ ?_ ?_
  ·rw [<- e]; unfold bestStep; split
   ·exact hb
   ·split
    ·exact hv
    ·exact hb
  ·rw [<- e]; unfold bestStep; split
   ·exact hbk
   ·split
    ·exact hvk
    ·exact hbk
theorem zMy (k : Int) : NormV ⟨true, k, 0, []⟩ := ⟨fun _ => ⟨rfl, rfl⟩, fun _ => rfl, fun _ => rfl⟩
theorem zJg {kk : Int} (hkk : kk = 1 ∨ kk = 2) (s : Int) (L : List Vc) (h : ∀ v ∈ L, NormV v ∧ v.k = kk) : L.foldl (bestStep s) ⟨true, (if L.length = 0 then 0 else kk), 0, []⟩ = L.foldl (extStep s) ⟨true, 0, 0, []⟩ := by
 match L, h with
 | [], _ => rfl
 | v :: L, h =>
  obtain ⟨hv, hvk⟩ := h v Qw
  rw [if_neg (by simp), Qm, Qm]
  have e : bestStep s ⟨true, kk, 0, []⟩ v = extStep s ⟨true, 0, 0, []⟩ v := by
   unfold bestStep extStep
   by_cases hu : v.u = true
   ·rw [if_pos hu, if_pos hu, if_pos rfl, hvk]
   ·rw [if_neg hu, if_neg hu, if_pos (.inl rfl), if_pos (.inl rfl)]
  have e2 : (bestStep s ⟨true, kk, 0, []⟩ v).k = kk ∧ NormV (bestStep s ⟨true, kk, 0, []⟩ v) := by
   unfold bestStep
   split
   ·exact ⟨rfl, zMy kk⟩
   ·rw [if_pos (.inl rfl)]
    exact ⟨hvk, hv⟩
  rw [<- e]
  exact zIh hkk s L (fun v hv => h v (Qx _ hv)) _ e2.2 e2.1
def RetO (w : World) (o : Option Vc) (e : Ending) : Prop := match o with
 | none => ∃ (z : Vc) (a : Option Addr) (m c : Nat), e = .returned (.tuple #[.agg #[.bool z.u, .int .i64 z.k, .int .i64 z.n, .slice a m c], .bool false])
 | some r => ∃ s, e = .returned (.tuple #[aggV (r, s), .bool true]) ∧ OkV w (r, s)
theorem zA2 {w : World} {X : Nat} {a b c d : Value} (h : w.heap[X]? = some (.cells #[a, b, c, d] 36 (0, 0))) : w.cell? ⟨X, 0, none⟩ = some a ∧ w.cell? ⟨X, 1, none⟩ = some b ∧ w.cell? ⟨X, 2, none⟩ = some c ∧ w.cell? ⟨X, 3, none⟩ = some d ∧ w.frozen? ⟨X, 0, none⟩ = false ∧ w.frozen? ⟨X, 1, none⟩ = false ∧ w.frozen? ⟨X, 2, none⟩ = false ∧ w.frozen? ⟨X, 3, none⟩ = false :=
 ⟨by rw [Ja w X 0 _ _ _ h]; rfl, by rw [Ja w X 1 _ _ _ h]; rfl, by rw [Ja w X 2 _ _ _ h]; rfl, by rw [Ja w X 3 _ _ _ h]; rfl, Jb w X 0 _ _ h, Jb w X 1 _ _ h, Jb w X 2 _ _ h, Jb w X 3 _ _ h⟩
structure Held3 (k c : Int) (AB OB BB : Nat) (b : List Value) (w : World) : Prop where
 ag : w.heap[AB]? = some (.cells #[.int .i64 k, .int .i64 c] 32 (0, 0))
 out : w.heap[OB]? = some (.cells #[.bool false, .int .i64 0, .int .i64 0, .slice none 0 0] 36 (0, 0))
 best : w.heap[BB]? = some (.cells b.toArray 36 (0, 0))
theorem Held3.to {k c : Int} {AB OB BB : Nat} {b : List Value} {w w' : World} (h : Held3 k c AB OB BB b w) (hb : ∀ i, i <= BB -> w'.heap[i]? = w.heap[i]?) (h1 : AB <= BB) (h2 : OB <= BB) : Held3 k c AB OB BB b w' :=
 ⟨(hb AB h1).trans h.ag, (hb OB h2).trans h.out, (hb BB (Ql _)).trans h.best⟩
theorem zN4 (kk : Int) (hkk : kk = 1 ∨ kk = 2) (E : List El) (k : Int) (c : Nat) (hk : k = 1 ∨ k = 2 ∨ k = 3 ∨ k = 4) (hl : E.length <= 1000000) (v : Value) (w0 w : World) (hb0 : Below w0.heap.size w0 w) (hv : Rd w v (E.map Prod.fst)) (hr : ∀ x ∈ E, RdP w x.1 x.2 ∧ c < x.2.length ∧ x.2.length <= 1000) (hr0 : ∀ x ∈ E, ∀ t ∈ x.2, OkV w0 t) (hn : ∀ x ∈ E, NormV (atT x.row c) ∧ (atT x.row c).k = kk ∧ I64 (atT x.row c).n) :
  Calls Try.prog 88 #[v, .agg #[.int .i64 k, .int .i64 (c : Int)]] w fun e w' => RetO w0 (totT (E.map El.row) k c) e ∧ Below w.heap.size w w' := by
 obtain ⟨va, vc, hvs⟩ : ∃ ao cap, v = .slice ao (E.map Prod.fst).length cap := by obtain ⟨ao, cap, h, _⟩ := hv; exact ⟨ao, cap, h⟩
 obtain ⟨n, hN⟩ : ∃ n, n = E.length := ⟨_, rfl⟩
 rw [Qj, <- hN] at hvs
 subst hvs
 rw [<- hN] at hl
 have HN := hid hN
 have HV := hid hv
 have HR := hid hr
 have HNV := hid hn
 have HKK := hid hkk
 obtain ⟨P, hP⟩ : ∃ P : List (Vc × Value), P = E.map fun x => atP x.2 c := ⟨_, rfl⟩
 have HPF := hid (show P.map Prod.fst = (E.map El.row).map fun r => atT r c from by rw [hP, Qn, Qn]; exact List.map_congr_left fun x _ => zBo x.2 c)
 have HB0 := hid hb0
 have HPO := hid (show ∀ t ∈ P, OkV w0 t from fun t ht => by
  rw [hP] at ht
  obtain ⟨x, hx, rfl⟩ := Qh.1 ht
  rcases zC5 x.2 c with h | h
  ·rw [h]; exact ⟨Rd.nil _, fun u hu => by cases hu⟩
  ·exact hr0 x hx _ h)
 have HPN := hid (show ∀ t ∈ P, NormV t.1 ∧ t.1.k = kk ∧ I64 t.1.n from fun t ht => by rw [hP] at ht; obtain ⟨x, hx, rfl⟩ := Qh.1 ht; rw [zBo]; exact hn x hx)
 have HPA := hid (show ∀ (i : Nat) (x : El), E[i]? = some x -> P[i]? = some (atP x.2 c) from fun i x hx => by rw [hP, Qo, hx]; rfl)
 have hpl : P.length = n := by rw [hP, Qj, hN]
 have HPL := hid hpl
 clear hN hv hr hr0 hb0 hn hkk hP hpl
 obtain ⟨AB, hAB⟩ : ∃ AB, AB = w.heap.size := ⟨_, rfl⟩
 obtain ⟨OB, hOB⟩ : ∃ OB, OB = w.heap.size + 1 := ⟨_, rfl⟩
 obtain ⟨BB, hBB⟩ : ∃ BB, BB = w.heap.size + 1 + 1 := ⟨_, rfl⟩
 obtain ⟨V, hV⟩ : ∃ V : World, V = (w.alloc (.cells #[.int .i64 k, .int .i64 (c : Int)] 32)).alloc (.cells #[.bool false, .int .i64 0, .int .i64 0, .slice none 0 0] 36) := ⟨_, rfl⟩
 obtain ⟨W, hW⟩ : ∃ W : World, W = V.alloc (.cells #[.bool true, .int .i64 0, .int .i64 0, .slice none 0 0] 36) := ⟨_, rfl⟩
 have hbV : Below w.heap.size w V := by rw [hV]; exact zAw w _ _
 have hsV : V.heap.size = w.heap.size + 2 := by rw [hV]; simp
 have hsW : W.heap.size = BB + 1 := by rw [hW, hBB]; simp; omega
 have HBW := hid (show Below w.heap.size w W by rw [hW]; exact zAe hbV _)
 have HH := hid (show Held3 k c AB OB BB [.bool true, .int .i64 0, .int .i64 0, .slice none 0 0] W from ⟨by
  rw [hW, hAB, heap_alloc_old _ _ (by omega), hV]
  exact (heap_alloc_old _ _ (by simp)).trans (Jd w _), by
  rw [hW, hOB, heap_alloc_old _ _ (by omega), hV]
  exact zDd w _ _, by
  rw [hW, hBB, show w.heap.size + 1 + 1 = V.heap.size by omega]
  exact Jd V _⟩)
 have HNE := hid (show AB <= BB ∧ OB <= BB ∧ w.heap.size <= AB ∧ w.heap.size <= OB ∧ w.heap.size <= BB ∧ OB ≠ BB ∧ AB ≠ BB ∧ AB ≠ OB from by omega)
 have HSW := hid hsW
 go_enter Try.func88, Try.ntmps88
 go_upto_region 3 with (fail)
 rw [<- hV, <- hW, <- hBB, <- hOB, <- hAB]
 clear hV hW hAB hOB hBB hbV hsV hsW
 go_wp2_with fail
 go_loopw [6, 8] (fun z i wr => ∃ (q : Nat) (la : Option Addr) (lc : Nat), q <= n ∧ i = .int .i64 (q : Int) ∧ z = .slice la q lc ∧ wr.ownsRow (BB + 1) 36 4 (.slice la q lc) q ((P.take q).map cellsV).flatten ∧ Held3 k c AB OB BB [.bool true, .int .i64 (if q = 0 then 0 else kk), .int .i64 0, .slice none 0 0] wr ∧ BB + 1 <= wr.heap.size ∧ Below w.heap.size w wr) (fun _ i _ => n - (intOf i).toNat)
 case atStart => exact ⟨0, none, 0, Qt _, rfl, rfl, World.ownsRow_nil .., HH.out, by rw [HSW.out]; exact Ql _, HBW.out⟩
 case round =>
  obtain ⟨q, la, lc, hq, rfl, rfl, hown, hh, hsz, hb⟩ := hrel
  have HO := hid hown
  have HHq := hid hh
  have HB := hid hb
  have HSZ := hid hsz
  clear hown hh hb hsz
  by_cases hlt : q < n
  ·obtain ⟨x, hx⟩ : ∃ x, E[q]? = some x := ⟨_, Qp (by rw [<- HN.out]; exact hlt)⟩
   have hxm := Qq hx
   obtain ⟨hxr, hxc, hxl⟩ := HR.out x hxm
   obtain ⟨vb, vo, hva, hcell⟩ := (zA4 HV.out).2 (by omega)
   subst hva
   obtain ⟨tt, htt⟩ : ∃ tt, x.2[c]? = some tt := ⟨_, Qp hxc⟩
   have htp : P[q]? = some tt := by
    rw [HPA.out q x hx]
    unfold atP
    rw [if_neg (by omega), Int.toNat_natCast, List.getD_eq_getElem?_getD, htt]
    rfl
   have htk := (HPN.out tt (Qq htp)).2.1
   obtain ⟨xa0, xc, hxs⟩ := zBe hxr
   obtain ⟨xm, hxn⟩ : ∃ xm, xm = x.2.length := ⟨_, rfl⟩
   rw [<- hxn] at hxs hxl hxc
   have cx0 : w.cell? ⟨vb, vo + q, none⟩ = some (.slice xa0 xm xc) := hcell q _ (by omega) (by rw [Qo, hx, <- hxs]; rfl)
   have hxr2 := hxr
   rw [hxs] at hxr2
   obtain ⟨xb, xo, rfl, p0, p1, p2, p3, okt⟩ := hxr2.at htt
   obtain ⟨ta, tc, hts⟩ := zAo okt.1
   obtain ⟨tm, htm⟩ : ∃ tm, tm = tt.1.b.length := ⟨_, rfl⟩
   rw [<- htm] at hts
   obtain ⟨t, ts⟩ := tt
   simp only at hts p0 p1 p2 p3 htm htk
   subst hts
   have ca1 : wr.cell? ⟨AB, 1, none⟩ = some (.int .i64 (c : Int)) := by rw [Ja wr AB 1 _ _ _ HHq.out.ag]; rfl
   have HCX := hid (show ∀ w', Below wr.heap.size wr w' -> (w'.cell? ⟨vb, vo + q, none⟩ = some (.slice (some ⟨xb, xo, none⟩) xm xc) ∧ w'.cell? ⟨AB, 1, none⟩ = some (.int .i64 (c : Int)) ∧ w'.cell? ⟨xb, xo + c * 4, none⟩ = some (.bool t.u) ∧ w'.cell? ⟨xb, xo + c * 4 + 1, none⟩ = some (.int .i64 t.k) ∧ w'.cell? ⟨xb, xo + c * 4 + 2, none⟩ = some (.int .i64 t.n) ∧ w'.cell? ⟨xb, xo + c * 4 + 3, none⟩ = some (.slice ta tm tc)) ∧ Below wr.heap.size wr w' from fun w' hw => by
    have h := zAa HB.out hw
    exact ⟨⟨(h.cell (Qg _ _ cx0)).trans cx0, (hw.cell (Qg _ _ ca1)).trans ca1, (h.cell (Qg _ _ p0)).trans p0, (h.cell (Qg _ _ p1)).trans p1, (h.cell (Qg _ _ p2)).trans p2, (h.cell (Qg _ _ p3)).trans p3⟩, hw⟩)
   have HTK := hid (show ((P.take q).map cellsV).flatten ++ [[Value.bool t.u, .int .i64 t.k, .int .i64 t.n, .slice ta tm tc]].flatten = ((P.take (q + 1)).map cellsV).flatten from by
    rw [zA7 htp, Qi, List.flatten_append]
    rfl)
   have HKT := hid htk
   have hlti : (q : Int) < (n : Int) := by omega
   have hq0 : (0 : Int) <= (q : Int) := by omega
   have hq1 : IntKind.i64.wrap ((q : Int) + 1) = (q : Int) + 1 := Qu _ (by omega)
   have hci0 : (0 : Int) <= (c : Int) := by omega
   have hcm : (c : Int) < (xm : Int) := by omega
   clear hx hxm hxr hxr2 hcell hxs hxn htt htp htk okt htm cx0 p0 p1 p2 p3 ca1 hxl hxc
   go_upto_region 6 with (fail)
   refine wp_region_noPanic ?_
   refine wp_region_held_drew (S := fun w' => (w'.cell? ⟨vb, vo + q, none⟩ = some (.slice (some ⟨xb, xo, none⟩) xm xc) ∧ w'.cell? ⟨AB, 1, none⟩ = some (.int .i64 (c : Int)) ∧ w'.cell? ⟨xb, xo + c * 4, none⟩ = some (.bool t.u) ∧ w'.cell? ⟨xb, xo + c * 4 + 1, none⟩ = some (.int .i64 t.k) ∧ w'.cell? ⟨xb, xo + c * 4 + 2, none⟩ = some (.int .i64 t.n) ∧ w'.cell? ⟨xb, xo + c * 4 + 3, none⟩ = some (.slice ta tm tc)) ∧ Below wr.heap.size wr w') (by kernel_rfl) ?hS0 (fun hHeld => ?go0)
   case' hS0 => ((try dsimp only); exact HCX.out _ (zAb wr.heap.size wr))
   refine tkH 0 (v := ?v0) rfl (.inl ⟨by rfl, ?y0⟩) ?_
   case' y0 => (intro w hSw; first | (go_simp; done) | (go_simp; with_reducible rfl))
   (try simp only [Act.put, Qa, Qb, Qc, Qd, Qe, Qf])
   refine tkH 1 (v := ?v1) rfl (.inl ⟨by rfl, ?y1⟩) ?_
   case' y1 => (intro w hSw; first | (go_simp; done) | (go_simp; with_reducible rfl))
   (try simp only [Act.put, Qa, Qb, Qc, Qd, Qe, Qf])
   refine tkH 2 (v := ?v2) rfl (.inl ⟨by rfl, ?y2⟩) ?_
   case' y2 => (intro w hSw; first | (go_simp; done) | (go_simp; with_reducible rfl))
   (try simp only [Act.put, Qa, Qb, Qc, Qd, Qe, Qf])
   refine tkH 3 (v := ?v3) rfl (.inl ⟨by rfl, ?y3⟩) ?_
   case' y3 => (intro w hSw; first | (go_simp; done) | (go_simp; with_reducible rfl))
   (try simp only [Act.put, Qa, Qb, Qc, Qd, Qe, Qf])
   refine tkH 4 (v := ?v4) rfl (.inl ⟨by rfl, ?y4⟩) ?_
   case' y4 => (intro w hSw; first | (go_simp; done) | (go_simp; with_reducible rfl))
   (try simp only [Act.put, Qa, Qb, Qc, Qd, Qe, Qf])
   refine tkH 5 (v := ?v5) rfl (.inl ⟨by rfl, ?y5⟩) ?_
   case' y5 => (intro w hSw; first | (go_simp; done) | (go_simp; with_reducible rfl))
   (try simp only [Act.put, Qa, Qb, Qc, Qd, Qe, Qf])
   refine tkH 6 (v := ?v6) rfl (.inl ⟨by rfl, ?y6⟩) ?_
   case' y6 => (intro w hSw; first | (go_simp; done) | (go_simp; with_reducible rfl))
   (try simp only [Act.put, Qa, Qb, Qc, Qd, Qe, Qf])
   refine tkH 7 (v := ?v7) rfl (.inl ⟨by rfl, ?y7⟩) ?_
   case' y7 => (intro w hSw; first | (go_simp; done) | (go_simp; with_reducible rfl))
   (try simp only [Act.put, Qa, Qb, Qc, Qd, Qe, Qf])
   refine wpAnyH_ready (rs := [8]) (by kernel_rfl) (by simp) ?_
   refine AllReadyH.cons (o := _) rfl (fun K8a hK8a => ?_) AllReadyH.nil
   go_simp
   (have hb1 : Below wr.heap.size wr (wr.drew.alloc (.cells #[.bool false, .int .i64 0, .int .i64 0, .slice none 0 0] 36)) := zAe (zAb wr.heap.size wr) _)
   refine hK8a.out _ _ ?hS8a (fun hHeld8a => ?_)
   case' hS8a => ((try dsimp only); exact HCX.out _ hb1)
   clear hK8a K8a
   (try simp only [Act.put, Qa, Qb, Qc, Qd, Qe, Qf])
   refine wpAnyH_ready (rs := [9]) (by kernel_rfl) (by simp) ?_
   refine AllReadyH.cons (o := _) rfl (fun K9b hK9b => ?_) AllReadyH.nil
   go_simp
   (have hb2 : Below wr.heap.size wr (wr.drew.alloc (.cells #[.bool t.u, .int .i64 t.k, .int .i64 t.n, .slice ta tm tc] 36)) := zAe (zAb wr.heap.size wr) _)
   refine hK9b.out _ _ ?hS9b (fun hHeld9b => ?_)
   case' hS9b => ((try dsimp only); exact HCX.out _ hb2)
   clear hK9b K9b
   (try simp only [Act.put, Qa, Qb, Qc, Qd, Qe, Qf])
   refine wpAnyH_done (by kernel_rfl) ?_ _
   refine NoPanic.normal ?_
   go_upto_region 7 with (fail)
   obtain ⟨W7, hW7⟩ : ∃ W7 : World, W7 = (wr.alloc (.cells #[.bool t.u, .int .i64 t.k, .int .i64 t.n, .slice ta tm tc] 36)).drew := ⟨_, rfl⟩
   obtain ⟨X7, hX7⟩ : ∃ X7, X7 = wr.heap.size := ⟨_, rfl⟩
   have hx7 : W7.heap[X7]? = some (.cells #[.bool t.u, .int .i64 t.k, .int .i64 t.n, .slice ta tm tc] 36 (0, 0)) := by rw [hW7, hX7]; exact Jd wr _
   have HX7 := hid hx7
   have HXE := hid hX7
   have hb7 : Below wr.heap.size wr W7 := by rw [hW7]; exact zAa (zAi wr _) (zAb _ _)
   rw [<- hW7]
   rw [<- hX7]
   have HB7 := hid hb7
   clear hb7 hb1 hb2 hW7 hX7 hHeld
   have c7 := zA2 hx7
   obtain ⟨c70, c71, c72, c73, _⟩ := c7
   have hbb : (.slice la q lc : Value).ownBlock = none ∨ True := .inr trivial
   clear hbb hx7
   have HOWN := hid (zAf HO.out (zAc (zAe HB7.out (.cells #[.bool t.u, .int .i64 t.k, .int .i64 t.n, .slice ta tm tc] 36))) (Ql _))
   have HRD := hid (zAv (Jd W7 (.cells #[.bool t.u, .int .i64 t.k, .int .i64 t.n, .slice ta tm tc] 36)) 4)
   have HSZ7 := hid (show BB + 1 <= (W7.alloc (.cells #[.bool t.u, .int .i64 t.k, .int .i64 t.n, .slice ta tm tc] 36)).heap.size from by have := HSZ.out; have := HB7.out.size; simp; omega)
   go_wp2_with (at_builtin; go_must (refine zAq zCc rfl _ _ rfl (BB + 1) _ _ _ rfl HOWN.out _ _ rfl HRD.out (zDm t.u t.k t.n ta tm tc) (by simp; omega) HSZ7.out (q + 1) rfl ?_); intro la2 lc2 w8 hown8 hg8 hn8; have HO8 := hid hown8; have HG8 := hid hg8; clear hown8 hg8 hn8; have hlow : ∀ i, i <= BB -> w8.heap[i]? = wr.heap[i]? := (fun i hi => (HG8.out.block i (by have := HSZ7.out; omega) (fun e => by have := zAg HOWN.out i e.symm; omega)).trans ((heap_alloc_old W7 (.cells #[.bool t.u, .int .i64 t.k, .int .i64 t.n, .slice ta tm tc] 36) (by have := HSZ.out; have := HB7.out.size; omega)).trans (HB7.out.block i (by have := HSZ.out; omega)))); have hx8 : w8.heap[X7]? = some (.cells #[.bool t.u, .int .i64 t.k, .int .i64 t.n, .slice ta tm tc] 36 (0, 0)) := ((HG8.out.block X7 (by have := (Qr.1 HX7.out).1; simp; omega) (fun e => by have := (HO.out.lt X7 e.symm).2; have := HXE.out; omega)).trans ((heap_alloc_old W7 (.cells #[.bool t.u, .int .i64 t.k, .int .i64 t.n, .slice ta tm tc] 36) (Qr.1 HX7.out).1).trans HX7.out)); have HH8 := hid (HHq.out.to hlow HNE.out.1 HNE.out.2.1); have HB8 := hid ((zAa HB.out (zAe HB7.out (.cells #[.bool t.u, .int .i64 t.k, .int .i64 t.n, .slice ta tm tc] 36))).grown HG8.out (by have := HNE.out; have := HSZ7.out; omega) (fun i e => by have := zAg HOWN.out i e; have := HNE.out; omega)); have c81 := (zA2 hx8).2.1; have b1 := (zA2 HH8.out.best).2.1; have fb1 := (zA2 HH8.out.best).2.2.2.2.2.1; clear c70 c71 c72 c73 hlow hx8)
   go_roundw
   case rel =>
    refine ⟨q + 1, la2, lc2, by omega, by go_num, rfl, ?_, ?_, ?_, HB8.out.setCell (p := ⟨BB, 1, none⟩) HNE.out.2.2.2.2.1 _⟩
    ·have h := HO8.out
     rw [show ((P.take q).map cellsV).flatten ++ [(#[Value.bool t.u, .int .i64 t.k, .int .i64 t.n, .slice ta tm tc] : Array Value).toList].flatten = ((P.take (q + 1)).map cellsV).flatten from HTK.out] at h
     exact zAj h (zAs (fun b => b = BB) w8 ⟨BB, 1, none⟩ _ rfl) fun b hb e => by have := zAg h b hb; omega
    ·rw [if_neg (by omega), HKT.out]
     refine ⟨(Jc w8 ⟨BB, 1, none⟩ AB _ HNE.out.2.2.2.2.2.2.1).trans HH8.out.ag, (Jc w8 ⟨BB, 1, none⟩ OB _ HNE.out.2.2.2.2.2.1).trans HH8.out.out, heap_setCell_same w8 BB 1 _ _ _ HH8.out.best⟩
    ·have h := HB8.out.size
     have h2 := HSZ7.out
     have h3 := HG8.out.size
     show BB + 1 <= (w8.setCell _ _).heap.size
     rw [show (w8.setCell ⟨BB, 1, none⟩ (.int .i64 t.k)).heap.size = w8.heap.size from by simp [World.setCell]]
     omega
   case measure => simp [intOf]; omega
  ·have hlti : ¬ (q : Int) < (n : Int) := by omega
   obtain rfl : q = n := by omega
   have HLP := hid (show wr.ownsRow (BB + 1) 36 4 (.slice la q lc) q (P.map cellsV).flatten from by have h := HO.out; rw [Qv (by rw [HPL.out]; exact Ql _)] at h; exact h)
   have HOQ := hid HLP.out
   have a0 : wr.cell? ⟨AB, 0, none⟩ = some (.int .i64 k) := by rw [Ja wr AB 0 _ _ _ HHq.out.ag]; rfl
   have hob := HNE.out.2.2.2.1
   rcases hk with rfl | rfl | rfl | rfl
   ·obtain ⟨o0, o1, o2, o3, f0, f1, f2, f3⟩ := zA2 HHq.out.out
    have HT := hid (show totT (E.map El.row) 1 c = some ⟨false, 1, (q : Int), []⟩ from by rw [tot1, Qj, <- HN.out])
    go_wp2_with fail
    (try simp only [Exit.inBlock, Exit.then])
    refine bodyPost_ret (zAp rfl _ _ OB _ _ (0, 0) _ _ rfl rfl (zAu HHq.out.out) Try.underlying36 rfl zAz) rfl ?_
    rw [HT.out]
    exact ⟨⟨.slice none 0 0, rfl, ⟨Rd.nil _, fun u hu => by cases hu⟩⟩, (((HB.out.setCell (p := ⟨OB, 0, none⟩) hob _).setCell (p := ⟨OB, 1, none⟩) hob _).setCell (p := ⟨OB, 2, none⟩) hob _).setCell (p := ⟨OB, 3, none⟩) hob _⟩
   ·have HSUM := hid (zJf P (.slice la q lc) wr (by rw [HPL.out]; exact hl) ⟨zCb HLP.out (by rw [Qj, HPL.out]) (fun t ht => by obtain ⟨y, _, rfl⟩ := Qh.1 ht; rfl), fun t ht => (HPO.out t ht).kept (zAa HB0.out HB.out)⟩ fun t ht => (HPN.out t ht).2.2)
    have HNS := hid (show numsT P = sumT (E.map El.row) c from by
     unfold numsT sumT addT
     have h := HPF.out
     have h2 := congrArg (fun L : List Vc => (L.map fun v => if v.u = true then (0 : Int) else v.n).sum) h
     simp only [Qn] at h2
     rw [Qn]
     exact h2)
    go_wp2_with fail
    refine HSUM.out.mono ?_
    rintro e w2 ⟨⟨nn, rfl, hval⟩, hb2⟩
    have HVAL := hid hval
    have HH2 := hid (HHq.out.to (w' := w2) (fun i hi => hb2.block i (by have := HSZ.out; omega)) HNE.out.1 HNE.out.2.1)
    have HB2 := hid (zAa HB.out hb2)
    obtain ⟨o0, o1, o2, o3, f0, f1, f2, f3⟩ := zA2 HH2.out.out
    clear hval hb2 HSUM
    go_wp2_with fail
    (try simp only [Exit.inBlock, Exit.then])
    refine bodyPost_ret (zAp rfl _ _ OB _ _ (0, 0) _ _ rfl rfl (zAu HH2.out.out) Try.underlying36 rfl zAz) rfl ?_
    refine ⟨?_, (((HB2.out.setCell (p := ⟨OB, 0, none⟩) hob _).setCell (p := ⟨OB, 1, none⟩) hob _).setCell (p := ⟨OB, 2, none⟩) hob _).setCell (p := ⟨OB, 3, none⟩) hob _⟩
    have hns := HNS.out
    by_cases hin : InR (numsT P)
    ·have e1 : totT (E.map El.row) 2 c = some ⟨false, 1, sumT (E.map El.row) c, []⟩ := by
      rw [hns] at hin
      unfold totT
      rw [if_neg (by decide), if_pos rfl, if_pos (show -9223372036854775808 <= sumT (E.map El.row) c ∧ sumT (E.map El.row) c < 9223372036854775808 from hin)]
     rw [e1]
     refine ⟨.slice none 0 0, ?_, ⟨Rd.nil _, fun u hu => by cases hu⟩⟩
     rw [decide_eq_true hin, <- hns, <- HVAL.out hin]
     rfl
    ·have e1 : totT (E.map El.row) 2 c = none := by
      rw [hns] at hin
      unfold totT
      rw [if_neg (by decide), if_pos rfl, if_neg (show ¬ (-9223372036854775808 <= sumT (E.map El.row) c ∧ sumT (E.map El.row) c < 9223372036854775808) from hin)]
     rw [e1]
     refine ⟨⟨false, 1, nn, []⟩, none, 0, 0, ?_⟩
     rw [decide_eq_false hin]
     rfl
   ·go_wp2_with fail
    obtain ⟨wo, rfl⟩ : ∃ wo : World, wo = wr := ⟨_, rfl⟩
    go_loopw [12] (fun i wx => ∃ (p : Nat) (b : Vc) (ba : Option Addr) (bm bc : Nat), p <= q ∧ i = .int .i64 (p : Int) ∧ b = ((P.take p).map Prod.fst).foldl (bestStep (-1)) ⟨true, (if q = 0 then 0 else kk), 0, []⟩ ∧ OkV w0 (b, .slice ba bm bc) ∧ Held3 3 c AB OB BB [.bool b.u, .int .i64 b.k, .int .i64 b.n, .slice ba bm bc] wx ∧ wx.ownsRow (BB + 1) 36 4 (.slice la q lc) q (P.map cellsV).flatten ∧ Below w.heap.size w wx) (fun i _ => q - (intOf i).toNat)
    case atStart => exact ⟨0, ⟨true, (if q = 0 then 0 else kk), 0, []⟩, none, 0, 0, Qt _, rfl, by rw [Qy]; rfl, ⟨Rd.nil _, fun u hu => by cases hu⟩, HHq.out, HOQ.out, HB.out⟩
    case round =>
     obtain ⟨p, b, ba, bm, bc, hp, rfl, hbe, hokb, hh, hox, hbx⟩ := hrel
     obtain ⟨wx, rfl⟩ : ∃ wx : World, wx = wr := ⟨_, rfl⟩
     have HBE := hid hbe
     have HOKB := hid hokb
     have HHx := hid hh
     have HOX := hid hox
     have HBX := hid hbx
     clear hbe hokb hh hox hbx
     by_cases hltp : p < q
     ·obtain ⟨tt, htp⟩ : ∃ t, P[p]? = some t := ⟨_, Qp (by rw [HPL.out]; exact hltp)⟩
      have hokt := HPO.out tt (Qq htp)
      obtain ⟨ta, tc, hts⟩ := zAo hokt.1
      obtain ⟨tm, htm⟩ : ∃ tm, tm = tt.1.b.length := ⟨_, rfl⟩
      rw [<- htm] at hts
      obtain ⟨t, ts⟩ := tt
      simp only at hts htm
      subst hts
      obtain ⟨lg, hlg⟩ := zA3 HOX.out (by omega)
      subst hlg
      have HTP := hid htp
      have HOKT := hid hokt
      have hl4 : ∀ u ∈ P.map cellsV, u.length = 4 := fun u hu => by obtain ⟨y, _, rfl⟩ := Qh.1 hu; rfl
      have hcv : (P.map cellsV)[p]? = some (cellsV (t, .slice ta tm tc)) := by rw [Qo, htp]; rfl
      have r0 : wx.cell? ⟨lg, p * 4, none⟩ = some (.bool t.u) := (HOX.out.cellAt (p * 4) (by omega)).trans (zAn _ 4 hl4 p _ 0 _ hcv rfl)
      have r1 : wx.cell? ⟨lg, p * 4 + 1, none⟩ = some (.int .i64 t.k) := (HOX.out.cellAt (p * 4 + 1) (by omega)).trans (zAn _ 4 hl4 p _ 1 _ hcv rfl)
      have r2 : wx.cell? ⟨lg, p * 4 + 2, none⟩ = some (.int .i64 t.n) := (HOX.out.cellAt (p * 4 + 2) (by omega)).trans (zAn _ 4 hl4 p _ 2 _ hcv rfl)
      have r3 : wx.cell? ⟨lg, p * 4 + 3, none⟩ = some (.slice ta tm tc) := (HOX.out.cellAt (p * 4 + 3) (by omega)).trans (zAn _ 4 hl4 p _ 3 _ hcv rfl)
      obtain ⟨e0, e1, e2, e3, _⟩ := zA2 HHx.out.best
      have HCX := hid (show ∀ w', Below wx.heap.size wx w' -> (w'.cell? ⟨lg, p * 4, none⟩ = some (.bool t.u) ∧ w'.cell? ⟨lg, p * 4 + 1, none⟩ = some (.int .i64 t.k) ∧ w'.cell? ⟨lg, p * 4 + 2, none⟩ = some (.int .i64 t.n) ∧ w'.cell? ⟨lg, p * 4 + 3, none⟩ = some (.slice ta tm tc) ∧ w'.cell? ⟨BB, 0, none⟩ = some (.bool b.u) ∧ w'.cell? ⟨BB, 1, none⟩ = some (.int .i64 b.k) ∧ w'.cell? ⟨BB, 2, none⟩ = some (.int .i64 b.n) ∧ w'.cell? ⟨BB, 3, none⟩ = some (.slice ba bm bc)) ∧ Below wx.heap.size wx w' from fun w' h => ⟨⟨(h.cell (Qg _ _ r0)).trans r0, (h.cell (Qg _ _ r1)).trans r1, (h.cell (Qg _ _ r2)).trans r2, (h.cell (Qg _ _ r3)).trans r3, (h.cell (Qg _ _ e0)).trans e0, (h.cell (Qg _ _ e1)).trans e1, (h.cell (Qg _ _ e2)).trans e2, (h.cell (Qg _ _ e3)).trans e3⟩, h⟩)
      obtain ⟨cv, hcve⟩ : ∃ cv, cv = refC t b := ⟨_, rfl⟩
      have HCV := hid hcve
      have HCMP := hid (show ∀ w', Below wx.heap.size wx w' -> Calls Try.prog 12 #[.agg #[.bool t.u, .int .i64 t.k, .int .i64 t.n, .slice ta tm tc], .agg #[.bool b.u, .int .i64 b.k, .int .i64 b.n, .slice ba bm bc]] w' fun e w'' => e = .returned (.int .i64 cv) ∧ Below w'.heap.size w' w'' from fun w' h => by rw [hcve]; exact zDk (t, .slice ta tm tc) (b, .slice ba bm bc) w' (HOKT.out.kept (zAa HB0.out (zAa HBX.out h))) (HOKB.out.kept (zAa HB0.out (zAa HBX.out h))))
      have hpi : (p : Int) < (q : Int) := by omega
      have hp0 : (0 : Int) <= (p : Int) := by omega
      have hp1 : IntKind.i64.wrap ((p : Int) + 1) = (p : Int) + 1 := Qu _ (by omega)
      clear htp hokt hl4 hcv r0 r1 r2 r3 e0 e1 e2 e3 hcve htm
      go_upto_region 18 with (fail)
      refine wp_region_noPanic ?_
      refine wp_region_held_drew (S := fun w' => (w'.cell? ⟨lg, p * 4, none⟩ = some (.bool t.u) ∧ w'.cell? ⟨lg, p * 4 + 1, none⟩ = some (.int .i64 t.k) ∧ w'.cell? ⟨lg, p * 4 + 2, none⟩ = some (.int .i64 t.n) ∧ w'.cell? ⟨lg, p * 4 + 3, none⟩ = some (.slice ta tm tc) ∧ w'.cell? ⟨BB, 0, none⟩ = some (.bool b.u) ∧ w'.cell? ⟨BB, 1, none⟩ = some (.int .i64 b.k) ∧ w'.cell? ⟨BB, 2, none⟩ = some (.int .i64 b.n) ∧ w'.cell? ⟨BB, 3, none⟩ = some (.slice ba bm bc)) ∧ Below wx.heap.size wx w') (by kernel_rfl) ?hS0L (fun hHeld => ?go0L)
      case' hS0L => ((try dsimp only); exact HCX.out _ (zAb wx.heap.size wx))
      refine tkH 0 (v := ?v0L) rfl (.inl ⟨by rfl, ?y0L⟩) ?_
      case' y0L => (intro w hSw; first | (go_simp; done) | (go_simp; with_reducible rfl))
      (try simp only [Act.put, Qa, Qb, Qc, Qd, Qe, Qf])
      refine tkH 1 (v := ?v1L) rfl (.inl ⟨by rfl, ?y1L⟩) ?_
      case' y1L => (intro w hSw; first | (go_simp; done) | (go_simp; with_reducible rfl))
      (try simp only [Act.put, Qa, Qb, Qc, Qd, Qe, Qf])
      refine tkH 2 (v := ?v2L) rfl (.inl ⟨by rfl, ?y2L⟩) ?_
      case' y2L => (intro w hSw; first | (go_simp; done) | (go_simp; with_reducible rfl))
      (try simp only [Act.put, Qa, Qb, Qc, Qd, Qe, Qf])
      refine tkH 3 (v := ?v3L) rfl (.inl ⟨by rfl, ?y3L⟩) ?_
      case' y3L => (intro w hSw; first | (go_simp; done) | (go_simp; with_reducible rfl))
      (try simp only [Act.put, Qa, Qb, Qc, Qd, Qe, Qf])
      refine tkH 4 (v := ?v4L) rfl (.inl ⟨by rfl, ?y4L⟩) ?_
      case' y4L => (intro w hSw; first | (go_simp; done) | (go_simp; with_reducible rfl))
      (try simp only [Act.put, Qa, Qb, Qc, Qd, Qe, Qf])
      refine wpAnyH_ready (rs := [5]) (by kernel_rfl) (by simp) ?_
      refine AllReadyH.cons (o := _) rfl (fun K5a hK5a => ?_) AllReadyH.nil
      go_simp
      (go_at_call 12; refine (HCMP.out _ hHeld.2).mono ?_; rintro e w2 ⟨rfl, hb⟩; have hb2 : Below wx.heap.size wx w2 := zAa hHeld.2 hb)
      refine hK5a.out _ _ ?hS5aL (fun hHeld5a => ?_)
      case' hS5aL => ((try dsimp only); exact HCX.out _ hb2)
      clear hK5a K5a
      (try simp only [Act.put, Qa, Qb, Qc, Qd, Qe, Qf])
      refine tkH 6 (v := ?v6L) rfl (.inl ⟨by rfl, ?y6L⟩) ?_
      case' y6L => (intro w hSw; first | (go_simp; done) | (go_simp; with_reducible rfl))
      (try simp only [Act.put, Qa, Qb, Qc, Qd, Qe, Qf])
      refine wpAnyH_done (by kernel_rfl) ?_ _
      refine NoPanic.normal ?_
      have HH2 := hid (HHx.out.to (w' := w2) (fun i hi => hb2.block i (by have := (Qr.1 HHx.out.best).1; omega)) HNE.out.1 HNE.out.2.1)
      have HO2 := hid (zAf HOX.out (zAc hb2) (Ql _))
      have HB2 := hid (zAa HBX.out hb2)
      obtain ⟨⟨r0, r1, r2, r3, e0, e1, e2, e3⟩, _⟩ := HCX.out _ hb2
      have a0 : w2.cell? ⟨AB, 0, none⟩ = some (.int .i64 3) := by rw [Ja w2 AB 0 _ _ _ HH2.out.ag]; rfl
      have hcvr := HCV.out
      clear HCMP HCX hHeld hHeld5a
      cases htu : t.u with
      | true =>
       rw [htu] at r0
       have HST := hid (show bestStep (-1) b t = b from by unfold bestStep; rw [if_pos htu])
       clear htu hcvr
       clear hb hb2
       go_wp2_with fail
       go_roundw
       case rel => exact ⟨p + 1, b, ba, bm, bc, by omega, by go_num, by rw [zA7 HTP.out, Qi, Qk, <- HBE.out]; show b = bestStep (-1) b t; rw [HST.out], HOKB.out, HH2.out, HO2.out, HB2.out⟩
       case measure => simp [intOf]; omega
      | false =>
       have HTUF := hid htu
       cases hbu : b.u with
       | true =>
        have HST := hid (show bestStep (-1) b t = t from by unfold bestStep; rw [if_neg (by rw [htu]; simp), if_pos (.inl hbu)])
        have hr0 := r0
        have he0 := e0
        rw [htu] at hr0
        rw [hbu] at he0
        clear htu hcvr hbu r0 e0
        obtain ⟨_, _, _, _, fb0, fb1, fb2, fb3⟩ := zA2 HH2.out.best
        clear hb hb2
        go_wp2_with fail
        go_roundw
        case rel =>
         have hbb := HNE.out.2.2.2.2.1
         refine ⟨p + 1, t, ta, tm, tc, by omega, by go_num, by rw [zA7 HTP.out, Qi, Qk, <- HBE.out]; show t = bestStep (-1) b t; rw [HST.out], HOKT.out, ⟨(zBh HH2.out.ag HNE.out.2.2.2.2.2.2.1), (zBh HH2.out.out HNE.out.2.2.2.2.2.1), (by rw [HTUF.out]; exact zAu HH2.out.best)⟩, ?_, (((HB2.out.setCell (p := ⟨BB, 0, none⟩) hbb _).setCell (p := ⟨BB, 1, none⟩) hbb _).setCell (p := ⟨BB, 2, none⟩) hbb _).setCell (p := ⟨BB, 3, none⟩) hbb _⟩
         exact zAj HO2.out ((((zAs (fun i => i = BB) w2 ⟨BB, 0, none⟩ _ rfl).trans (zAs (fun i => i = BB) _ ⟨BB, 1, none⟩ _ rfl)).trans (zAs (fun i => i = BB) _ ⟨BB, 2, none⟩ _ rfl)).trans (zAs (fun i => i = BB) _ ⟨BB, 3, none⟩ _ rfl)) fun i hi e => by have := zAg HO2.out i hi; omega
        case measure => simp [intOf]; omega
       | false =>
        by_cases hcp : cv < 0
        ·have HST := hid (show bestStep (-1) b t = t from by unfold bestStep; rw [if_neg (by rw [htu]; simp), if_pos (.inr (by rw [<- hcvr]; omega))])
         have hr0 := r0
         have he0 := e0
         rw [htu] at hr0
         rw [hbu] at he0
         have hd1 : decide (cv < 0) = true := by rw [decide_eq_true_eq]; exact hcp
         have hd2 : decide (0 > cv) = true := hd1
         clear htu hcvr hbu r0 e0
         obtain ⟨_, _, _, _, fb0, fb1, fb2, fb3⟩ := zA2 HH2.out.best
         clear hb hb2
         go_wp2_with fail
         go_roundw
         case rel =>
          have hbb := HNE.out.2.2.2.2.1
          refine ⟨p + 1, t, ta, tm, tc, by omega, by go_num, by rw [zA7 HTP.out, Qi, Qk, <- HBE.out]; show t = bestStep (-1) b t; rw [HST.out], HOKT.out, ⟨(zBh HH2.out.ag HNE.out.2.2.2.2.2.2.1), (zBh HH2.out.out HNE.out.2.2.2.2.2.1), (by rw [HTUF.out]; exact zAu HH2.out.best)⟩, ?_, (((HB2.out.setCell (p := ⟨BB, 0, none⟩) hbb _).setCell (p := ⟨BB, 1, none⟩) hbb _).setCell (p := ⟨BB, 2, none⟩) hbb _).setCell (p := ⟨BB, 3, none⟩) hbb _⟩
          exact zAj HO2.out ((((zAs (fun i => i = BB) w2 ⟨BB, 0, none⟩ _ rfl).trans (zAs (fun i => i = BB) _ ⟨BB, 1, none⟩ _ rfl)).trans (zAs (fun i => i = BB) _ ⟨BB, 2, none⟩ _ rfl)).trans (zAs (fun i => i = BB) _ ⟨BB, 3, none⟩ _ rfl)) fun i hi e => by have := zAg HO2.out i hi; omega
         case measure => simp [intOf]; omega
        ·have HST := hid (show bestStep (-1) b t = b from by unfold bestStep; rw [if_neg (by rw [htu]; simp), if_neg (by rw [<- hcvr, hbu]; simp; omega)])
         have hr0 := r0
         have he0 := e0
         rw [htu] at hr0
         rw [hbu] at he0
         have hd1 : decide (cv < 0) = false := by rw [decide_eq_false_iff_not]; exact hcp
         have hd2 : decide (0 > cv) = false := hd1
         clear htu hcvr hbu r0 e0
         clear hb hb2
         go_wp2_with fail
         go_roundw
         case rel => exact ⟨p + 1, b, ba, bm, bc, by omega, by go_num, by rw [zA7 HTP.out, Qi, Qk, <- HBE.out]; show b = bestStep (-1) b t; rw [HST.out], HOKB.out, HH2.out, HO2.out, HB2.out⟩
         case measure => simp [intOf]; omega
     ·have hpi : ¬ (p : Int) < (q : Int) := by omega
      obtain ⟨e0, e1, e2, e3, _⟩ := zA2 HHx.out.best
      obtain ⟨o0, o1, o2, o3, f0, f1, f2, f3⟩ := zA2 HHx.out.out
      have HFIN := hid (show totT (E.map El.row) 3 c = some b from by
       have h1 := HBE.out
       rw [Qv (by rw [HPL.out]; omega), HPF.out] at h1
       have h2 := zJg HKK.out (-1) ((E.map El.row).map fun r => atT r c) (fun v hv => by
        obtain ⟨r, hr, rfl⟩ := Qh.1 hv
        obtain ⟨x, hx, rfl⟩ := Qh.1 hr
        exact ⟨(HNV.out x hx).1, (HNV.out x hx).2.1⟩)
       rw [Qj, Qj, <- HN.out] at h2
       rw [h2, Qz] at h1
       unfold totT extT
       simp
       exact h1.symm)
      go_wp2_with fail
      (try simp only [Exit.inBlock, Exit.then])
      refine bodyPost_ret (zAp rfl _ _ OB _ _ (0, 0) _ _ rfl rfl (zAu HHx.out.out) Try.underlying36 rfl zAz) rfl ?_
      rw [HFIN.out]
      have hob := HNE.out.2.2.2.1
      exact ⟨⟨.slice ba bm bc, rfl, HOKB.out⟩, (((HBX.out.setCell (p := ⟨OB, 0, none⟩) hob _).setCell (p := ⟨OB, 1, none⟩) hob _).setCell (p := ⟨OB, 2, none⟩) hob _).setCell (p := ⟨OB, 3, none⟩) hob _⟩
   ·go_wp2_with fail
    obtain ⟨wo, rfl⟩ : ∃ wo : World, wo = wr := ⟨_, rfl⟩
    go_loopw [12] (fun i wx => ∃ (p : Nat) (b : Vc) (ba : Option Addr) (bm bc : Nat), p <= q ∧ i = .int .i64 (p : Int) ∧ b = ((P.take p).map Prod.fst).foldl (bestStep (1)) ⟨true, (if q = 0 then 0 else kk), 0, []⟩ ∧ OkV w0 (b, .slice ba bm bc) ∧ Held3 4 c AB OB BB [.bool b.u, .int .i64 b.k, .int .i64 b.n, .slice ba bm bc] wx ∧ wx.ownsRow (BB + 1) 36 4 (.slice la q lc) q (P.map cellsV).flatten ∧ Below w.heap.size w wx) (fun i _ => q - (intOf i).toNat)
    case atStart => exact ⟨0, ⟨true, (if q = 0 then 0 else kk), 0, []⟩, none, 0, 0, Qt _, rfl, by rw [Qy]; rfl, ⟨Rd.nil _, fun u hu => by cases hu⟩, HHq.out, HOQ.out, HB.out⟩
    case round =>
     obtain ⟨p, b, ba, bm, bc, hp, rfl, hbe, hokb, hh, hox, hbx⟩ := hrel
     obtain ⟨wx, rfl⟩ : ∃ wx : World, wx = wr := ⟨_, rfl⟩
     have HBE := hid hbe
     have HOKB := hid hokb
     have HHx := hid hh
     have HOX := hid hox
     have HBX := hid hbx
     clear hbe hokb hh hox hbx
     by_cases hltp : p < q
     ·obtain ⟨tt, htp⟩ : ∃ t, P[p]? = some t := ⟨_, Qp (by rw [HPL.out]; exact hltp)⟩
      have hokt := HPO.out tt (Qq htp)
      obtain ⟨ta, tc, hts⟩ := zAo hokt.1
      obtain ⟨tm, htm⟩ : ∃ tm, tm = tt.1.b.length := ⟨_, rfl⟩
      rw [<- htm] at hts
      obtain ⟨t, ts⟩ := tt
      simp only at hts htm
      subst hts
      obtain ⟨lg, hlg⟩ := zA3 HOX.out (by omega)
      subst hlg
      have HTP := hid htp
      have HOKT := hid hokt
      have hl4 : ∀ u ∈ P.map cellsV, u.length = 4 := fun u hu => by obtain ⟨y, _, rfl⟩ := Qh.1 hu; rfl
      have hcv : (P.map cellsV)[p]? = some (cellsV (t, .slice ta tm tc)) := by rw [Qo, htp]; rfl
      have r0 : wx.cell? ⟨lg, p * 4, none⟩ = some (.bool t.u) := (HOX.out.cellAt (p * 4) (by omega)).trans (zAn _ 4 hl4 p _ 0 _ hcv rfl)
      have r1 : wx.cell? ⟨lg, p * 4 + 1, none⟩ = some (.int .i64 t.k) := (HOX.out.cellAt (p * 4 + 1) (by omega)).trans (zAn _ 4 hl4 p _ 1 _ hcv rfl)
      have r2 : wx.cell? ⟨lg, p * 4 + 2, none⟩ = some (.int .i64 t.n) := (HOX.out.cellAt (p * 4 + 2) (by omega)).trans (zAn _ 4 hl4 p _ 2 _ hcv rfl)
      have r3 : wx.cell? ⟨lg, p * 4 + 3, none⟩ = some (.slice ta tm tc) := (HOX.out.cellAt (p * 4 + 3) (by omega)).trans (zAn _ 4 hl4 p _ 3 _ hcv rfl)
      obtain ⟨e0, e1, e2, e3, _⟩ := zA2 HHx.out.best
      have HCX := hid (show ∀ w', Below wx.heap.size wx w' -> (w'.cell? ⟨lg, p * 4, none⟩ = some (.bool t.u) ∧ w'.cell? ⟨lg, p * 4 + 1, none⟩ = some (.int .i64 t.k) ∧ w'.cell? ⟨lg, p * 4 + 2, none⟩ = some (.int .i64 t.n) ∧ w'.cell? ⟨lg, p * 4 + 3, none⟩ = some (.slice ta tm tc) ∧ w'.cell? ⟨BB, 0, none⟩ = some (.bool b.u) ∧ w'.cell? ⟨BB, 1, none⟩ = some (.int .i64 b.k) ∧ w'.cell? ⟨BB, 2, none⟩ = some (.int .i64 b.n) ∧ w'.cell? ⟨BB, 3, none⟩ = some (.slice ba bm bc)) ∧ Below wx.heap.size wx w' from fun w' h => ⟨⟨(h.cell (Qg _ _ r0)).trans r0, (h.cell (Qg _ _ r1)).trans r1, (h.cell (Qg _ _ r2)).trans r2, (h.cell (Qg _ _ r3)).trans r3, (h.cell (Qg _ _ e0)).trans e0, (h.cell (Qg _ _ e1)).trans e1, (h.cell (Qg _ _ e2)).trans e2, (h.cell (Qg _ _ e3)).trans e3⟩, h⟩)
      obtain ⟨cv, hcve⟩ : ∃ cv, cv = refC t b := ⟨_, rfl⟩
      have HCV := hid hcve
      have HCMP := hid (show ∀ w', Below wx.heap.size wx w' -> Calls Try.prog 12 #[.agg #[.bool t.u, .int .i64 t.k, .int .i64 t.n, .slice ta tm tc], .agg #[.bool b.u, .int .i64 b.k, .int .i64 b.n, .slice ba bm bc]] w' fun e w'' => e = .returned (.int .i64 cv) ∧ Below w'.heap.size w' w'' from fun w' h => by rw [hcve]; exact zDk (t, .slice ta tm tc) (b, .slice ba bm bc) w' (HOKT.out.kept (zAa HB0.out (zAa HBX.out h))) (HOKB.out.kept (zAa HB0.out (zAa HBX.out h))))
      have hpi : (p : Int) < (q : Int) := by omega
      have hp0 : (0 : Int) <= (p : Int) := by omega
      have hp1 : IntKind.i64.wrap ((p : Int) + 1) = (p : Int) + 1 := Qu _ (by omega)
      clear htp hokt hl4 hcv r0 r1 r2 r3 e0 e1 e2 e3 hcve htm
      go_upto_region 18 with (fail)
      refine wp_region_noPanic ?_
      refine wp_region_held_drew (S := fun w' => (w'.cell? ⟨lg, p * 4, none⟩ = some (.bool t.u) ∧ w'.cell? ⟨lg, p * 4 + 1, none⟩ = some (.int .i64 t.k) ∧ w'.cell? ⟨lg, p * 4 + 2, none⟩ = some (.int .i64 t.n) ∧ w'.cell? ⟨lg, p * 4 + 3, none⟩ = some (.slice ta tm tc) ∧ w'.cell? ⟨BB, 0, none⟩ = some (.bool b.u) ∧ w'.cell? ⟨BB, 1, none⟩ = some (.int .i64 b.k) ∧ w'.cell? ⟨BB, 2, none⟩ = some (.int .i64 b.n) ∧ w'.cell? ⟨BB, 3, none⟩ = some (.slice ba bm bc)) ∧ Below wx.heap.size wx w') (by kernel_rfl) ?hS0M (fun hHeld => ?go0M)
      case' hS0M => ((try dsimp only); exact HCX.out _ (zAb wx.heap.size wx))
      refine tkH 0 (v := ?v0M) rfl (.inl ⟨by rfl, ?y0M⟩) ?_
      case' y0M => (intro w hSw; first | (go_simp; done) | (go_simp; with_reducible rfl))
      (try simp only [Act.put, Qa, Qb, Qc, Qd, Qe, Qf])
      refine tkH 1 (v := ?v1M) rfl (.inl ⟨by rfl, ?y1M⟩) ?_
      case' y1M => (intro w hSw; first | (go_simp; done) | (go_simp; with_reducible rfl))
      (try simp only [Act.put, Qa, Qb, Qc, Qd, Qe, Qf])
      refine tkH 2 (v := ?v2M) rfl (.inl ⟨by rfl, ?y2M⟩) ?_
      case' y2M => (intro w hSw; first | (go_simp; done) | (go_simp; with_reducible rfl))
      (try simp only [Act.put, Qa, Qb, Qc, Qd, Qe, Qf])
      refine tkH 3 (v := ?v3M) rfl (.inl ⟨by rfl, ?y3M⟩) ?_
      case' y3M => (intro w hSw; first | (go_simp; done) | (go_simp; with_reducible rfl))
      (try simp only [Act.put, Qa, Qb, Qc, Qd, Qe, Qf])
      refine tkH 4 (v := ?v4M) rfl (.inl ⟨by rfl, ?y4M⟩) ?_
      case' y4M => (intro w hSw; first | (go_simp; done) | (go_simp; with_reducible rfl))
      (try simp only [Act.put, Qa, Qb, Qc, Qd, Qe, Qf])
      refine wpAnyH_ready (rs := [5]) (by kernel_rfl) (by simp) ?_
      refine AllReadyH.cons (o := _) rfl (fun K5a hK5a => ?_) AllReadyH.nil
      go_simp
      (go_at_call 12; refine (HCMP.out _ hHeld.2).mono ?_; rintro e w2 ⟨rfl, hb⟩; have hb2 : Below wx.heap.size wx w2 := zAa hHeld.2 hb)
      refine hK5a.out _ _ ?hS5aM (fun hHeld5a => ?_)
      case' hS5aM => ((try dsimp only); exact HCX.out _ hb2)
      clear hK5a K5a
      (try simp only [Act.put, Qa, Qb, Qc, Qd, Qe, Qf])
      refine tkH 6 (v := ?v6M) rfl (.inl ⟨by rfl, ?y6M⟩) ?_
      case' y6M => (intro w hSw; first | (go_simp; done) | (go_simp; with_reducible rfl))
      (try simp only [Act.put, Qa, Qb, Qc, Qd, Qe, Qf])
      refine wpAnyH_done (by kernel_rfl) ?_ _
      refine NoPanic.normal ?_
      have HH2 := hid (HHx.out.to (w' := w2) (fun i hi => hb2.block i (by have := (Qr.1 HHx.out.best).1; omega)) HNE.out.1 HNE.out.2.1)
      have HO2 := hid (zAf HOX.out (zAc hb2) (Ql _))
      have HB2 := hid (zAa HBX.out hb2)
      obtain ⟨⟨r0, r1, r2, r3, e0, e1, e2, e3⟩, _⟩ := HCX.out _ hb2
      have a0 : w2.cell? ⟨AB, 0, none⟩ = some (.int .i64 4) := by rw [Ja w2 AB 0 _ _ _ HH2.out.ag]; rfl
      have hcvr := HCV.out
      clear HCMP HCX hHeld hHeld5a
      cases htu : t.u with
      | true =>
       rw [htu] at r0
       have HST := hid (show bestStep (1) b t = b from by unfold bestStep; rw [if_pos htu])
       clear htu hcvr
       clear hb hb2
       go_wp2_with fail
       go_roundw
       case rel => exact ⟨p + 1, b, ba, bm, bc, by omega, by go_num, by rw [zA7 HTP.out, Qi, Qk, <- HBE.out]; show b = bestStep (1) b t; rw [HST.out], HOKB.out, HH2.out, HO2.out, HB2.out⟩
       case measure => simp [intOf]; omega
      | false =>
       have HTUF := hid htu
       cases hbu : b.u with
       | true =>
        have HST := hid (show bestStep (1) b t = t from by unfold bestStep; rw [if_neg (by rw [htu]; simp), if_pos (.inl hbu)])
        have hr0 := r0
        have he0 := e0
        rw [htu] at hr0
        rw [hbu] at he0
        clear htu hcvr hbu r0 e0
        obtain ⟨_, _, _, _, fb0, fb1, fb2, fb3⟩ := zA2 HH2.out.best
        clear hb hb2
        go_wp2_with fail
        go_roundw
        case rel =>
         have hbb := HNE.out.2.2.2.2.1
         refine ⟨p + 1, t, ta, tm, tc, by omega, by go_num, by rw [zA7 HTP.out, Qi, Qk, <- HBE.out]; show t = bestStep (1) b t; rw [HST.out], HOKT.out, ⟨(zBh HH2.out.ag HNE.out.2.2.2.2.2.2.1), (zBh HH2.out.out HNE.out.2.2.2.2.2.1), (by rw [HTUF.out]; exact zAu HH2.out.best)⟩, ?_, (((HB2.out.setCell (p := ⟨BB, 0, none⟩) hbb _).setCell (p := ⟨BB, 1, none⟩) hbb _).setCell (p := ⟨BB, 2, none⟩) hbb _).setCell (p := ⟨BB, 3, none⟩) hbb _⟩
         exact zAj HO2.out ((((zAs (fun i => i = BB) w2 ⟨BB, 0, none⟩ _ rfl).trans (zAs (fun i => i = BB) _ ⟨BB, 1, none⟩ _ rfl)).trans (zAs (fun i => i = BB) _ ⟨BB, 2, none⟩ _ rfl)).trans (zAs (fun i => i = BB) _ ⟨BB, 3, none⟩ _ rfl)) fun i hi e => by have := zAg HO2.out i hi; omega
        case measure => simp [intOf]; omega
       | false =>
        by_cases hcp : cv > 0
        ·have HST := hid (show bestStep (1) b t = t from by unfold bestStep; rw [if_neg (by rw [htu]; simp), if_pos (.inr (by rw [<- hcvr]; omega))])
         have hr0 := r0
         have he0 := e0
         rw [htu] at hr0
         rw [hbu] at he0
         have hd1 : decide (cv > 0) = true := by rw [decide_eq_true_eq]; exact hcp
         have hd2 : decide (0 < cv) = true := hd1
         clear htu hcvr hbu r0 e0
         obtain ⟨_, _, _, _, fb0, fb1, fb2, fb3⟩ := zA2 HH2.out.best
         clear hb hb2
         go_wp2_with fail
         go_roundw
         case rel =>
          have hbb := HNE.out.2.2.2.2.1
          refine ⟨p + 1, t, ta, tm, tc, by omega, by go_num, by rw [zA7 HTP.out, Qi, Qk, <- HBE.out]; show t = bestStep (1) b t; rw [HST.out], HOKT.out, ⟨(zBh HH2.out.ag HNE.out.2.2.2.2.2.2.1), (zBh HH2.out.out HNE.out.2.2.2.2.2.1), (by rw [HTUF.out]; exact zAu HH2.out.best)⟩, ?_, (((HB2.out.setCell (p := ⟨BB, 0, none⟩) hbb _).setCell (p := ⟨BB, 1, none⟩) hbb _).setCell (p := ⟨BB, 2, none⟩) hbb _).setCell (p := ⟨BB, 3, none⟩) hbb _⟩
          exact zAj HO2.out ((((zAs (fun i => i = BB) w2 ⟨BB, 0, none⟩ _ rfl).trans (zAs (fun i => i = BB) _ ⟨BB, 1, none⟩ _ rfl)).trans (zAs (fun i => i = BB) _ ⟨BB, 2, none⟩ _ rfl)).trans (zAs (fun i => i = BB) _ ⟨BB, 3, none⟩ _ rfl)) fun i hi e => by have := zAg HO2.out i hi; omega
         case measure => simp [intOf]; omega
        ·have HST := hid (show bestStep (1) b t = b from by unfold bestStep; rw [if_neg (by rw [htu]; simp), if_neg (by rw [<- hcvr, hbu]; simp; omega)])
         have hr0 := r0
         have he0 := e0
         rw [htu] at hr0
         rw [hbu] at he0
         have hd1 : decide (cv > 0) = false := by rw [decide_eq_false_iff_not]; exact hcp
         have hd2 : decide (0 < cv) = false := hd1
         clear htu hcvr hbu r0 e0
         clear hb hb2
         go_wp2_with fail
         go_roundw
         case rel => exact ⟨p + 1, b, ba, bm, bc, by omega, by go_num, by rw [zA7 HTP.out, Qi, Qk, <- HBE.out]; show b = bestStep (1) b t; rw [HST.out], HOKB.out, HH2.out, HO2.out, HB2.out⟩
         case measure => simp [intOf]; omega
     ·have hpi : ¬ (p : Int) < (q : Int) := by omega
      obtain ⟨e0, e1, e2, e3, _⟩ := zA2 HHx.out.best
      obtain ⟨o0, o1, o2, o3, f0, f1, f2, f3⟩ := zA2 HHx.out.out
      have HFIN := hid (show totT (E.map El.row) 4 c = some b from by
       have h1 := HBE.out
       rw [Qv (by rw [HPL.out]; omega), HPF.out] at h1
       have h2 := zJg HKK.out (1) ((E.map El.row).map fun r => atT r c) (fun v hv => by
        obtain ⟨r, hr, rfl⟩ := Qh.1 hv
        obtain ⟨x, hx, rfl⟩ := Qh.1 hr
        exact ⟨(HNV.out x hx).1, (HNV.out x hx).2.1⟩)
       rw [Qj, Qj, <- HN.out] at h2
       rw [h2, Qz] at h1
       unfold totT extT
       simp
       exact h1.symm)
      go_wp2_with fail
      (try simp only [Exit.inBlock, Exit.then])
      refine bodyPost_ret (zAp rfl _ _ OB _ _ (0, 0) _ _ rfl rfl (zAu HHx.out.out) Try.underlying36 rfl zAz) rfl ?_
      rw [HFIN.out]
      have hob := HNE.out.2.2.2.1
      exact ⟨⟨.slice ba bm bc, rfl, HOKB.out⟩, (((HBX.out.setCell (p := ⟨OB, 0, none⟩) hob _).setCell (p := ⟨OB, 1, none⟩) hob _).setCell (p := ⟨OB, 2, none⟩) hob _).setCell (p := ⟨OB, 3, none⟩) hob _⟩
end Go.Proofs.Ytnfjdoeemnhkbaa
