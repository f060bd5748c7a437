import Derived.Test.YtnfjdoeemnhkbaaRfb
import Derived.Test.YtnfjdoeemnhkbaaAgtm
import Derived.Deep.RegionHeld3
set_option linter.unusedVariables false
set_option linter.unusedSimpArgs false
set_option maxRecDepth 100000
set_option maxHeartbeats 8000000
open Go.Lib (hid)
namespace Go.Proofs.Ytnfjdoeemnhkbaa
open Go.RowKit Sy
open _root_.List renaming getElem_toArray -> Qa, getElem_cons_succ -> Qb, getElem_cons_zero -> Qc, setIfInBounds_toArray -> Qd, set_cons_zero -> Qe, set_cons_succ -> Qf, length_map -> Qg, map_append -> Qj, mem_singleton -> Qk, mem_map -> Ql, mem_cons -> Qm, getElem?_eq_getElem -> Qn
open Go.World renaming block_lt_of_cell? -> Qh
open _root_.Nat renaming le_refl -> Qi, le_trans -> Qo
def OwnF (B : Nat) (w : World) (v : Value) (E : List El) : Prop :=
 w.ownsRow B 33 1 v E.length (E.map Prod.fst) ∧ ∀ x ∈ E, Free (fun b => v.ownBlock = some b) w fun w' => RdP w' x.1 x.2
theorem OwnF.nil (B : Nat) (w : World) : OwnF B w (.slice none 0 0) [] := ⟨World.ownsRow_nil .., fun x hx => by cases hx⟩
theorem OwnF.rd {B : Nat} {w : World} {v : Value} {E : List El} (h : OwnF B w v E) : Rd w v (E.map Prod.fst) ∧ ∀ x ∈ E, RdP w x.1 x.2 := ⟨Rd.of_owns h.1, fun x hx => (h.2 x hx).now⟩
theorem OwnF.kept {B : Nat} {w w' : World} {v : Value} {E : List El} (h : OwnF B w v E) (hb : Below w.heap.size w w') : OwnF B w' v E :=
 ⟨zAf h.1 (zAc hb) (Qi _), fun x hx => (h.2 x hx).to ((Agree.refl (fun _ => False) w).thenBelow hb) (fun _ _ h => h.elim) (fun _ _ h => h)⟩
theorem OwnF.push {B : Nat} {wr w3 w4 : World} {o3 : Obj} {v v4 s : Value} {E : List El} {l : List (Vc × Value)} (h : OwnF B wr v E) (hag : Below wr.heap.size wr w3)
  (hs : Free (fun b => v.ownBlock = some b) w3 fun w' => RdP w' s l)
  (hg : (w3.alloc o3).grownBy w4 v.ownBlock) (hnew : ∀ g, v4.ownBlock = some g -> v.ownBlock = some g ∨ g = (w3.alloc o3).heap.size)
  (h4 : w4.ownsRow B 33 1 v4 (E.length + 1) (E.map Prod.fst ++ [s])) : OwnF B w4 v4 (E ++ [(s, l)]) := by
 have hsz : (w3.alloc o3).heap.size = w3.heap.size + 1 := by simp
 have h34 : Agree (fun b => v.ownBlock = some b) w3 w4 := (zBd _ w3 o3).thenGrown hg fun i _ h => h
 have hag4 : Agree (fun b => v.ownBlock = some b) wr w4 := ((Agree.refl _ wr).thenBelow hag).alloc o3 |>.thenGrown hg fun i _ h => h
 refine ⟨by rw [List.length_append, Qj]; exact h4, fun x hx => ?_⟩
 rcases List.mem_append.1 hx with hx | hx
 ·refine (h.2 x hx).to hag4 (fun _ _ h => h) fun b hb e => ?_
  rcases hnew b e with h | h
  ·exact h
  ·have := hag.size; omega
 ·rw [Qk.1 hx]
  refine hs.to h34 (fun _ _ h => h) fun b hb e => ?_
  rcases hnew b e with h | h
  ·exact h
  ·omega
theorem zFa {B K : Nat} {w w3 : World} {v s : Value} {l : List (Vc × Value)} {n : Nat} {xs : List Value} (hv : w3.ownsRow B 33 1 v n xs) (hs : w3.ownsRow K 36 4 s l.length (l.map cellsV).flatten) (hb : Below w.heap.size w w3) (hB : w.heap.size <= B) (hok : ∀ t ∈ l, OkV w t) : Free (fun b => v.ownBlock = some b) w3 fun w' => RdP w' s l := fun w' ha => by
 have ho := zAj hs ha fun b hb e => zA9 hv hs (by decide) e hb
 refine ⟨zCb ho (by rw [Qg]) fun t ht => by obtain ⟨x, _, rfl⟩ := Ql.1 ht; rfl, fun t ht => (hok t ht).kept ?_⟩
 exact hb.trans (ha.below (fun i hi e => by have := zAg hv i e; omega) hb.size)
theorem zD4 {w : World} {l : List (Vc × Value)} (h : ∀ t ∈ l, OkV w t) : Ones 4 (l.map cellsV) := fun c hc => by
 obtain ⟨t, ht, rfl⟩ := Ql.1 hc
 obtain ⟨a, m, h⟩ := zAo (h t ht).1
 refine ⟨rfl, fun u hu => ?_⟩
 unfold cellsV at hu
 simp only [Qm, List.not_mem_nil, or_false] at hu
 rcases hu with rfl | rfl | rfl | rfl
 ·rfl
 ·rfl
 ·rfl
 ·rw [h]; rfl
theorem zLl (E : List El) (c : Nat) (hl : E.length <= 1000000) (v : Value) (w : World) (hv : Rd w v (E.map Prod.fst)) (hr : ∀ x ∈ E, RdP w x.1 x.2 ∧ x.2.length <= 1000 ∧ c < x.2.length) :
  Calls Try.prog 55 #[v, .int .i64 (c : Int)] w fun e w' => ∃ v' : Value, e = .returned v' ∧ ∃ U : List El, U.map Prod.snd = E.map (fun x => x.2.getD c nilQ :: x.2) ∧ OwnF w.heap.size w' v' U ∧ Below w.heap.size w w' := by
 obtain ⟨va, vc, hvs⟩ : ∃ ao cap, v = .slice ao (E.map Prod.fst).length cap := by obtain ⟨ao, cap, h, _⟩ := hv; exact ⟨ao, cap, h⟩
 obtain ⟨n, hn⟩ : ∃ n, n = E.length := ⟨_, rfl⟩
 rw [Qg, <- hn] at hvs
 subst hvs
 rw [<- hn] at hl
 have HN := hid hn
 have HV := hid hv
 have HR := hid hr
 clear hn hv hr
 go_enter Try.func55, Try.ntmps55
 go_wp2_with fail
 go_loopw [5, 6] (fun o i wr => ∃ (q : Nat) (oa : Option Addr) (oc : Nat) (U : List El), q <= n ∧ i = .int .i64 (q : Int) ∧ o = .slice oa q oc ∧ U.map Prod.snd = (E.take q).map (fun x => x.2.getD c nilQ :: x.2) ∧ OwnF w.heap.size wr (.slice oa q oc) U ∧ Below w.heap.size w wr) (fun _ i _ => n - (intOf i).toNat)
 case atStart => exact ⟨0, none, 0, [], Nat.zero_le _, rfl, rfl, by simp, OwnF.nil _ _, Below.refl _ _⟩
 case round =>
  obtain ⟨q, oa, oc, U, hq, rfl, rfl, hu, hown, hb⟩ := hrel
  have HU := hid hu
  have HB := hid hb
  by_cases hlt : q < n
  ·have hul : U.length = q := by have h := congrArg List.length hu; rw [Qg, Qg, List.length_take, <- HN.out] at h; omega
   have HUL := hid hul
   have HOF := hid hown
   have HO := hid (show OwnF w.heap.size wr (.slice oa q oc) U from hown)
   obtain ⟨x, hx⟩ : ∃ x, E[q]? = some x := ⟨_, Qn (by rw [<- HN.out]; exact hlt)⟩
   have hxm := List.mem_of_getElem? hx
   obtain ⟨hxr, hxl, hxc⟩ := HR.out x hxm
   obtain ⟨vb, vo, hva, hcell⟩ := (zA4 HV.out).2 (by omega)
   subst hva
   obtain ⟨tt, htt⟩ : ∃ tt, x.2[c]? = some tt := ⟨_, Qn hxc⟩
   obtain ⟨xa, xc, hxs⟩ := zBe hxr
   obtain ⟨xm, hxn⟩ : ∃ xm, xm = x.2.length := ⟨_, rfl⟩
   rw [<- hxn] at hxs hxl hxc
   have hxr2 := hxr
   rw [hxs] at hxr2
   obtain ⟨xb, xo, rfl, p0, p1, p2, p3, okt⟩ := hxr2.at htt
   obtain ⟨ta, tc, hts⟩ := zAo okt.1
   obtain ⟨tm, htm⟩ : ∃ tm, tm = tt.1.b.length := ⟨_, rfl⟩
   rw [<- htm] at hts
   obtain ⟨t, ts⟩ := tt
   simp only at hts p0 p1 p2 p3 htm
   subst hts
   have cx0 : w.cell? ⟨vb, vo + q, none⟩ = some (.slice (some ⟨xb, xo, none⟩) xm xc) := hcell q _ (by omega) (by rw [List.getElem?_map, hx, <- hxs]; rfl)
   have HCX := hid (show ∀ w', Below w.heap.size w w' -> (w'.cell? ⟨vb, vo + q, none⟩ = some (.slice (some ⟨xb, xo, none⟩) xm xc) ∧ w'.cell? ⟨xb, xo + c * 4, none⟩ = some (.bool t.u) ∧ w'.cell? ⟨xb, xo + c * 4 + 1, none⟩ = some (.int .i64 t.k) ∧ w'.cell? ⟨xb, xo + c * 4 + 2, none⟩ = some (.int .i64 t.n) ∧ w'.cell? ⟨xb, xo + c * 4 + 3, none⟩ = some (.slice ta tm tc)) from fun w' h => ⟨(h.cell (Qh _ _ cx0)).trans cx0, (h.cell (Qh _ _ p0)).trans p0, (h.cell (Qh _ _ p1)).trans p1, (h.cell (Qh _ _ p2)).trans p2, (h.cell (Qh _ _ p3)).trans p3⟩)
   have HXR := hid (show ∀ w', Below w.heap.size w w' -> RdS w' 4 (.slice (some ⟨xb, xo, none⟩) xm xc) (x.2.map cellsV) from fun w' h => by rw [<- hxs]; exact (hxr.kept h).1)
   have HON := hid (zD4 hxr.2)
   have HXN := hid hxn
   have HOK := hid (show ∀ u ∈ (t, Value.slice ta tm tc) :: x.2, OkV w u from fun u hu => by rcases Qm.1 hu with rfl | h; exact okt; exact hxr.2 u h)
   have HPL := hid (show U.map Prod.snd ++ [(t, Value.slice ta tm tc) :: x.2] = (E.take (q + 1)).map (fun x => x.2.getD c nilQ :: x.2) from by
    rw [HU.out, List.take_add_one, hx, Qj]
    simp only [Option.toList_some, List.map_cons, List.map_nil]
    rw [List.getD_eq_getElem?_getD, htt]
    rfl)
   have hlti : (q : Int) < (n : Int) := by omega
   have hq0 : (0 : Int) <= (q : Int) := by omega
   have hq1 : IntKind.i64.wrap ((q : Int) + 1) = (q : Int) + 1 := IntWalk.i64_in _ (by omega)
   have hci : (0 : Int) <= (c : Int) := by omega
   have hcm : (c : Int) < (xm : Int) := by omega
   clear hu hb hown hul hx hxm hxr hxr2 hcell hxs hxn okt htt htm cx0 p0 p1 p2 p3
   go_upto_region 5 with (fail)
   refine wp_region_noPanic ?_
   refine wp_region_held_drew (S := fun w' => (w'.cell? ⟨vb, vo + q, none⟩ = some (.slice (some ⟨xb, xo, none⟩) xm xc) ∧ w'.cell? ⟨xb, xo + c * 4, none⟩ = some (.bool t.u) ∧ w'.cell? ⟨xb, xo + c * 4 + 1, none⟩ = some (.int .i64 t.k) ∧ w'.cell? ⟨xb, xo + c * 4 + 2, none⟩ = some (.int .i64 t.n) ∧ w'.cell? ⟨xb, xo + c * 4 + 3, none⟩ = some (.slice ta tm tc)) ∧ Below w.heap.size w w') (by kernel_rfl) ?hS0 (fun hHeld => ?go0)
   case' hS0 => ((try dsimp only); exact ⟨HCX.out _ (zAa HB.out (zAb wr.heap.size wr)), zAa HB.out (zAb wr.heap.size wr)⟩)
   refine tkH 0 (v := ?v0) rfl (.inl ⟨by rfl, ?y0⟩) ?_
   case' y0 => (intro w hSw; first | (go_simp; done) | (go_simp; with_reducible rfl))
   (try simp only [Act.put, Qa, Qb, Qc, Qd, Qe, Qf])
   refine tkH 1 (v := ?v1) rfl (.inl ⟨by rfl, ?y1⟩) ?_
   case' y1 => (intro w hSw; first | (go_simp; done) | (go_simp; with_reducible rfl))
   (try simp only [Act.put, Qa, Qb, Qc, Qd, Qe, Qf])
   refine tkH 2 (v := ?v2) rfl (.inl ⟨by rfl, ?y2⟩) ?_
   case' y2 => (intro w hSw; first | (go_simp; done) | (go_simp; with_reducible rfl))
   (try simp only [Act.put, Qa, Qb, Qc, Qd, Qe, Qf])
   refine tkH 3 (v := ?v3) rfl (.inl ⟨by rfl, ?y3⟩) ?_
   case' y3 => (intro w hSw; first | (go_simp; done) | (go_simp; with_reducible rfl))
   (try simp only [Act.put, Qa, Qb, Qc, Qd, Qe, Qf])
   refine tkH 4 (v := ?v4) rfl (.inl ⟨by rfl, ?y4⟩) ?_
   case' y4 => (intro w hSw; first | (go_simp; done) | (go_simp; with_reducible rfl))
   (try simp only [Act.put, Qa, Qb, Qc, Qd, Qe, Qf])
   refine tkH 5 (v := ?v5) rfl (.inl ⟨by rfl, ?y5⟩) ?_
   case' y5 => (intro w hSw; first | (go_simp; done) | (go_simp; with_reducible rfl))
   (try simp only [Act.put, Qa, Qb, Qc, Qd, Qe, Qf])
   refine tkH 6 (v := ?v6) rfl (.inl ⟨by rfl, ?y6⟩) ?_
   case' y6 => (intro w hSw; first | (go_simp; done) | (go_simp; with_reducible rfl))
   (try simp only [Act.put, Qa, Qb, Qc, Qd, Qe, Qf])
   refine tkH 7 (v := ?v7) rfl (.inl ⟨by rfl, ?y7⟩) ?_
   case' y7 => (intro w hSw; first | (go_simp; done) | (go_simp; with_reducible rfl))
   (try simp only [Act.put, Qa, Qb, Qc, Qd, Qe, Qf])
   refine tkH 9 (v := ?v9) rfl (.inl ⟨by rfl, ?y9⟩) ?_
   case' y9 => (intro w hSw; first | (go_simp; done) | (go_simp; with_reducible rfl))
   (try simp only [Act.put, Qa, Qb, Qc, Qd, Qe, Qf])
   refine tkH 10 (v := ?v10) rfl (.inl ⟨by rfl, ?y10⟩) ?_
   case' y10 => (intro w hSw; first | (go_simp; done) | (go_simp; with_reducible rfl))
   (try simp only [Act.put, Qa, Qb, Qc, Qd, Qe, Qf])
   refine tkH 11 (v := ?v11) rfl (.inl ⟨by rfl, ?y11⟩) ?_
   case' y11 => (intro w hSw; first | (go_simp; done) | (go_simp; with_reducible rfl))
   (try simp only [Act.put, Qa, Qb, Qc, Qd, Qe, Qf])
   refine tkH 12 (v := ?v12) rfl (.inl ⟨by rfl, ?y12⟩) ?_
   case' y12 => (intro w hSw; first | (go_simp; done) | (go_simp; with_reducible rfl))
   (try simp only [Act.put, Qa, Qb, Qc, Qd, Qe, Qf])
   refine wpAnyH_ready (rs := [8]) (by kernel_rfl) (by simp) ?_
   refine AllReadyH.cons (o := _) rfl (fun K8a hK8a => ?_) AllReadyH.nil
   go_simp
   (have hb1 : Below wr.heap.size wr (wr.drew.alloc (.cells #[.bool t.u, .int .i64 t.k, .int .i64 t.n, .slice ta tm tc] 36)) := zAe (zAb wr.heap.size wr) _; have ow1 := World.ownsRow_lit (e := 36) (size := 4) wr.drew #[.bool t.u, .int .i64 t.k, .int .i64 t.n, .slice ta tm tc] 1 (show wr.heap.size <= _ from (zAb wr.heap.size wr).size) (by unfold maxLen; omega) rfl)
   refine hK8a.out _ _ ?hS8a (fun hHeld8a => ?_)
   case' hS8a => ((try dsimp only); exact ⟨HCX.out _ (zAa HB.out hb1), zAa HB.out hb1⟩)
   clear hK8a K8a
   (try simp only [Act.put, Qa, Qb, Qc, Qd, Qe, Qf])
   refine wpAnyH_ready (rs := [13]) (by kernel_rfl) (by simp) ?_
   refine AllReadyH.cons (o := _) rfl (fun K13a hK13a => ?_) AllReadyH.nil
   (refine zAh zCc (by rfl) _ _ (by rfl) wr.heap.size _ _ _ (by rfl) ow1 _ (x.2.map cellsV) (by rfl) (HXR.out _ (zAa HB.out hb1)) HON.out (by rw [Qg]; have := HXN.out; omega) hb1.size (xm + 1) (by rw [Qg]; have := HXN.out; omega) ?_; intro ao2 cap2 w2 ow2 hg2 hn2; have hb2 := hb1.grown hg2 hb1.size (zAg ow1))
   refine hK13a.out _ _ ?hS13a (fun hHeld13a => ?_)
   case' hS13a => ((try dsimp only); exact ⟨HCX.out _ (zAa HB.out hb2), zAa HB.out hb2⟩)
   clear hK13a K13a
   (try simp only [Act.put, Qa, Qb, Qc, Qd, Qe, Qf])
   refine wpAnyH_ready (rs := [14]) (by kernel_rfl) (by simp) ?_
   refine AllReadyH.cons (o := _) rfl (fun K14a hK14a => ?_) AllReadyH.nil
   go_simp
   (have hb3 : Below wr.heap.size wr (w2.alloc (.cells #[.slice ao2 (xm + 1) cap2] 33)) := zAe hb2 _; have ow3 := zAf HO.out.1 (zAc hb3) (Qi _))
   refine hK14a.out _ _ ?hS14a (fun hHeld14a => ?_)
   case' hS14a => ((try dsimp only); exact ⟨HCX.out _ (zAa HB.out hb3), zAa HB.out hb3⟩)
   clear hK14a K14a
   (try simp only [Act.put, Qa, Qb, Qc, Qd, Qe, Qf])
   refine wpAnyH_ready (rs := [15]) (by kernel_rfl) (by simp) ?_
   refine AllReadyH.cons (o := _) rfl (fun K15a hK15a => ?_) AllReadyH.nil
   (refine zAh zAm (by rfl) _ _ (by rfl) w.heap.size _ _ _ (by rfl) ow3 _ _ (by rfl) (zAv (heap_alloc_new w2 (.cells #[.slice ao2 (xm + 1) cap2] 33)) 1) (fun u hu => by rw [Qk.1 hu]; exact ⟨rfl, fun z hz => by rw [Qk.1 hz]; rfl⟩) (by simp; have := HUL.out; omega) (Qo HB.out.size hb3.size) (q + 1) (by simp; exact HUL.out) ?_; intro ao4 cap4 w4 ow4 hg4 hn4; have hb4 : Below w.heap.size w w4 := (zAa HB.out hb3).grown hg4 (Qo HB.out.size hb3.size) (zAg ow3))
   refine hK15a.out _ _ ?hS15a (fun hHeld15a => ?_)
   case' hS15a => ((try dsimp only); exact ⟨HCX.out _ hb4, hb4⟩)
   clear hK15a K15a
   (try simp only [Act.put, Qa, Qb, Qc, Qd, Qe, Qf])
   refine tkH 16 (v := ?v16a) rfl (.inl ⟨by rfl, ?y16a⟩) ?_
   case' y16a => (intro w hSw; first | (go_simp; done) | (go_simp; with_reducible rfl))
   (try simp only [Act.put, Qa, Qb, Qc, Qd, Qe, Qf])
   refine wpAnyH_done (by kernel_rfl) ?_ _
   refine NoPanic.normal ?_
   have hfr : Free (fun b => (Value.slice oa q oc).ownBlock = some b) w2 fun w' => RdP w' (.slice ao2 (xm + 1) cap2) ((t, .slice ta tm tc) :: x.2) := by
    refine zFa (zAf HO.out.1 (zAc hb2) (Qi _)) (K := wr.heap.size) ?_ (zAa HB.out hb2) (Qi _) HOK.out
    have h := ow2
    rw [List.length_cons, <- HXN.out]
    exact h
   have hpush := OwnF.push (o3 := (.cells #[.slice ao2 (xm + 1) cap2] 33)) HO.out hb2 hfr hg4 hn4 (by rw [HUL.out]; exact ow4)
   clear ow1 hg2 hn2 ow2 hb2 hb1 hb3 ow3 ow4 hg4 hn4 hfr
   go_wp2_with fail
   go_roundw
   case rel => exact ⟨q + 1, ao4, cap4, _, by omega, by go_num, rfl, by rw [Qj]; exact HPL.out, hpush, hb4⟩
   case measure => simp [intOf]; omega
  ·have hlti : ¬ (q : Int) < (n : Int) := by omega
   rw [List.take_of_length_le (by rw [<- HN.out]; omega)] at HU
   have HO := hid hown
   clear hu hown hb
   go_wp2_with fail
   go_ret
   exact ⟨_, rfl, U, HU.out, HO.out, HB.out⟩
end Go.Proofs.Ytnfjdoeemnhkbaa
