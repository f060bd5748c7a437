import Derived.Test.YtnfjdoeemnhkbaaRfc
import Derived.Deep.RegionHeld3
set_option linter.unusedVariables false
set_option linter.unusedSimpArgs false
set_option maxRecDepth 100000
set_option maxHeartbeats 8000000
open Go.Lib (hid)
namespace Go.Proofs.Ytnfjdoeemnhkbaa
open Go.RowKit Sy
open _root_.List renaming getElem_toArray -> Qa, getElem_cons_succ -> Qb, getElem_cons_zero -> Qc, setIfInBounds_toArray -> Qd, set_cons_zero -> Qe, set_cons_succ -> Qf, length_map -> Qg, map_append -> Qi, getElem?_eq_getElem -> Ql, length -> Qo, mem_of_getElem? -> Qp, getElem?_map -> Qq, take_add_one -> Qr, take_of_length_le -> Qu, mem_map -> Qv, mem_singleton -> Qw, map_map -> Qx, map_congr_left -> Qy
open Go.World renaming block_lt_of_cell? -> Qh
open _root_.Nat renaming le_refl -> Qj, le_trans -> Qm, zero_le -> Qn
open Go.RowKit.Below renaming refl -> Qk
open Go.IntWalk renaming i64_in -> Qt
theorem zMx (ks : List Int) (hk : Kind12 ks) (E : List El) (cs : List Int) (hkr : KindsR ks (E.map fun y => cs.map (atT y.row))) (hl : E.length <= 1000000) (hcl : cs.length <= 1000) (v cv : Value) (w : World) (hv : Rd w v (E.map Prod.fst)) (hcv : Rd w cv (cs.map (Value.int .i64))) (hr : ∀ x ∈ E, RdP w x.1 x.2 ∧ x.2.length <= 1000) (hc : ∀ c ∈ cs, 0 <= c ∧ ∀ x ∈ E, c < (x.2.length : Int)) :
  Calls Try.prog 22 #[v, cv] w fun e w' => ∃ v' : Value, e = .returned v' ∧ ∃ Z : List El, (Z.map El.row).Perm (E.map fun y => cs.map (atT y.row)) ∧ Srt (ltC (lexL cmpK) fun x : El => keyR x.row) Z ∧ Rd w' v' (Z.map Prod.fst) ∧ (∀ x ∈ Z, RdP w' x.1 x.2) ∧ Below w.heap.size w w' := by
 obtain ⟨va, vc, hvs⟩ : ∃ ao cap, v = .slice ao (E.map Prod.fst).length cap := by obtain ⟨ao, cap, h, _⟩ := hv; exact ⟨ao, cap, h⟩
 obtain ⟨ca, cc, hcs⟩ : ∃ ao cap, cv = .slice ao (cs.map (Value.int .i64)).length cap := by obtain ⟨ao, cap, h, _⟩ := hcv; exact ⟨ao, cap, h⟩
 obtain ⟨n, hn⟩ : ∃ n, n = E.length := ⟨_, rfl⟩
 obtain ⟨m, hm⟩ : ∃ m, m = cs.length := ⟨_, rfl⟩
 rw [Qg, <- hn] at hvs
 rw [Qg, <- hm] at hcs
 subst hvs
 subst hcs
 rw [<- hn] at hl
 rw [<- hm] at hcl
 have HN := hid hn
 have HM := hid hm
 have HV := hid hv
 have HCV := hid hcv
 have HR := hid hr
 have HC := hid hc
 have HKR := hid hkr
 have HK := hid hk
 clear hn hm hv hcv hr hc hkr hk
 go_enter Try.func22, Try.ntmps22
 go_wp2_with fail
 go_loopw [5, 6] (fun o i wr => ∃ (q : Nat) (oa : Option Addr) (oc : Nat) (U : List El), q <= n ∧ i = .int .i64 (q : Int) ∧ o = .slice oa q oc ∧ U.map Prod.snd = (E.take q).map (fun x => cs.map (atP x.2)) ∧ OwnF w.heap.size wr (.slice oa q oc) U ∧ Below w.heap.size w wr) (fun _ i _ => n - (intOf i).toNat)
 case atStart => exact ⟨0, none, 0, [], Qn _, rfl, rfl, by simp, OwnF.nil _ _, Qk _ _⟩
 case round =>
  obtain ⟨q, oa, oc, U, hq, rfl, rfl, hu, hown, hb⟩ := hrel
  obtain ⟨wo, rfl⟩ : ∃ wo : World, wo = wr := ⟨_, rfl⟩
  have HU := hid hu
  have HB := hid hb
  by_cases hlt : q < n
  ·have hul : U.length = q := by have h := congrArg Qo hu; rw [Qg, Qg, List.length_take, <- HN.out] at h; omega
   have HUL := hid hul
   have HO := hid hown
   obtain ⟨x, hx⟩ : ∃ x, E[q]? = some x := ⟨_, Ql (by rw [<- HN.out]; exact hlt)⟩
   have hxm := Qp hx
   obtain ⟨hxr, hxl⟩ := HR.out x hxm
   obtain ⟨vb, vo, hva, hcell⟩ := (zA4 HV.out).2 (by omega)
   subst hva
   obtain ⟨xa0, xc, hxs⟩ := zBe hxr
   obtain ⟨xm, hxn⟩ : ∃ xm, xm = x.2.length := ⟨_, rfl⟩
   rw [<- hxn] at hxs hxl
   have cx0 : w.cell? ⟨vb, vo + q, none⟩ = some (.slice xa0 xm xc) := hcell q _ (by omega) (by rw [Qq, hx, <- hxs]; rfl)
   have HX0 := hid cx0
   have HXR := hid hxr
   have HXS := hid hxs
   have HXN := hid hxn
   have HXM := hid hxm
   have HPL := hid (show U.map Prod.snd ++ [cs.map (atP x.2)] = (E.take (q + 1)).map (fun x => cs.map (atP x.2)) from by
    rw [HU.out, Qr, hx, Qi]
    rfl)
   have HAT := hid (show ∀ c, OkV w (atP x.2 c) from fun c => zCw hxr c)
   have hlti : (q : Int) < (n : Int) := by omega
   have hq0 : (0 : Int) <= (q : Int) := by omega
   have hq1 : IntKind.i64.wrap ((q : Int) + 1) = (q : Int) + 1 := Qt _ (by omega)
   clear hu hb hown hul hx hxm hxr hcell hxs hxn cx0
   go_wp2_with fail
   go_loopw [7, 8] (fun z i wr => ∃ (k : Nat) (xa : Option Addr) (xcc : Nat), k <= m ∧ i = .int .i64 (k : Int) ∧ z = .slice xa k xcc ∧ wr.ownsRow wo.heap.size 36 4 (.slice xa k xcc) k (((cs.take k).map (atP x.2)).map cellsV).flatten ∧ Below wo.heap.size wo wr) (fun _ i _ => m - (intOf i).toNat)
   case atStart => exact ⟨0, none, 0, Qn _, rfl, rfl, World.ownsRow_nil .., Qk _ _⟩
   case round =>
    obtain ⟨k, xa, xcc, hkm, rfl, rfl, hxo, hbi⟩ := hrel
    have HXO := hid hxo
    have HBI := hid hbi
    have HBO := hid (zAa HB.out hbi)
    have HBW := hid (show ∀ w', Below wo.heap.size wo w' -> Below w.heap.size w w' from fun w' h => zAa HB.out h)
    clear hxo hbi
    by_cases hltk : k < m
    ·obtain ⟨ci, hci⟩ : ∃ c, cs[k]? = some c := ⟨_, Ql (by rw [<- HM.out]; exact hltk)⟩
     obtain ⟨hc0, hcx⟩ := HC.out ci (Qp hci)
     have hcx := hcx x HXM.out
     obtain ⟨c, rfl⟩ : ∃ c : Nat, ci = (c : Int) := ⟨ci.toNat, by omega⟩
     obtain ⟨tt, htt⟩ : ∃ tt, x.2[c]? = some tt := ⟨_, Ql (by omega)⟩
     have hxr2 := HXR.out
     rw [HXS.out, HXN.out] at hxr2
     obtain ⟨xb, xo, hxa, p0, p1, p2, p3, okt⟩ := hxr2.at htt
     obtain ⟨ta, tc, hts⟩ := zAo okt.1
     obtain ⟨tm, htm⟩ : ∃ tm, tm = tt.1.b.length := ⟨_, rfl⟩
     rw [<- htm] at hts
     obtain ⟨t, ts⟩ := tt
     simp only at hts p0 p1 p2 p3 htm
     subst hts
     subst hxa
     obtain ⟨cb, co, hca, hccell⟩ := (zA4 HCV.out).2 (by omega)
     subst hca
     have cc0 : w.cell? ⟨cb, co + k, none⟩ = some (.int .i64 (c : Int)) := hccell k _ hltk (by rw [Qq, hci]; rfl)
     have hx0 := HX0.out
     have HCX := hid (show ∀ w', Below w.heap.size w w' -> (w'.cell? ⟨vb, vo + q, none⟩ = some (.slice (some ⟨xb, xo, none⟩) xm xc) ∧ w'.cell? ⟨cb, co + k, none⟩ = some (.int .i64 (c : Int)) ∧ w'.cell? ⟨xb, xo + c * 4, none⟩ = some (.bool t.u) ∧ w'.cell? ⟨xb, xo + c * 4 + 1, none⟩ = some (.int .i64 t.k) ∧ w'.cell? ⟨xb, xo + c * 4 + 2, none⟩ = some (.int .i64 t.n) ∧ w'.cell? ⟨xb, xo + c * 4 + 3, none⟩ = some (.slice ta tm tc)) from fun w' h => ⟨(h.cell (Qh _ _ hx0)).trans hx0, (h.cell (Qh _ _ cc0)).trans cc0, (h.cell (Qh _ _ p0)).trans p0, (h.cell (Qh _ _ p1)).trans p1, (h.cell (Qh _ _ p2)).trans p2, (h.cell (Qh _ _ p3)).trans p3⟩)
     have HTK := hid (show (((cs.take (k + 1)).map (atP x.2)).map cellsV).flatten = (((cs.take k).map (atP x.2)).map cellsV).flatten ++ [[Value.bool t.u, .int .i64 t.k, .int .i64 t.n, .slice ta tm tc]].flatten from by
      rw [Qr, hci, Qi, Qi, List.flatten_append]
      have e : atP x.2 (c : Int) = (t, .slice ta tm tc) := by unfold atP; rw [if_neg (by omega), Int.toNat_natCast, List.getD_eq_getElem?_getD, htt]; rfl
      simp only [Option.toList_some, List.map_cons, List.map_nil]
      rw [e]
      rfl)
     have hki : (k : Int) < (m : Int) := by omega
     have hk0 : (0 : Int) <= (k : Int) := by omega
     have hk1 : IntKind.i64.wrap ((k : Int) + 1) = (k : Int) + 1 := Qt _ (by omega)
     have hci0 : (0 : Int) <= (c : Int) := by omega
     have hcm : (c : Int) < (xm : Int) := by have := HXN.out; omega
     clear hci hcx htt hxr2 okt htm hccell cc0 hx0 p0 p1 p2 p3
     go_upto_region 9 with (fail)
     refine wp_region_noPanic ?_
     refine wp_region_held_drew (S := fun w' => (w'.cell? ⟨vb, vo + q, none⟩ = some (.slice (some ⟨xb, xo, none⟩) xm xc) ∧ w'.cell? ⟨cb, co + k, none⟩ = some (.int .i64 (c : Int)) ∧ w'.cell? ⟨xb, xo + c * 4, none⟩ = some (.bool t.u) ∧ w'.cell? ⟨xb, xo + c * 4 + 1, none⟩ = some (.int .i64 t.k) ∧ w'.cell? ⟨xb, xo + c * 4 + 2, none⟩ = some (.int .i64 t.n) ∧ w'.cell? ⟨xb, xo + c * 4 + 3, none⟩ = some (.slice ta tm tc)) ∧ Below wo.heap.size wo w') (by kernel_rfl) ?hS0 (fun hHeld => ?go0)
     case' hS0 => ((try dsimp only); exact ⟨HCX.out _ (zAa HBO.out (zAb wr.heap.size wr)), zAa HBI.out (zAb wr.heap.size wr)⟩)
     refine tkH 0 (v := ?v0) rfl (.inl ⟨by rfl, ?y0⟩) ?_
     case' y0 => (intro w hSw; first | (go_simp; done) | (go_simp; with_reducible rfl))
     (try simp only [Act.put, Qa, Qb, Qc, Qd, Qe, Qf])
     refine tkH 1 (v := ?v1) rfl (.inl ⟨by rfl, ?y1⟩) ?_
     case' y1 => (intro w hSw; first | (go_simp; done) | (go_simp; with_reducible rfl))
     (try simp only [Act.put, Qa, Qb, Qc, Qd, Qe, Qf])
     refine tkH 2 (v := ?v2) rfl (.inl ⟨by rfl, ?y2⟩) ?_
     case' y2 => (intro w hSw; first | (go_simp; done) | (go_simp; with_reducible rfl))
     (try simp only [Act.put, Qa, Qb, Qc, Qd, Qe, Qf])
     refine tkH 3 (v := ?v3) rfl (.inl ⟨by rfl, ?y3⟩) ?_
     case' y3 => (intro w hSw; first | (go_simp; done) | (go_simp; with_reducible rfl))
     (try simp only [Act.put, Qa, Qb, Qc, Qd, Qe, Qf])
     refine tkH 4 (v := ?v4) rfl (.inl ⟨by rfl, ?y4⟩) ?_
     case' y4 => (intro w hSw; first | (go_simp; done) | (go_simp; with_reducible rfl))
     (try simp only [Act.put, Qa, Qb, Qc, Qd, Qe, Qf])
     refine tkH 5 (v := ?v5) rfl (.inl ⟨by rfl, ?y5⟩) ?_
     case' y5 => (intro w hSw; first | (go_simp; done) | (go_simp; with_reducible rfl))
     (try simp only [Act.put, Qa, Qb, Qc, Qd, Qe, Qf])
     refine tkH 6 (v := ?v6) rfl (.inl ⟨by rfl, ?y6⟩) ?_
     case' y6 => (intro w hSw; first | (go_simp; done) | (go_simp; with_reducible rfl))
     (try simp only [Act.put, Qa, Qb, Qc, Qd, Qe, Qf])
     refine tkH 7 (v := ?v7) rfl (.inl ⟨by rfl, ?y7⟩) ?_
     case' y7 => (intro w hSw; first | (go_simp; done) | (go_simp; with_reducible rfl))
     (try simp only [Act.put, Qa, Qb, Qc, Qd, Qe, Qf])
     refine tkH 8 (v := ?v8) rfl (.inl ⟨by rfl, ?y8⟩) ?_
     case' y8 => (intro w hSw; first | (go_simp; done) | (go_simp; with_reducible rfl))
     (try simp only [Act.put, Qa, Qb, Qc, Qd, Qe, Qf])
     refine tkH 9 (v := ?v9) rfl (.inl ⟨by rfl, ?y9⟩) ?_
     case' y9 => (intro w hSw; first | (go_simp; done) | (go_simp; with_reducible rfl))
     (try simp only [Act.put, Qa, Qb, Qc, Qd, Qe, Qf])
     refine tkH 10 (v := ?v10) rfl (.inl ⟨by rfl, ?y10⟩) ?_
     case' y10 => (intro w hSw; first | (go_simp; done) | (go_simp; with_reducible rfl))
     (try simp only [Act.put, Qa, Qb, Qc, Qd, Qe, Qf])
     refine wpAnyH_ready (rs := [11]) (by kernel_rfl) (by simp) ?_
     refine AllReadyH.cons (o := _) rfl (fun K11a hK11a => ?_) AllReadyH.nil
     go_simp
     (have hb1 : Below wr.heap.size wr (wr.drew.alloc (.cells #[.bool t.u, .int .i64 t.k, .int .i64 t.n, .slice ta tm tc] 36)) := zAe (zAb wr.heap.size wr) _; have ow1 := zAf HXO.out (zAc hb1) (Qj _))
     refine hK11a.out _ _ ?hS11a (fun hHeld11a => ?_)
     case' hS11a => ((try dsimp only); exact ⟨HCX.out _ (zAa HBO.out hb1), zAa HBI.out hb1⟩)
     clear hK11a K11a
     (try simp only [Act.put, Qa, Qb, Qc, Qd, Qe, Qf])
     refine wpAnyH_ready (rs := [12]) (by kernel_rfl) (by simp) ?_
     refine AllReadyH.cons (o := _) rfl (fun K12a hK12a => ?_) AllReadyH.nil
     (refine zAh zCc (by rfl) _ _ (by rfl) wo.heap.size _ _ _ (by rfl) ow1 _ _ (by rfl) (zAv (heap_alloc_new wr.drew (.cells #[.bool t.u, .int .i64 t.k, .int .i64 t.n, .slice ta tm tc] 36)) 4) (zDm t.u t.k t.n ta tm tc) (by simp; omega) (Qm HBI.out.size hb1.size) (k + 1) rfl ?_; intro ao2 cap2 w2 ow2 hg2 hn2; have hb2 : Below wo.heap.size wo w2 := (zAa HBI.out hb1).grown hg2 (Qm HBI.out.size hb1.size) (zAg ow1))
     refine hK12a.out _ _ ?hS12a (fun hHeld12a => ?_)
     case' hS12a => ((try dsimp only); exact ⟨HCX.out _ (HBW.out _ hb2), hb2⟩)
     clear hK12a K12a
     (try simp only [Act.put, Qa, Qb, Qc, Qd, Qe, Qf])
     refine tkH 13 (v := ?v13a) rfl (.inl ⟨by rfl, ?y13a⟩) ?_
     case' y13a => (intro w hSw; first | (go_simp; done) | (go_simp; with_reducible rfl))
     (try simp only [Act.put, Qa, Qb, Qc, Qd, Qe, Qf])
     refine wpAnyH_done (by kernel_rfl) ?_ _
     refine NoPanic.normal ?_
     have hxo2 := ow2
     rw [show (((cs.take k).map (atP x.2)).map cellsV).flatten ++ [(#[Value.bool t.u, .int .i64 t.k, .int .i64 t.n, .slice ta tm tc] : Array Value).toList].flatten = (((cs.take (k + 1)).map (atP x.2)).map cellsV).flatten from HTK.out.symm] at hxo2
     clear ow1 hg2 hn2 ow2 hb1
     go_wp2_with fail
     go_roundw
     case rel => exact ⟨k + 1, ao2, cap2, by omega, by go_num, rfl, hxo2, hb2⟩
     case measure => simp [intOf]; omega
    ·have hki : ¬ (k : Int) < (m : Int) := by omega
     obtain rfl : k = m := by omega
     have HXV := hid (show wr.ownsRow wo.heap.size 36 4 (.slice xa k xcc) (cs.map (atP x.2)).length ((cs.map (atP x.2)).map cellsV).flatten from by
      have h := HXO.out
      rw [Qu (by rw [<- HM.out]; exact Qj _)] at h
      rw [Qg, <- HM.out]
      exact h)
     have HO2 := hid (HO.out.kept HBI.out)
     have HFR := hid (zFa HO2.out.1 HXV.out HBO.out (Qj _) fun t ht => by obtain ⟨c, _, rfl⟩ := Qv.1 ht; exact HAT.out c)
     have HOWN := hid (show (wr.alloc (.cells #[.slice xa k xcc] 33)).ownsRow w.heap.size 33 1 (.slice oa q oc) q (U.map Prod.fst) from by have h := zAf HO2.out.1 (zAc (zAi wr (.cells #[.slice xa k xcc] 33))) (Qj _); rw [HUL.out] at h; exact h)
     have HRD := hid (zAv (heap_alloc_new wr (.cells #[.slice xa k xcc] 33)) 1)
     have HONX := hid (show Ones 1 [(#[Value.slice xa k xcc] : Array Value).toList] from fun u hu => by rw [Qw.1 hu]; exact ⟨rfl, fun z hz => by rw [Qw.1 hz]; rfl⟩)
     have HSZ := hid (show w.heap.size <= (wr.alloc (.cells #[.slice xa k xcc] 33)).heap.size from Qm HBO.out.size (by simp))
     have hqn : q + [(#[Value.slice xa k xcc] : Array Value).toList].length <= 10000000 := by simp; omega
     have HQN := hid hqn
     clear hqn
     go_wp2_with (at_builtin; go_must (refine zAq zAm rfl _ _ rfl w.heap.size _ _ _ rfl HOWN.out _ _ rfl HRD.out HONX.out HQN.out HSZ.out (q + 1) rfl ?_); intro ao4 cap4 w4 hown4 hgrow4 hnew4; have HO4 := hid hown4; have HG4 := hid hgrow4; have HN4 := hid hnew4; clear hown4 hgrow4 hnew4)
     go_roundw
     case rel =>
      refine ⟨q + 1, ao4, cap4, U ++ [(.slice xa k xcc, cs.map (atP x.2))], by omega, by go_num, rfl, by rw [Qi]; exact HPL.out, OwnF.push (o3 := (.cells #[.slice xa k xcc] 33)) HO2.out (Qk _ _) HFR.out HG4.out HN4.out (by rw [HUL.out]; exact HO4.out), ?_⟩
      exact (HBO.out.alloc HBO.out.size _).grown HG4.out HSZ.out (zAg HOWN.out)
     case measure => simp [intOf]; omega
  ·have hlti : ¬ (q : Int) < (n : Int) := by omega
   rw [Qu (by rw [<- HN.out]; omega)] at HU
   have HO := hid hown
   have hul : U.length = n := by have h := congrArg Qo HU.out; rw [Qg, Qg, <- HN.out] at h; exact h
   have HRW := hid (show U.map El.row = E.map fun y => cs.map (atT y.row) from by
    have h := congrArg (fun L => L.map (fun l : List (Vc × Value) => l.map Prod.fst)) HU.out
    simp only [Qx] at h
    refine Eq.trans h ?_
    refine Qy fun y hy => ?_
    show (cs.map (atP y.2)).map Prod.fst = _
    rw [Qx]
    exact Qy fun c _ => zBo y.2 c)
   have HST := hid (zEp ks HK.out U (by rw [HRW.out]; exact HKR.out) (by omega) _ wo HO.out.rd.1 fun y hy => ⟨HO.out.rd.2 y hy, by
    have h : y.2 ∈ U.map Prod.snd := List.mem_map_of_mem hy
    rw [HU.out] at h
    obtain ⟨z, _, he⟩ := Qv.1 h
    rw [<- he, Qg, <- HM.out]
    omega⟩)
   clear hu hown hb hul
   go_wp2_with fail
   refine HST.out.mono ?_
   rintro e w5 ⟨v', rfl, Z, hz1, hz2, hz3, hb5⟩
   have HZ1 := hid hz1
   have HZ2 := hid hz2
   have HZ3 := hid hz3
   have HB5 := hid hb5
   clear hz1 hz2 hz3 hb5
   go_wp2_with fail
   go_ret
   refine ⟨v', rfl, Z, ?_, HZ2.out, Rd.of_owns HZ3.out, fun y hy => (HO.out.rd.2 y (HZ1.out.mem_iff.1 hy)).kept HB5.out, zAa HB.out HB5.out⟩
   rw [<- HRW.out]
   exact HZ1.out.map _
end Go.Proofs.Ytnfjdoeemnhkbaa
