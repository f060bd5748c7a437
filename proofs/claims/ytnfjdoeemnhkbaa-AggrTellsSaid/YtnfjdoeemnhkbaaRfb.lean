import Derived.Test.YtnfjdoeemnhkbaaRfa
import Derived.Test.YtnfjdoeemnhkbaaSyn
import Derived.Test.YtnfjdoeemnhkbaaAgom
import Derived.Deep.RegionHeld3
set_option linter.unusedVariables false
set_option linter.unusedSimpArgs false
set_option maxRecDepth 100000
set_option maxHeartbeats 8000000
open Go.Lib (hid)
namespace Go.Proofs.Ytnfjdoeemnhkbaa
open Go.RowKit Sy
open _root_.List renaming getElem_toArray -> Qa, getElem_cons_succ -> Qb, getElem_cons_zero -> Qc, setIfInBounds_toArray -> Qd, set_cons_zero -> Qe, set_cons_succ -> Qf, length_map -> Qg, length_take -> Qh, length_drop -> Qi, take_append_drop -> Ql, getElem?_eq_some_iff -> Qm, getElem?_map -> Qn, getElem?_eq_getElem -> Qo, take_add_one -> Qp, perm_append_singleton -> Qr, map_append -> Qt, map_cons -> Qu, drop_eq_nil_of_le -> Qy, mem_cons -> Qz, mem_map_of_mem -> Ja, mem_of_getElem? -> Jb, mem_of_mem_take -> Jc, mem_singleton -> Jf, mem_map -> Jg, drop_eq_getElem_cons -> Jh, map_take -> Ji, map_drop -> Jj, take_zero -> Jk
open _root_.Nat renaming le_refl -> Qj, zero_add -> Qv, mul_one -> Qw, add_zero -> Qx
open _root_.Array renaming getElem?_eq_some_iff -> Qk
open Go.RowKit.Below renaming refl -> Qq
open Go.World renaming block_lt_of_cell? -> Jd
open Go.IntWalk renaming i64_in -> Je
open Go renaming heap_alloc_new -> Jl
theorem zN0 {ks : List Int} {x y : List Vc} (h : KindsR ks [x, y]) : ltC (lexL cmpK) (fun r : List Vc => keyR r) y x = decide (0 < cmpR x y) := by
 have hx := h x (by simp)
 have hy := h y (by simp)
 have e : cmpR x y = lexL cmpK (keyR x) (keyR y) := zGw x y hx.2 hy.2 (hx.1.trans hy.1.symm)
 have ha := (zC3 zBf).anti (keyR x) (keyR y)
 show decide (lexL cmpK (keyR y) (keyR x) < 0) = _
 rw [e]
 congr 1
 exact propext ⟨fun h => by omega, fun h => by omega⟩
theorem zAv {w : World} {X : Nat} {cs : Array Value} {T : TypeId} {fz : Nat × Nat} (h : w.heap[X]? = some (.cells cs T fz)) (sz : Nat) : RdS w sz (.slice (some ⟨X, 0, none⟩) 1 1) [cs.toList] := by
 refine ⟨some ⟨X, 0, none⟩, 1, rfl, ⟨(fun h => by cases h), Qj _⟩, fun k t ht => ⟨X, 0, rfl, fun j u hu => ?_⟩⟩
 have hk : k = 0 := by have := (Qm.1 ht).1; simp at this; omega
 subst hk
 cases ht
 rw [Nat.zero_mul, Qv]
 rw [cell_of_row w X j _ _ _ h, <- hu]
 simp
theorem zEw {K sz g q oc : Nat} {w : World} {T : TypeId} {xs : List Value} (h : w.ownsRow K T sz (.slice (some ⟨g, 0, none⟩) q oc) q xs) : q <= oc := by
 rcases h.2 with ⟨e, _⟩ | ⟨g', cap, cur, e, _, _, r⟩
 ·cases e
 ·cases e
  exact r.1
theorem zMs {K g q oc k : Nat} {w : World} {T : TypeId} {xs : List Value} (h : w.ownsRow K T 1 (.slice (some ⟨g, 0, none⟩) q oc) q xs) (hk : k <= q) : RdS w 1 (.slice (some ⟨g, 0, none⟩) k oc) ((xs.take k).map fun u => [u]) := by
 have hl := h.1
 have hc := zEw h
 refine ⟨some ⟨g, 0, none⟩, oc, by rw [Qg, Qh, Nat.min_eq_left (by omega)], ⟨(fun h => by cases h), by rw [Qg, Qh]; omega⟩, fun j t ht => ⟨g, 0, rfl, fun i u hi => ?_⟩⟩
 rw [Qn] at ht
 cases hx : (xs.take k)[j]? with
 | none => rw [hx] at ht; cases ht
 | some z =>
  rw [hx] at ht
  cases ht
  have hi0 : i = 0 := by have := (Qm.1 hi).1; simp at this; omega
  subst hi0
  cases hi
  have hj := (Qm.1 hx).1
  rw [Qh] at hj
  rw [List.getElem?_take_of_lt (by omega)] at hx
  rw [Qv, Qw, Qx, h.cellAt j (by omega), hx]
theorem zPr {K g q oc k : Nat} {w : World} {T : TypeId} {xs : List Value} (h : w.ownsRow K T 1 (.slice (some ⟨g, 0, none⟩) q oc) q xs) (hk : k <= q) : RdS w 1 (.slice (some ⟨g, k, none⟩) (q - k) (oc - k)) ((xs.drop k).map fun u => [u]) := by
 have hl := h.1
 have hc := zEw h
 refine ⟨some ⟨g, k, none⟩, oc - k, by rw [Qg, Qi]; congr 1; omega, ⟨(fun h => by cases h), by rw [Qg, Qi]; omega⟩, fun j t ht => ⟨g, k, rfl, fun i u hi => ?_⟩⟩
 rw [Qn] at ht
 cases hx : (xs.drop k)[j]? with
 | none => rw [hx] at ht; cases ht
 | some z =>
  rw [hx] at ht
  cases ht
  have hi0 : i = 0 := by have := (Qm.1 hi).1; simp at this; omega
  subst hi0
  cases hi
  have hj := (Qm.1 hx).1
  rw [Qi] at hj
  rw [List.getElem?_drop] at hx
  rw [Qw, Qx, h.cellAt (k + j) (by omega), hx]
theorem zKo {K g q oc k : Nat} {w : World} {T : TypeId} {xs : List Value} (h : w.ownsRow K T 1 (.slice (some ⟨g, 0, none⟩) q oc) q xs) (hk : k <= q) : RdS w 1 (.slice (if oc = k then some ⟨g, 0, none⟩ else some ⟨g, k, none⟩) (q - k) (oc - k)) ((xs.drop k).map fun u => [u]) := by
 split
 ·rename_i e
  have hc := zEw h
  have hl := h.1
  have hx : xs.drop k = [] := Qy (by omega)
  rw [hx, show q - k = 0 by omega, show oc - k = 0 by omega]
  exact ⟨some ⟨g, 0, none⟩, 0, rfl, ⟨(fun h => by cases h), Qj _⟩, fun j t ht => by simp at ht⟩
 ·exact zPr h hk
theorem zEp (ks : List Int) (hk : Kind12 ks) (E : List El) (hkr : KindsR ks (E.map El.row)) (hl : E.length <= 1000000) (v : Value) (w : World) (hv : Rd w v (E.map Prod.fst)) (hr : ∀ x ∈ E, RdP w x.1 x.2 ∧ x.2.length <= 1000000) :
  Calls Try.prog 20 #[v] w fun e w' => ∃ v' : Value, e = .returned v' ∧ ∃ Z : List El, Z.Perm E ∧ Srt (ltC (lexL cmpK) fun x : El => keyR x.row) Z ∧ w'.ownsRow w.heap.size 33 1 v' Z.length (Z.map Prod.fst) ∧ Below w.heap.size w w' := by
 obtain ⟨va, vc, hvs⟩ : ∃ ao cap, v = .slice ao (E.map Prod.fst).length cap := by obtain ⟨ao, cap, h, _⟩ := hv; exact ⟨ao, cap, h⟩
 obtain ⟨n, hn⟩ : ∃ n, n = E.length := ⟨_, rfl⟩
 rw [Qg, <- hn] at hvs
 subst hvs
 rw [<- hn] at hl
 have HN := hid hn
 have HV := hid hv
 have HR := hid hr
 have HO := hid (zHz (zC3 zBf) fun x : El => keyR x.row)
 have HCR := hid (show ∀ x ∈ E, ∀ y ∈ E, ∀ w' : World, Below w.heap.size w w' -> (Calls Try.prog 53 #[x.1, y.1] w' fun e w'' => e = .returned (.int .i64 (cmpR x.row y.row)) ∧ Below w'.heap.size w' w'') ∧ ltC (lexL cmpK) (fun x : El => keyR x.row) y x = decide (0 < cmpR x.row y.row) from fun x hx y hy w' hb => by
  have hkk : KindsR ks [x.2.map Prod.fst, y.2.map Prod.fst] := fun r h => by
   simp only [Qz, List.not_mem_nil, or_false] at h
   rcases h with rfl | rfl
   ·exact hkr _ (Ja (f := El.row) hx)
   ·exact hkr _ (Ja (f := El.row) hy)
  exact ⟨zJ8 ks hk x.1 y.1 x.2 y.2 w' ((hr x hx).1.kept hb) ((hr y hy).1.kept hb) hkk (hr x hx).2, zN0 hkk⟩)
 clear hn hv hr hkr hk
 go_enter Try.func20, Try.ntmps20
 go_wp2_with fail
 go_loopw [3, 4] (fun o i wr => ∃ (q : Nat) (Z : List El) (oa : Option Addr) (oc : Nat), q <= n ∧ i = .int .i64 (q : Int) ∧ o = .slice oa q oc ∧ ((q = 0 ∧ oa = none ∧ oc = 0) ∨ ∃ g, oa = some ⟨g, 0, none⟩) ∧ Z.Perm (E.take q) ∧ Srt (ltC (lexL cmpK) fun x : El => keyR x.row) Z ∧ wr.ownsRow w.heap.size 33 1 (.slice oa q oc) q (Z.map Prod.fst) ∧ Below w.heap.size w wr) (fun _ i _ => n - (intOf i).toNat)
 case atStart => exact ⟨0, [], none, 0, Nat.zero_le _, rfl, rfl, .inl ⟨rfl, rfl, rfl⟩, by simp, by unfold Srt; exact List.Pairwise.nil, World.ownsRow_nil .., Qq _ _⟩
 case round =>
  obtain ⟨q, Z, oa, oc, hq, rfl, rfl, hoa, hp, hs, hown, hb⟩ := hrel
  have HP := hid hp
  have HS := hid hs
  have HOW := hid hown
  have HB := hid hb
  have HOA := hid hoa
  clear hp hs hown hb hoa
  by_cases hlt : q < n
  ·obtain ⟨x, hx⟩ : ∃ x, E[q]? = some x := ⟨_, Qo (by rw [<- HN.out]; exact hlt)⟩
   have hxm := Jb hx
   have HX := hid hx
   have HXM := hid hxm
   have HZM := hid (show ∀ z ∈ Z, z ∈ E from fun z hz => Jc (HP.out.mem_iff.1 hz))
   have hzl : Z.length = q := by have := HOW.out.1; rw [Qg] at this; omega
   obtain ⟨vb, vo, hva, hcell⟩ := (zA4 HV.out).2 (by omega)
   subst hva
   obtain ⟨xa, xc, hxs⟩ := zAl (HR.out x hxm).1.1
   obtain ⟨xm, hxn⟩ : ∃ xm, xm = (x.2.map cellsV).length := ⟨_, rfl⟩
   rw [<- hxn] at hxs
   have HXS := hid hxs
   have cx0 : w.cell? ⟨vb, vo + q, none⟩ = some (.slice xa xm xc) := hcell q _ (by omega) (by rw [Qn, hx, <- hxs]; rfl)
   have HCX := hid (show ∀ w', Below w.heap.size w w' -> w'.cell? ⟨vb, vo + q, none⟩ = some (.slice xa xm xc) from fun w' h => (h.cell (Jd _ _ cx0)).trans cx0)
   have hlti : (q : Int) < (n : Int) := by omega
   have hq0 : (0 : Int) <= (q : Int) := by omega
   have hq1 : IntKind.i64.wrap ((q : Int) + 1) = (q : Int) + 1 := Je _ (by omega)
   have HZL := hid hzl
   clear hx hxm hcell hxs hxn cx0 hzl
   go_wp2_with fail
   obtain ⟨wo, rfl⟩ : ∃ wo : World, wo = wr := ⟨_, rfl⟩
   go_loopw [5] (fun i wx => ∃ k : Nat, k <= q ∧ i = .int .i64 (k : Int) ∧ (∀ y ∈ Z.drop k, ltC (lexL cmpK) (fun x : El => keyR x.row) x y = true) ∧ Below wo.heap.size wo wx) (fun i _ => (intOf i).toNat)
   case atStart => exact ⟨q, Qj _, rfl, fun y hy => (by rw [Qy (by rw [HZL.out]; exact Qj _)] at hy; cases hy), Qq _ _⟩
   case round =>
    obtain ⟨k, hkq, rfl, hup, hb⟩ := hrel
    obtain ⟨wx, rfl⟩ : ∃ wx : World, wx = wr := ⟨_, rfl⟩
    have HUP := hid hup
    have HBk := hid hb
    clear hup hb
    have HOx := hid (zAf HOW.out (zAc HBk.out) (Qj _))
    have HBx := hid (zAa HB.out HBk.out)
    have HXON := hid (show Ones 1 [[Value.slice xa xm xc]] from fun t ht => by rw [Jf.1 ht]; exact ⟨rfl, fun u hu => by rw [Jf.1 hu]; rfl⟩)
    have HLON := hid (show Ones 1 (((Z.take k).map Prod.fst).map fun u => [u]) from zFt fun u hu => by obtain ⟨z, hz, rfl⟩ := Jg.1 hu; obtain ⟨a, c, h⟩ := zAl (HR.out z (HZM.out z (Jc hz))).1.1; rw [h]; rfl)
    have HHON := hid (show Ones 1 (((Z.drop k).map Prod.fst).map fun u => [u]) from zFt fun u hu => by obtain ⟨z, hz, rfl⟩ := Jg.1 hu; obtain ⟨a, c, h⟩ := zAl (HR.out z (HZM.out z (List.mem_of_mem_drop hz))).1.1; rw [h]; rfl)
    by_cases hk0 : 0 < k
    ·obtain ⟨g, hg⟩ : ∃ g, oa = some ⟨g, 0, none⟩ := by rcases HOA.out with ⟨h, _⟩ | h; omega; exact h
     subst hg
     obtain ⟨y, hy⟩ : ∃ y, Z[k - 1]? = some y := ⟨_, Qo (by rw [HZL.out]; omega)⟩
     have hym := HZM.out y (Jb hy)
     obtain ⟨ya, yc, hys⟩ := zAl (HR.out y hym).1.1
     obtain ⟨ym, hyn⟩ : ∃ ym, ym = (y.2.map cellsV).length := ⟨_, rfl⟩
     rw [<- hyn] at hys
     have cy : wx.cell? ⟨g, k - 1, none⟩ = some (.slice ya ym yc) := (HOx.out.cellAt (k - 1) (by omega)).trans (by rw [Qn, hy, <- hys]; rfl)
     have cx := HCX.out _ HBx.out
     have HCY := hid (show ∀ w', Below wx.heap.size wx w' -> w'.cell? ⟨g, k - 1, none⟩ = some (.slice ya ym yc) from fun w' h => (h.cell (Jd _ _ cy)).trans cy)
     have hcall := HCR.out y hym x HXM.out
     rw [hys, HXS.out] at hcall
     have hlt2 := (hcall w (Qq _ _)).2
     have HCALL := hid (show ∀ w', Below wx.heap.size wx w' -> _ from fun w' h => (hcall w' (zAa HBx.out h)).1)
     have HY := hid hy
     obtain ⟨c, hc⟩ : ∃ c, c = cmpR y.row x.row := ⟨_, rfl⟩
     rw [<- hc] at hlt2 HCALL
     have HLT2 := hid hlt2
     have hk0i : (0 : Int) < (k : Int) := by omega
     have hk0d : decide ((k : Int) > 0) = true := by rw [decide_eq_true_eq]; exact hk0i
     have hk0e : decide ((0 : Int) < (k : Int)) = true := hk0d
     have hk1 : IntKind.i64.wrap ((k : Int) - 1) = (k : Int) - 1 := Je _ (by omega)
     have hk2 : ((k : Int) - 1).toNat = k - 1 := by omega
     have hk5 : (1 : Int) <= (k : Int) := by omega
     have hk3 : (0 : Int) <= (k : Int) - 1 := by omega
     have hk4 : (k : Int) - 1 < (q : Int) := by omega
     clear hc hcall hlt2 hys hyn hy hym
     by_cases hcp : 0 < c
     ·have hc1 : decide (c > 0) = true := by rw [decide_eq_true_eq]; exact hcp
      have hc2 : decide (0 < c) = true := hc1
      go_upto_region 6 with (fail)
      refine wp_region_noPanic ?_
      refine wp_region_held_drew (S := fun w' => w'.cell? ⟨g, k - 1, none⟩ = some (.slice ya ym yc) ∧ w'.cell? ⟨vb, vo + q, none⟩ = some (.slice xa xm xc) ∧ Below wx.heap.size wx w') (by kernel_rfl) ?hS0 (fun hHeld => ?go0)
      case' hS0 => ((try dsimp only); exact ⟨HCY.out _ (zAb _ _), HCX.out _ (zAa HBx.out (zAb _ _)), zAb _ _⟩)
      refine tkH 0 (v := ?v0g) rfl (.inl ⟨by rfl, ?y0g⟩) ?_
      case' y0g => (intro w hSw; first | (go_simp; done) | (go_simp; with_reducible rfl))
      (try simp only [Act.put, Qa, Qb, Qc, Qd, Qe, Qf])
      refine tkH 1 (v := ?v1g) rfl (.inl ⟨by rfl, ?y1g⟩) ?_
      case' y1g => (intro w hSw; first | (go_simp; done) | (go_simp; with_reducible rfl))
      (try simp only [Act.put, Qa, Qb, Qc, Qd, Qe, Qf])
      refine tkH 2 (v := ?v2g) rfl (.inl ⟨by rfl, ?y2g⟩) ?_
      case' y2g => (intro w hSw; first | (go_simp; done) | (go_simp; with_reducible rfl))
      (try simp only [Act.put, Qa, Qb, Qc, Qd, Qe, Qf])
      refine tkH 3 (v := ?v3g) rfl (.inl ⟨by rfl, ?y3g⟩) ?_
      case' y3g => (intro w hSw; first | (go_simp; done) | (go_simp; with_reducible rfl))
      (try simp only [Act.put, Qa, Qb, Qc, Qd, Qe, Qf])
      refine tkH 4 (v := ?v4g) rfl (.inl ⟨by rfl, ?y4g⟩) ?_
      case' y4g => (intro w hSw; first | (go_simp; done) | (go_simp; with_reducible rfl))
      (try simp only [Act.put, Qa, Qb, Qc, Qd, Qe, Qf])
      refine tkH 5 (v := ?v5g) rfl (.inl ⟨by rfl, ?y5g⟩) ?_
      case' y5g => (intro w hSw; first | (go_simp; done) | (go_simp; with_reducible rfl))
      (try simp only [Act.put, Qa, Qb, Qc, Qd, Qe, Qf])
      refine tkH 6 (v := ?v6g) rfl (.inl ⟨by rfl, ?y6g⟩) ?_
      case' y6g => (intro w hSw; first | (go_simp; done) | (go_simp; with_reducible rfl))
      (try simp only [Act.put, Qa, Qb, Qc, Qd, Qe, Qf])
      refine tkH 7 (v := ?v7g) rfl (.inl ⟨by rfl, ?y7g⟩) ?_
      case' y7g => (intro w hSw; first | (go_simp; done) | (go_simp; with_reducible rfl))
      (try simp only [Act.put, Qa, Qb, Qc, Qd, Qe, Qf])
      refine tkH 8 (v := ?v8g) rfl (.inl ⟨by rfl, ?y8g⟩) ?_
      case' y8g => (intro w hSw; first | (go_simp; done) | (go_simp; with_reducible rfl))
      (try simp only [Act.put, Qa, Qb, Qc, Qd, Qe, Qf])
      refine tkH 9 (v := ?v9g) rfl (.inl ⟨by rfl, ?y9g⟩) ?_
      case' y9g => (intro w hSw; first | (go_simp; done) | (go_simp; with_reducible rfl))
      (try simp only [Act.put, Qa, Qb, Qc, Qd, Qe, Qf])
      refine tkH 10 (v := ?v10g) rfl (.inl ⟨by rfl, ?y10g⟩) ?_
      case' y10g => (intro w hSw; first | (go_simp; done) | (go_simp; with_reducible rfl))
      (try simp only [Act.put, Qa, Qb, Qc, Qd, Qe, Qf])
      refine tkH 11 (v := ?v11g) rfl (.inl ⟨by rfl, ?y11g⟩) ?_
      case' y11g => (intro w hSw; first | (go_simp; done) | (go_simp; with_reducible rfl))
      (try simp only [Act.put, Qa, Qb, Qc, Qd, Qe, Qf])
      refine wpAnyH_ready (rs := [12]) (by kernel_rfl) (by simp) ?_
      refine AllReadyH.cons (o := _) rfl (fun K12g hK12g => ?_) AllReadyH.nil
      go_simp
      (go_at_call 53; refine (HCALL.out _ hHeld.2.2).mono ?_; rintro e w2 ⟨rfl, hb⟩; have hb6 : Below wx.heap.size wx w2 := zAa hHeld.2.2 hb)
      refine hK12g.out _ _ ?hS12g (fun hHeld12g => ?_)
      case' hS12g => ((try dsimp only); exact ⟨HCY.out _ hb6, HCX.out _ (zAa HBx.out hb6), hb6⟩)
      clear hK12g K12g
      (try simp only [Act.put, Qa, Qb, Qc, Qd, Qe, Qf])
      refine tkH 13 (v := ?v13g) rfl (.inl ⟨by rfl, ?y13g⟩) ?_
      case' y13g => (intro w hSw; first | (go_simp; done) | (go_simp; with_reducible rfl))
      (try simp only [Act.put, Qa, Qb, Qc, Qd, Qe, Qf])
      refine tkH 14 (v := ?v14g) rfl (.inl ⟨by rfl, ?y14g⟩) ?_
      case' y14g => (intro w hSw; first | (go_simp; done) | (go_simp; with_reducible rfl))
      (try simp only [Act.put, Qa, Qb, Qc, Qd, Qe, Qf])
      refine wpAnyH_done (by kernel_rfl) ?_ _
      refine NoPanic.normal ?_
      all_goals
       have HB2 := hid (zAa HBk.out hb6)
       clear hb6
       go_wp2_with fail
       go_roundw
       case rel =>
        refine ⟨k - 1, by omega, by go_num, fun z hz => ?_, HB2.out⟩
        rw [show Z.drop (k - 1) = y :: Z.drop k from by rw [Jh (by rw [HZL.out]; omega)]; have h := Qo (l := Z) (show k - 1 < Z.length by rw [HZL.out]; omega); rw [HY.out] at h; rw [<- Option.some.inj h, show k - 1 + 1 = k by omega]] at hz
        rcases Qz.1 hz with rfl | hz
        ·rw [HLT2.out, decide_eq_true_eq]; exact hcp
        ·exact HUP.out z hz
       case measure => simp [intOf]; omega
     ·have hc1 : decide (c > 0) = false := by rw [decide_eq_false_iff_not]; exact hcp
      have hc2 : decide (0 < c) = false := hc1
      go_upto_region 6 with (fail)
      refine wp_region_noPanic ?_
      refine wp_region_held_drew (S := fun w' => w'.cell? ⟨g, k - 1, none⟩ = some (.slice ya ym yc) ∧ w'.cell? ⟨vb, vo + q, none⟩ = some (.slice xa xm xc) ∧ Below wx.heap.size wx w') (by kernel_rfl) ?hS0B (fun hHeld => ?go0B)
      case' hS0B => ((try dsimp only); exact ⟨HCY.out _ (zAb _ _), HCX.out _ (zAa HBx.out (zAb _ _)), zAb _ _⟩)
      refine tkH 0 (v := ?v0gB) rfl (.inl ⟨by rfl, ?y0gB⟩) ?_
      case' y0gB => (intro w hSw; first | (go_simp; done) | (go_simp; with_reducible rfl))
      (try simp only [Act.put, Qa, Qb, Qc, Qd, Qe, Qf])
      refine tkH 1 (v := ?v1gB) rfl (.inl ⟨by rfl, ?y1gB⟩) ?_
      case' y1gB => (intro w hSw; first | (go_simp; done) | (go_simp; with_reducible rfl))
      (try simp only [Act.put, Qa, Qb, Qc, Qd, Qe, Qf])
      refine tkH 2 (v := ?v2gB) rfl (.inl ⟨by rfl, ?y2gB⟩) ?_
      case' y2gB => (intro w hSw; first | (go_simp; done) | (go_simp; with_reducible rfl))
      (try simp only [Act.put, Qa, Qb, Qc, Qd, Qe, Qf])
      refine tkH 3 (v := ?v3gB) rfl (.inl ⟨by rfl, ?y3gB⟩) ?_
      case' y3gB => (intro w hSw; first | (go_simp; done) | (go_simp; with_reducible rfl))
      (try simp only [Act.put, Qa, Qb, Qc, Qd, Qe, Qf])
      refine tkH 4 (v := ?v4gB) rfl (.inl ⟨by rfl, ?y4gB⟩) ?_
      case' y4gB => (intro w hSw; first | (go_simp; done) | (go_simp; with_reducible rfl))
      (try simp only [Act.put, Qa, Qb, Qc, Qd, Qe, Qf])
      refine tkH 5 (v := ?v5gB) rfl (.inl ⟨by rfl, ?y5gB⟩) ?_
      case' y5gB => (intro w hSw; first | (go_simp; done) | (go_simp; with_reducible rfl))
      (try simp only [Act.put, Qa, Qb, Qc, Qd, Qe, Qf])
      refine tkH 6 (v := ?v6gB) rfl (.inl ⟨by rfl, ?y6gB⟩) ?_
      case' y6gB => (intro w hSw; first | (go_simp; done) | (go_simp; with_reducible rfl))
      (try simp only [Act.put, Qa, Qb, Qc, Qd, Qe, Qf])
      refine tkH 7 (v := ?v7gB) rfl (.inl ⟨by rfl, ?y7gB⟩) ?_
      case' y7gB => (intro w hSw; first | (go_simp; done) | (go_simp; with_reducible rfl))
      (try simp only [Act.put, Qa, Qb, Qc, Qd, Qe, Qf])
      refine tkH 8 (v := ?v8gB) rfl (.inl ⟨by rfl, ?y8gB⟩) ?_
      case' y8gB => (intro w hSw; first | (go_simp; done) | (go_simp; with_reducible rfl))
      (try simp only [Act.put, Qa, Qb, Qc, Qd, Qe, Qf])
      refine tkH 9 (v := ?v9gB) rfl (.inl ⟨by rfl, ?y9gB⟩) ?_
      case' y9gB => (intro w hSw; first | (go_simp; done) | (go_simp; with_reducible rfl))
      (try simp only [Act.put, Qa, Qb, Qc, Qd, Qe, Qf])
      refine tkH 10 (v := ?v10gB) rfl (.inl ⟨by rfl, ?y10gB⟩) ?_
      case' y10gB => (intro w hSw; first | (go_simp; done) | (go_simp; with_reducible rfl))
      (try simp only [Act.put, Qa, Qb, Qc, Qd, Qe, Qf])
      refine tkH 11 (v := ?v11gB) rfl (.inl ⟨by rfl, ?y11gB⟩) ?_
      case' y11gB => (intro w hSw; first | (go_simp; done) | (go_simp; with_reducible rfl))
      (try simp only [Act.put, Qa, Qb, Qc, Qd, Qe, Qf])
      refine wpAnyH_ready (rs := [12]) (by kernel_rfl) (by simp) ?_
      refine AllReadyH.cons (o := _) rfl (fun K12g hK12g => ?_) AllReadyH.nil
      go_simp
      (go_at_call 53; refine (HCALL.out _ hHeld.2.2).mono ?_; rintro e w2 ⟨rfl, hb⟩; have hb6 : Below wx.heap.size wx w2 := zAa hHeld.2.2 hb)
      refine hK12g.out _ _ ?hS12gB (fun hHeld12g => ?_)
      case' hS12gB => ((try dsimp only); exact ⟨HCY.out _ hb6, HCX.out _ (zAa HBx.out hb6), hb6⟩)
      clear hK12g K12g
      (try simp only [Act.put, Qa, Qb, Qc, Qd, Qe, Qf])
      refine tkH 13 (v := ?v13gB) rfl (.inl ⟨by rfl, ?y13gB⟩) ?_
      case' y13gB => (intro w hSw; first | (go_simp; done) | (go_simp; with_reducible rfl))
      (try simp only [Act.put, Qa, Qb, Qc, Qd, Qe, Qf])
      refine tkH 14 (v := ?v14gB) rfl (.inl ⟨by rfl, ?y14gB⟩) ?_
      case' y14gB => (intro w hSw; first | (go_simp; done) | (go_simp; with_reducible rfl))
      (try simp only [Act.put, Qa, Qb, Qc, Qd, Qe, Qf])
      refine wpAnyH_done (by kernel_rfl) ?_ _
      refine NoPanic.normal ?_
      go_wp2_with fail
      have hb8 := zAa HBk.out hb6
      have HLO1 := hid (show ∀ a ∈ Z.take k, ltC (lexL cmpK) (fun x : El => keyR x.row) x a = false from fun a ha => by
       have hsp : Z = Z.take (k - 1) ++ y :: Z.drop k := by
        have h := Qo (l := Z) (show k - 1 < Z.length by rw [HZL.out]; omega)
        rw [HY.out] at h
        conv => lhs; rw [<- Ql (k - 1) Z, Jh (by rw [HZL.out]; omega)]
        rw [<- Option.some.inj h, show k - 1 + 1 = k by omega]
       have hs2 := HS.out
       rw [hsp] at hs2
       refine zHy HO.out hs2 (by rw [HLT2.out]; exact hc2) a ?_
       have e : Z.take k = Z.take (k - 1) ++ [y] := by
        rw [show k = k - 1 + 1 by omega, Qp, show k - 1 + 1 - 1 = k - 1 by omega, HY.out]
        rfl
       rw [<- e]
       exact ha)
      obtain ⟨wy, hwy⟩ : ∃ wy : World, wy = w2 := ⟨_, rfl⟩
      rw [<- hwy] at hb8 ⊢
      clear hwy hb hb6
      have HB8 := hid hb8
      have HB8w := hid (zAa HB.out hb8)
      have HOy := hid (zAf HOW.out (zAc hb8) (Qj _))
      clear cy cx hb8
      obtain ⟨wx, rfl⟩ : ∃ wx : World, wx = wy := ⟨_, rfl⟩
      have HBx := hid HB8w.out
      have HLO := hid (show ∀ w', Below wx.heap.size wx w' -> RdS w' 1 (.slice (some ⟨g, 0, none⟩) k oc) (((Z.take k).map Prod.fst).map fun u => [u]) from fun w' h => by rw [Ji]; exact (zMs HOy.out (by omega)).kept h)
      have HHI := hid (show ∀ w', Below wx.heap.size wx w' -> RdS w' 1 (.slice (if oc = k then some ⟨g, 0, none⟩ else some ⟨g, k, none⟩) (q - k) (oc - k)) (((Z.drop k).map Prod.fst).map fun u => [u]) from fun w' h => by rw [Jj]; exact (zKo HOy.out (by omega)).kept h)
      have hqo := zEw HOy.out
      have hko : (k : Int) <= (oc : Int) := by omega
      have hkqi : (k : Int) <= (q : Int) := by omega
      have hk00 : (0 : Int) <= (k : Int) := by omega
      have hqoi : (q : Int) <= (oc : Int) := by omega
      have HPERM := hid (show (Z.take k ++ x :: Z.drop k).Perm (E.take (q + 1)) from by
       refine List.perm_middle.trans ?_
       rw [Ql, Qp, HX.out]
       exact (List.Perm.cons x HP.out).trans (Qr x _).symm)
      have HSRT := hid (zDw HO.out (l1 := Z.take k) (l2 := Z.drop k) (by rw [Ql]; exact HS.out) HLO1.out HUP.out)
      have HEQ := hid (show ∀ (w9 : World) (a : Option Addr) (c9 : Nat), w9.ownsRow wx.heap.size 33 1 (.slice a (q + 1) c9) (q + 1) ((([] ++ (((Z.take k).map Prod.fst).map fun u => [u]).flatten) ++ [[Value.slice xa xm xc]].flatten) ++ (((Z.drop k).map Prod.fst).map fun u => [u]).flatten) -> w9.ownsRow w.heap.size 33 1 (.slice a (q + 1) c9) (q + 1) ((Z.take k ++ x :: Z.drop k).map Prod.fst) from fun w9 a c9 h => by
       have h2 := zAf h (Above.refl _ _) HBx.out.size
       rw [zCi, zCi] at h2
       rw [Qt, Qu, HXS.out]
       simpa using h2)
      go_upto_region 8 with (fail)
      refine wp_region_noPanic ?_
      refine wp_region_held_drew (S := fun w' => w'.cell? ⟨vb, vo + q, none⟩ = some (.slice xa xm xc) ∧ Below wx.heap.size wx w') (by kernel_rfl) ?hS0C (fun hHeld => ?go0C)
      case' hS0C => ((try dsimp only); exact ⟨HCX.out _ (zAa HBx.out (zAb _ _)), zAb _ _⟩)
      refine tkH 1 (v := ?v1C) rfl (.inl ⟨by rfl, ?y1C⟩) ?_
      case' y1C => (intro w hSw; first | (go_simp; done) | (go_simp; with_reducible rfl))
      (try simp only [Act.put, Qa, Qb, Qc, Qd, Qe, Qf])
      refine tkH 2 (v := ?v2C) rfl (.inl ⟨by rfl, ?y2C⟩) ?_
      case' y2C => (intro w hSw; first | (go_simp; done) | (go_simp; with_reducible rfl))
      (try simp only [Act.put, Qa, Qb, Qc, Qd, Qe, Qf])
      refine tkH 3 (v := ?v3C) rfl (.inl ⟨by rfl, ?y3C⟩) ?_
      case' y3C => (intro w hSw; first | (go_simp; done) | (go_simp; with_reducible rfl))
      (try simp only [Act.put, Qa, Qb, Qc, Qd, Qe, Qf])
      refine tkH 5 (v := ?v5C) rfl (.inl ⟨by rfl, ?y5C⟩) ?_
      case' y5C => (intro w hSw; first | (go_simp; done) | (go_simp; with_reducible rfl))
      (try simp only [Act.put, Qa, Qb, Qc, Qd, Qe, Qf])
      refine tkH 6 (v := ?v6C) rfl (.inl ⟨by rfl, ?y6C⟩) ?_
      case' y6C => (intro w hSw; first | (go_simp; done) | (go_simp; with_reducible rfl))
      (try simp only [Act.put, Qa, Qb, Qc, Qd, Qe, Qf])
      refine tkH 7 (v := ?v7C) rfl (.inl ⟨by rfl, ?y7C⟩) ?_
      case' y7C => (intro w hSw; first | (go_simp; done) | (go_simp; with_reducible rfl))
      (try simp only [Act.put, Qa, Qb, Qc, Qd, Qe, Qf])
      refine tkH 8 (v := ?v8C) rfl (.inl ⟨by rfl, ?y8C⟩) ?_
      case' y8C => (intro w hSw; first | (go_simp; done) | (go_simp; with_reducible rfl))
      (try simp only [Act.put, Qa, Qb, Qc, Qd, Qe, Qf])
      refine tkH 11 (v := ?v11C) rfl (.inl ⟨by rfl, ?y11C⟩) ?_
      case' y11C => (intro w hSw; first | (go_simp; done) | (go_simp; with_reducible rfl))
      (try simp only [Act.put, Qa, Qb, Qc, Qd, Qe, Qf])
      refine tkH 12 (v := ?v12C) rfl (.inl ⟨by rfl, ?y12C⟩) ?_
      case' y12C => (intro w hSw; first | (go_simp; done) | (go_simp; with_reducible rfl))
      (try simp only [Act.put, Qa, Qb, Qc, Qd, Qe, Qf])
      refine tkH 13 (v := ?v13C) rfl (.inl ⟨by rfl, ?y13C⟩) ?_
      case' y13C => (intro w hSw; first | (go_simp; done) | (go_simp; with_reducible rfl))
      (try simp only [Act.put, Qa, Qb, Qc, Qd, Qe, Qf])
      refine wpAnyH_ready (rs := [0, 9]) (by kernel_rfl) (by simp) ?_
      refine AllReadyH.cons (o := _) rfl (fun K0a hK0a => ?_) (AllReadyH.cons (o := _) rfl (fun K9b hK9b => ?_) AllReadyH.nil)
      ·go_simp
       (have hb0a : Below wx.heap.size wx (wx.drew.alloc (.cells #[] 33)) := zAe (zAb wx.heap.size wx) _; have ow0a := World.ownsRow_lit (e := 33) (size := 1) wx.drew #[] 0 (show wx.heap.size <= _ from (zAb wx.heap.size wx).size) (by unfold maxLen; omega) rfl)
       refine hK0a.out _ _ ?hS0aC (fun hHeld0a => ?_)
       case' hS0aC => ((try dsimp only); exact ⟨HCX.out _ (zAa HBx.out hb0a), hb0a⟩)
       clear hK0a K0a
       (try simp only [Act.put, Qa, Qb, Qc, Qd, Qe, Qf])
       refine wpAnyH_ready (rs := [4, 9]) (by kernel_rfl) (by simp) ?_
       refine AllReadyH.cons (o := _) rfl (fun K4aa hK4aa => ?_) (AllReadyH.cons (o := _) rfl (fun K9ab hK9ab => ?_) AllReadyH.nil)
       ·(refine zAh zAm (by rfl) _ _ (by rfl) wx.heap.size _ _ _ (by rfl) ow0a _ _ (by rfl) (HLO.out _ hb0a) HLON.out (by have hz := HZL.out; simp only [Qg, Qh, Qi]; omega) hb0a.size k (by have hz := HZL.out; simp only [Qg, Qh, Qi]; omega) ?_; intro ao4aa cap4aa w4aa ow4aa hg4aa hn4aa; have hb4aa := hb0a.grown hg4aa hb0a.size (zAg ow0a))
        refine hK4aa.out _ _ ?hS4aaC (fun hHeld4aa => ?_)
        case' hS4aaC => ((try dsimp only); exact ⟨HCX.out _ (zAa HBx.out hb4aa), hb4aa⟩)
        clear hK4aa K4aa
        (try simp only [Act.put, Qa, Qb, Qc, Qd, Qe, Qf])
        refine wpAnyH_ready (rs := [9]) (by kernel_rfl) (by simp) ?_
        refine AllReadyH.cons (o := _) rfl (fun K9aaa hK9aaa => ?_) AllReadyH.nil
        go_simp
        (have hb9aaa : Below wx.heap.size wx (w4aa.alloc (.cells #[.slice xa xm xc] 33)) := zAe hb4aa _; have ow9aaa := zAf ow4aa (zAc (zAi w4aa (.cells #[.slice xa xm xc] 33))) (Qj _); have hx9aaa := Jl w4aa (.cells #[.slice xa xm xc] 33))
        refine hK9aaa.out _ _ ?hS9aaaC (fun hHeld9aaa => ?_)
        case' hS9aaaC => ((try dsimp only); exact ⟨HCX.out _ (zAa HBx.out hb9aaa), hb9aaa⟩)
        clear hK9aaa K9aaa
        (try simp only [Act.put, Qa, Qb, Qc, Qd, Qe, Qf])
        refine wpAnyH_ready (rs := [10]) (by kernel_rfl) (by simp) ?_
        refine AllReadyH.cons (o := _) rfl (fun K10aaaa hK10aaaa => ?_) AllReadyH.nil
        (refine zAh zAm (by rfl) _ _ (by rfl) wx.heap.size _ _ _ (by rfl) ow9aaa _ _ (by rfl) (zAv hx9aaa 1) HXON.out (by first | (simp; done) | (simp; omega)) hb9aaa.size (k + 1) rfl ?_; intro ao10aaaa cap10aaaa w10aaaa ow10aaaa hg10aaaa hn10aaaa; have hb10aaaa := hb9aaa.grown hg10aaaa hb9aaa.size (zAg ow9aaa))
        refine hK10aaaa.out _ _ ?hS10aaaaC (fun hHeld10aaaa => ?_)
        case' hS10aaaaC => ((try dsimp only); exact ⟨HCX.out _ (zAa HBx.out hb10aaaa), hb10aaaa⟩)
        clear hK10aaaa K10aaaa
        (try simp only [Act.put, Qa, Qb, Qc, Qd, Qe, Qf])
        refine wpAnyH_ready (rs := [14]) (by kernel_rfl) (by simp) ?_
        refine AllReadyH.cons (o := _) rfl (fun K14aaaaa hK14aaaaa => ?_) AllReadyH.nil
        (refine zAh zAm (by rfl) _ _ (by rfl) wx.heap.size _ _ _ (by rfl) ow10aaaa _ _ (by rfl) (HHI.out _ hb10aaaa) HHON.out (by have hz := HZL.out; simp only [Qg, Qh, Qi]; omega) hb10aaaa.size (q + 1) (by have hz := HZL.out; simp only [Qg, Qh, Qi]; omega) ?_; intro ao14aaaaa cap14aaaaa w14aaaaa ow14aaaaa hg14aaaaa hn14aaaaa; have hb14aaaaa := hb10aaaa.grown hg14aaaaa hb10aaaa.size (zAg ow10aaaa))
        refine hK14aaaaa.out _ _ ?hS14aaaaaC (fun hHeld14aaaaa => ?_)
        case' hS14aaaaaC => ((try dsimp only); exact ⟨HCX.out _ (zAa HBx.out hb14aaaaa), hb14aaaaa⟩)
        clear hK14aaaaa K14aaaaa
        (try simp only [Act.put, Qa, Qb, Qc, Qd, Qe, Qf])
        refine tkH 15 (v := ?v15aaaaaC) rfl (.inl ⟨by rfl, ?y15aaaaaC⟩) ?_
        case' y15aaaaaC => (intro w hSw; first | (go_simp; done) | (go_simp; with_reducible rfl))
        (try simp only [Act.put, Qa, Qb, Qc, Qd, Qe, Qf])
        refine wpAnyH_done (by kernel_rfl) ?_ _
        refine NoPanic.normal ?_
        have how := ow14aaaaa
        have hbb := hb14aaaaa
        obtain ⟨gz, hgz⟩ := zA3 how (by omega)
        subst hgz
        have hown9 := HEQ.out _ _ _ how
        have hb9 := zAa HB8.out hbb
        clear how hbb
        go_wp2_with fail
        go_roundw
        case rel => exact ⟨q + 1, Z.take k ++ x :: Z.drop k, some ⟨gz, 0, none⟩, _, by omega, by go_num, rfl, .inr ⟨gz, rfl⟩, HPERM.out, HSRT.out, hown9, zAa HB.out hb9⟩
        case measure => simp [intOf]; omega
       ·go_simp
        (have hb9ab : Below wx.heap.size wx ((wx.drew.alloc (.cells #[] 33)).alloc (.cells #[.slice xa xm xc] 33)) := zAe hb0a _; have ow9ab := zAf ow0a (zAc (zAi (wx.drew.alloc (.cells #[] 33)) (.cells #[.slice xa xm xc] 33))) (Qj _); have hx9ab := Jl (wx.drew.alloc (.cells #[] 33)) (.cells #[.slice xa xm xc] 33); rw [show (wx.drew.alloc (.cells #[] 33)).heap.size = wx.heap.size + 1 from by simp] at hx9ab)
        refine hK9ab.out _ _ ?hS9abC (fun hHeld9ab => ?_)
        case' hS9abC => ((try dsimp only); exact ⟨HCX.out _ (zAa HBx.out hb9ab), hb9ab⟩)
        clear hK9ab K9ab
        (try simp only [Act.put, Qa, Qb, Qc, Qd, Qe, Qf])
        refine wpAnyH_ready (rs := [4]) (by kernel_rfl) (by simp) ?_
        refine AllReadyH.cons (o := _) rfl (fun K4aba hK4aba => ?_) AllReadyH.nil
        (refine zAh zAm (by rfl) _ _ (by rfl) wx.heap.size _ _ _ (by rfl) ow9ab _ _ (by rfl) (HLO.out _ hb9ab) HLON.out (by have hz := HZL.out; simp only [Qg, Qh, Qi]; omega) hb9ab.size k (by have hz := HZL.out; simp only [Qg, Qh, Qi]; omega) ?_; intro ao4aba cap4aba w4aba ow4aba hg4aba hn4aba; have hb4aba := hb9ab.grown hg4aba hb9ab.size (zAg ow9ab); have hx4aba := (hg4aba.block _ (Qk.1 hx9ab).1 (by simp [Value.ownBlock])).trans hx9ab)
        refine hK4aba.out _ _ ?hS4abaC (fun hHeld4aba => ?_)
        case' hS4abaC => ((try dsimp only); exact ⟨HCX.out _ (zAa HBx.out hb4aba), hb4aba⟩)
        clear hK4aba K4aba
        (try simp only [Act.put, Qa, Qb, Qc, Qd, Qe, Qf])
        refine wpAnyH_ready (rs := [10]) (by kernel_rfl) (by simp) ?_
        refine AllReadyH.cons (o := _) rfl (fun K10abaa hK10abaa => ?_) AllReadyH.nil
        (refine zAh zAm (by rfl) _ _ (by rfl) wx.heap.size _ _ _ (by rfl) ow4aba _ _ (by rfl) (zAv hx4aba 1) HXON.out (by first | (simp; done) | (simp; omega)) hb4aba.size (k + 1) rfl ?_; intro ao10abaa cap10abaa w10abaa ow10abaa hg10abaa hn10abaa; have hb10abaa := hb4aba.grown hg10abaa hb4aba.size (zAg ow4aba))
        refine hK10abaa.out _ _ ?hS10abaaC (fun hHeld10abaa => ?_)
        case' hS10abaaC => ((try dsimp only); exact ⟨HCX.out _ (zAa HBx.out hb10abaa), hb10abaa⟩)
        clear hK10abaa K10abaa
        (try simp only [Act.put, Qa, Qb, Qc, Qd, Qe, Qf])
        refine wpAnyH_ready (rs := [14]) (by kernel_rfl) (by simp) ?_
        refine AllReadyH.cons (o := _) rfl (fun K14abaaa hK14abaaa => ?_) AllReadyH.nil
        (refine zAh zAm (by rfl) _ _ (by rfl) wx.heap.size _ _ _ (by rfl) ow10abaa _ _ (by rfl) (HHI.out _ hb10abaa) HHON.out (by have hz := HZL.out; simp only [Qg, Qh, Qi]; omega) hb10abaa.size (q + 1) (by have hz := HZL.out; simp only [Qg, Qh, Qi]; omega) ?_; intro ao14abaaa cap14abaaa w14abaaa ow14abaaa hg14abaaa hn14abaaa; have hb14abaaa := hb10abaa.grown hg14abaaa hb10abaa.size (zAg ow10abaa))
        refine hK14abaaa.out _ _ ?hS14abaaaC (fun hHeld14abaaa => ?_)
        case' hS14abaaaC => ((try dsimp only); exact ⟨HCX.out _ (zAa HBx.out hb14abaaa), hb14abaaa⟩)
        clear hK14abaaa K14abaaa
        (try simp only [Act.put, Qa, Qb, Qc, Qd, Qe, Qf])
        refine tkH 15 (v := ?v15abaaaC) rfl (.inl ⟨by rfl, ?y15abaaaC⟩) ?_
        case' y15abaaaC => (intro w hSw; first | (go_simp; done) | (go_simp; with_reducible rfl))
        (try simp only [Act.put, Qa, Qb, Qc, Qd, Qe, Qf])
        refine wpAnyH_done (by kernel_rfl) ?_ _
        refine NoPanic.normal ?_
        have how := ow14abaaa
        have hbb := hb14abaaa
        obtain ⟨gz, hgz⟩ := zA3 how (by omega)
        subst hgz
        have hown9 := HEQ.out _ _ _ how
        have hb9 := zAa HB8.out hbb
        clear how hbb
        go_wp2_with fail
        go_roundw
        case rel => exact ⟨q + 1, Z.take k ++ x :: Z.drop k, some ⟨gz, 0, none⟩, _, by omega, by go_num, rfl, .inr ⟨gz, rfl⟩, HPERM.out, HSRT.out, hown9, zAa HB.out hb9⟩
        case measure => simp [intOf]; omega
      ·go_simp
       (have hb9b : Below wx.heap.size wx (wx.drew.alloc (.cells #[.slice xa xm xc] 33)) := zAe (zAb wx.heap.size wx) _; have hx9b := Jl wx.drew (.cells #[.slice xa xm xc] 33))
       refine hK9b.out _ _ ?hS9bC (fun hHeld9b => ?_)
       case' hS9bC => ((try dsimp only); exact ⟨HCX.out _ (zAa HBx.out hb9b), hb9b⟩)
       clear hK9b K9b
       (try simp only [Act.put, Qa, Qb, Qc, Qd, Qe, Qf])
       refine wpAnyH_ready (rs := [0]) (by kernel_rfl) (by simp) ?_
       refine AllReadyH.cons (o := _) rfl (fun K0ba hK0ba => ?_) AllReadyH.nil
       go_simp
       (have hb0ba : Below wx.heap.size wx ((wx.drew.alloc (.cells #[.slice xa xm xc] 33)).alloc (.cells #[] 33)) := zAe hb9b _; have hx0ba := (heap_alloc_old (wx.drew.alloc (.cells #[.slice xa xm xc] 33)) (.cells #[] 33) (Qk.1 hx9b).1).trans hx9b; have ow0ba := World.ownsRow_lit (e := 33) (size := 1) (wx.drew.alloc (.cells #[.slice xa xm xc] 33)) #[] 0 (show wx.heap.size <= _ from hb9b.size) (by unfold maxLen; omega) rfl; rw [show (wx.drew.alloc (.cells #[.slice xa xm xc] 33)).heap.size = wx.heap.size + 1 from by simp] at ow0ba)
       refine hK0ba.out _ _ ?hS0baC (fun hHeld0ba => ?_)
       case' hS0baC => ((try dsimp only); exact ⟨HCX.out _ (zAa HBx.out hb0ba), hb0ba⟩)
       clear hK0ba K0ba
       (try simp only [Act.put, Qa, Qb, Qc, Qd, Qe, Qf])
       refine wpAnyH_ready (rs := [4]) (by kernel_rfl) (by simp) ?_
       refine AllReadyH.cons (o := _) rfl (fun K4baa hK4baa => ?_) AllReadyH.nil
       (refine zAh zAm (by rfl) _ _ (by rfl) wx.heap.size _ _ _ (by rfl) ow0ba _ _ (by rfl) (HLO.out _ hb0ba) HLON.out (by have hz := HZL.out; simp only [Qg, Qh, Qi]; omega) hb0ba.size k (by have hz := HZL.out; simp only [Qg, Qh, Qi]; omega) ?_; intro ao4baa cap4baa w4baa ow4baa hg4baa hn4baa; have hb4baa := hb0ba.grown hg4baa hb0ba.size (zAg ow0ba); have hx4baa := (hg4baa.block _ (Qk.1 hx0ba).1 (by simp [Value.ownBlock])).trans hx0ba)
       refine hK4baa.out _ _ ?hS4baaC (fun hHeld4baa => ?_)
       case' hS4baaC => ((try dsimp only); exact ⟨HCX.out _ (zAa HBx.out hb4baa), hb4baa⟩)
       clear hK4baa K4baa
       (try simp only [Act.put, Qa, Qb, Qc, Qd, Qe, Qf])
       refine wpAnyH_ready (rs := [10]) (by kernel_rfl) (by simp) ?_
       refine AllReadyH.cons (o := _) rfl (fun K10baaa hK10baaa => ?_) AllReadyH.nil
       (refine zAh zAm (by rfl) _ _ (by rfl) wx.heap.size _ _ _ (by rfl) ow4baa _ _ (by rfl) (zAv hx4baa 1) HXON.out (by first | (simp; done) | (simp; omega)) hb4baa.size (k + 1) rfl ?_; intro ao10baaa cap10baaa w10baaa ow10baaa hg10baaa hn10baaa; have hb10baaa := hb4baa.grown hg10baaa hb4baa.size (zAg ow4baa))
       refine hK10baaa.out _ _ ?hS10baaaC (fun hHeld10baaa => ?_)
       case' hS10baaaC => ((try dsimp only); exact ⟨HCX.out _ (zAa HBx.out hb10baaa), hb10baaa⟩)
       clear hK10baaa K10baaa
       (try simp only [Act.put, Qa, Qb, Qc, Qd, Qe, Qf])
       refine wpAnyH_ready (rs := [14]) (by kernel_rfl) (by simp) ?_
       refine AllReadyH.cons (o := _) rfl (fun K14baaaa hK14baaaa => ?_) AllReadyH.nil
       (refine zAh zAm (by rfl) _ _ (by rfl) wx.heap.size _ _ _ (by rfl) ow10baaa _ _ (by rfl) (HHI.out _ hb10baaa) HHON.out (by have hz := HZL.out; simp only [Qg, Qh, Qi]; omega) hb10baaa.size (q + 1) (by have hz := HZL.out; simp only [Qg, Qh, Qi]; omega) ?_; intro ao14baaaa cap14baaaa w14baaaa ow14baaaa hg14baaaa hn14baaaa; have hb14baaaa := hb10baaa.grown hg14baaaa hb10baaa.size (zAg ow10baaa))
       refine hK14baaaa.out _ _ ?hS14baaaaC (fun hHeld14baaaa => ?_)
       case' hS14baaaaC => ((try dsimp only); exact ⟨HCX.out _ (zAa HBx.out hb14baaaa), hb14baaaa⟩)
       clear hK14baaaa K14baaaa
       (try simp only [Act.put, Qa, Qb, Qc, Qd, Qe, Qf])
       refine tkH 15 (v := ?v15baaaaC) rfl (.inl ⟨by rfl, ?y15baaaaC⟩) ?_
       case' y15baaaaC => (intro w hSw; first | (go_simp; done) | (go_simp; with_reducible rfl))
       (try simp only [Act.put, Qa, Qb, Qc, Qd, Qe, Qf])
       refine wpAnyH_done (by kernel_rfl) ?_ _
       refine NoPanic.normal ?_
       have how := ow14baaaa
       have hbb := hb14baaaa
       obtain ⟨gz, hgz⟩ := zA3 how (by omega)
       subst hgz
       have hown9 := HEQ.out _ _ _ how
       have hb9 := zAa HB8.out hbb
       clear how hbb
       go_wp2_with fail
       go_roundw
       case rel => exact ⟨q + 1, Z.take k ++ x :: Z.drop k, some ⟨gz, 0, none⟩, _, by omega, by go_num, rfl, .inr ⟨gz, rfl⟩, HPERM.out, HSRT.out, hown9, zAa HB.out hb9⟩
       case measure => simp [intOf]; omega
    ·have hk0i : ¬ (0 : Int) < (k : Int) := by omega
     have hk0d : decide ((k : Int) > 0) = false := by rw [decide_eq_false_iff_not]; exact hk0i
     have hk0e : decide ((0 : Int) < (k : Int)) = false := hk0d
     go_upto_region 6 with (fail)
     go_quiet (fail)
     go_wp2_with fail
     have hb8 := below_draws HBk.out nq
     have HLO1 := hid (show ∀ a ∈ Z.take k, ltC (lexL cmpK) (fun x : El => keyR x.row) x a = false from fun a ha => by rw [show k = 0 by omega, Jk] at ha; cases ha)
     obtain ⟨wy, hwy⟩ : ∃ wy : World, wy = wx.drewN nq := ⟨_, rfl⟩
     rw [<- hwy] at hb8 ⊢
     clear hwy
     rcases HOA.out with ⟨hq00, rfl, rfl⟩ | ⟨g, rfl⟩
     ·obtain rfl : k = 0 := by omega
      have HB8 := hid hb8
      have HB8w := hid (zAa HB.out hb8)
      have HOy := hid (zAf HOW.out (zAc hb8) (Qj _))
      clear hb8
      obtain ⟨wx, rfl⟩ : ∃ wx : World, wx = wy := ⟨_, rfl⟩
      have HBx := hid HB8w.out
      have HLO := hid (show ∀ w', Below wx.heap.size wx w' -> RdS w' 1 (.slice none 0 0) (((Z.take 0).map Prod.fst).map fun u => [u]) from fun w' h => by rw [Jk]; exact RdS.nil _ _)
      have HHI := hid (show ∀ w', Below wx.heap.size wx w' -> RdS w' 1 (.slice none 0 0) (((Z.drop 0).map Prod.fst).map fun u => [u]) from fun w' h => by rw [show Z = [] from List.length_eq_zero_iff.1 (by rw [HZL.out]; exact hq00)]; exact RdS.nil _ _)
      have HPERM := hid (show (Z.take 0 ++ x :: Z.drop 0).Perm (E.take (q + 1)) from by
       refine List.perm_middle.trans ?_
       rw [Ql, Qp, HX.out]
       exact (List.Perm.cons x HP.out).trans (Qr x _).symm)
      have HSRT := hid (zDw HO.out (l1 := Z.take 0) (l2 := Z.drop 0) (by rw [Ql]; exact HS.out) HLO1.out HUP.out)
      have HEQ := hid (show ∀ (w9 : World) (a : Option Addr) (c9 : Nat), w9.ownsRow wx.heap.size 33 1 (.slice a (q + 1) c9) (q + 1) ((([] ++ (((Z.take 0).map Prod.fst).map fun u => [u]).flatten) ++ [[Value.slice xa xm xc]].flatten) ++ (((Z.drop 0).map Prod.fst).map fun u => [u]).flatten) -> w9.ownsRow w.heap.size 33 1 (.slice a (q + 1) c9) (q + 1) ((Z.take 0 ++ x :: Z.drop 0).map Prod.fst) from fun w9 a c9 h => by
       have h2 := zAf h (Above.refl _ _) HBx.out.size
       rw [zCi, zCi] at h2
       rw [Qt, Qu, HXS.out]
       simpa using h2)
      subst hq00
      go_upto_region 8 with (fail)
      refine wp_region_noPanic ?_
      refine wp_region_held_drew (S := fun w' => w'.cell? ⟨vb, vo, none⟩ = some (.slice xa xm xc) ∧ Below wx.heap.size wx w') (by kernel_rfl) ?hS0D (fun hHeld => ?go0D)
      case' hS0D => ((try dsimp only); exact ⟨HCX.out _ (zAa HBx.out (zAb _ _)), zAb _ _⟩)
      refine tkH 1 (v := ?v1D) rfl (.inl ⟨by rfl, ?y1D⟩) ?_
      case' y1D => (intro w hSw; first | (go_simp; done) | (go_simp; with_reducible rfl))
      (try simp only [Act.put, Qa, Qb, Qc, Qd, Qe, Qf])
      refine tkH 2 (v := ?v2D) rfl (.inl ⟨by rfl, ?y2D⟩) ?_
      case' y2D => (intro w hSw; first | (go_simp; done) | (go_simp; with_reducible rfl))
      (try simp only [Act.put, Qa, Qb, Qc, Qd, Qe, Qf])
      refine tkH 3 (v := ?v3D) rfl (.inl ⟨by rfl, ?y3D⟩) ?_
      case' y3D => (intro w hSw; first | (go_simp; done) | (go_simp; with_reducible rfl))
      (try simp only [Act.put, Qa, Qb, Qc, Qd, Qe, Qf])
      refine tkH 5 (v := ?v5D) rfl (.inl ⟨by rfl, ?y5D⟩) ?_
      case' y5D => (intro w hSw; first | (go_simp; done) | (go_simp; with_reducible rfl))
      (try simp only [Act.put, Qa, Qb, Qc, Qd, Qe, Qf])
      refine tkH 6 (v := ?v6D) rfl (.inl ⟨by rfl, ?y6D⟩) ?_
      case' y6D => (intro w hSw; first | (go_simp; done) | (go_simp; with_reducible rfl))
      (try simp only [Act.put, Qa, Qb, Qc, Qd, Qe, Qf])
      refine tkH 7 (v := ?v7D) rfl (.inl ⟨by rfl, ?y7D⟩) ?_
      case' y7D => (intro w hSw; first | (go_simp; done) | (go_simp; with_reducible rfl))
      (try simp only [Act.put, Qa, Qb, Qc, Qd, Qe, Qf])
      refine tkH 8 (v := ?v8D) rfl (.inl ⟨by rfl, ?y8D⟩) ?_
      case' y8D => (intro w hSw; first | (go_simp; done) | (go_simp; with_reducible rfl))
      (try simp only [Act.put, Qa, Qb, Qc, Qd, Qe, Qf])
      refine tkH 11 (v := ?v11D) rfl (.inl ⟨by rfl, ?y11D⟩) ?_
      case' y11D => (intro w hSw; first | (go_simp; done) | (go_simp; with_reducible rfl))
      (try simp only [Act.put, Qa, Qb, Qc, Qd, Qe, Qf])
      refine tkH 12 (v := ?v12D) rfl (.inl ⟨by rfl, ?y12D⟩) ?_
      case' y12D => (intro w hSw; first | (go_simp; done) | (go_simp; with_reducible rfl))
      (try simp only [Act.put, Qa, Qb, Qc, Qd, Qe, Qf])
      refine tkH 13 (v := ?v13D) rfl (.inl ⟨by rfl, ?y13D⟩) ?_
      case' y13D => (intro w hSw; first | (go_simp; done) | (go_simp; with_reducible rfl))
      (try simp only [Act.put, Qa, Qb, Qc, Qd, Qe, Qf])
      refine wpAnyH_ready (rs := [0, 9]) (by kernel_rfl) (by simp) ?_
      refine AllReadyH.cons (o := _) rfl (fun K0a hK0a => ?_) (AllReadyH.cons (o := _) rfl (fun K9b hK9b => ?_) AllReadyH.nil)
      ·go_simp
       (have hb0a : Below wx.heap.size wx (wx.drew.alloc (.cells #[] 33)) := zAe (zAb wx.heap.size wx) _; have ow0a := World.ownsRow_lit (e := 33) (size := 1) wx.drew #[] 0 (show wx.heap.size <= _ from (zAb wx.heap.size wx).size) (by unfold maxLen; omega) rfl)
       refine hK0a.out _ _ ?hS0aD (fun hHeld0a => ?_)
       case' hS0aD => ((try dsimp only); exact ⟨HCX.out _ (zAa HBx.out hb0a), hb0a⟩)
       clear hK0a K0a
       (try simp only [Act.put, Qa, Qb, Qc, Qd, Qe, Qf])
       refine wpAnyH_ready (rs := [4, 9]) (by kernel_rfl) (by simp) ?_
       refine AllReadyH.cons (o := _) rfl (fun K4aa hK4aa => ?_) (AllReadyH.cons (o := _) rfl (fun K9ab hK9ab => ?_) AllReadyH.nil)
       ·(refine zAh zAm (by rfl) _ _ (by rfl) wx.heap.size _ _ _ (by rfl) ow0a _ _ (by rfl) (HLO.out _ hb0a) HLON.out (by have hz := HZL.out; simp only [Qg, Qh, Qi]; omega) hb0a.size 0 (by have hz := HZL.out; simp only [Qg, Qh, Qi]; omega) ?_; intro ao4aa cap4aa w4aa ow4aa hg4aa hn4aa; have hb4aa := hb0a.grown hg4aa hb0a.size (zAg ow0a))
        refine hK4aa.out _ _ ?hS4aaD (fun hHeld4aa => ?_)
        case' hS4aaD => ((try dsimp only); exact ⟨HCX.out _ (zAa HBx.out hb4aa), hb4aa⟩)
        clear hK4aa K4aa
        (try simp only [Act.put, Qa, Qb, Qc, Qd, Qe, Qf])
        refine wpAnyH_ready (rs := [9]) (by kernel_rfl) (by simp) ?_
        refine AllReadyH.cons (o := _) rfl (fun K9aaa hK9aaa => ?_) AllReadyH.nil
        go_simp
        (have hb9aaa : Below wx.heap.size wx (w4aa.alloc (.cells #[.slice xa xm xc] 33)) := zAe hb4aa _; have ow9aaa := zAf ow4aa (zAc (zAi w4aa (.cells #[.slice xa xm xc] 33))) (Qj _); have hx9aaa := Jl w4aa (.cells #[.slice xa xm xc] 33))
        refine hK9aaa.out _ _ ?hS9aaaD (fun hHeld9aaa => ?_)
        case' hS9aaaD => ((try dsimp only); exact ⟨HCX.out _ (zAa HBx.out hb9aaa), hb9aaa⟩)
        clear hK9aaa K9aaa
        (try simp only [Act.put, Qa, Qb, Qc, Qd, Qe, Qf])
        refine wpAnyH_ready (rs := [10]) (by kernel_rfl) (by simp) ?_
        refine AllReadyH.cons (o := _) rfl (fun K10aaaa hK10aaaa => ?_) AllReadyH.nil
        (refine zAh zAm (by rfl) _ _ (by rfl) wx.heap.size _ _ _ (by rfl) ow9aaa _ _ (by rfl) (zAv hx9aaa 1) HXON.out (by first | (simp; done) | (simp; omega)) hb9aaa.size (0 + 1) rfl ?_; intro ao10aaaa cap10aaaa w10aaaa ow10aaaa hg10aaaa hn10aaaa; have hb10aaaa := hb9aaa.grown hg10aaaa hb9aaa.size (zAg ow9aaa))
        refine hK10aaaa.out _ _ ?hS10aaaaD (fun hHeld10aaaa => ?_)
        case' hS10aaaaD => ((try dsimp only); exact ⟨HCX.out _ (zAa HBx.out hb10aaaa), hb10aaaa⟩)
        clear hK10aaaa K10aaaa
        (try simp only [Act.put, Qa, Qb, Qc, Qd, Qe, Qf])
        refine wpAnyH_ready (rs := [14]) (by kernel_rfl) (by simp) ?_
        refine AllReadyH.cons (o := _) rfl (fun K14aaaaa hK14aaaaa => ?_) AllReadyH.nil
        (refine zAh zAm (by rfl) _ _ (by rfl) wx.heap.size _ _ _ (by rfl) ow10aaaa _ _ (by rfl) (HHI.out _ hb10aaaa) HHON.out (by have hz := HZL.out; simp only [Qg, Qh, Qi]; omega) hb10aaaa.size (0 + 1) (by have hz := HZL.out; simp only [Qg, Qh, Qi]; omega) ?_; intro ao14aaaaa cap14aaaaa w14aaaaa ow14aaaaa hg14aaaaa hn14aaaaa; have hb14aaaaa := hb10aaaa.grown hg14aaaaa hb10aaaa.size (zAg ow10aaaa))
        refine hK14aaaaa.out _ _ ?hS14aaaaaD (fun hHeld14aaaaa => ?_)
        case' hS14aaaaaD => ((try dsimp only); exact ⟨HCX.out _ (zAa HBx.out hb14aaaaa), hb14aaaaa⟩)
        clear hK14aaaaa K14aaaaa
        (try simp only [Act.put, Qa, Qb, Qc, Qd, Qe, Qf])
        refine tkH 15 (v := ?v15aaaaaD) rfl (.inl ⟨by rfl, ?y15aaaaaD⟩) ?_
        case' y15aaaaaD => (intro w hSw; first | (go_simp; done) | (go_simp; with_reducible rfl))
        (try simp only [Act.put, Qa, Qb, Qc, Qd, Qe, Qf])
        refine wpAnyH_done (by kernel_rfl) ?_ _
        refine NoPanic.normal ?_
        have how := ow14aaaaa
        have hbb := hb14aaaaa
        obtain ⟨gz, hgz⟩ := zA3 how (by omega)
        subst hgz
        have hown9 := HEQ.out _ _ _ how
        have hb9 := zAa HB8.out hbb
        clear how hbb
        go_wp2_with fail
        go_roundw
        case rel => exact ⟨0 + 1, Z.take 0 ++ x :: Z.drop 0, some ⟨gz, 0, none⟩, _, by omega, by go_num, rfl, .inr ⟨gz, rfl⟩, HPERM.out, HSRT.out, hown9, zAa HB.out hb9⟩
        case measure => simp [intOf]; omega
       ·go_simp
        (have hb9ab : Below wx.heap.size wx ((wx.drew.alloc (.cells #[] 33)).alloc (.cells #[.slice xa xm xc] 33)) := zAe hb0a _; have ow9ab := zAf ow0a (zAc (zAi (wx.drew.alloc (.cells #[] 33)) (.cells #[.slice xa xm xc] 33))) (Qj _); have hx9ab := Jl (wx.drew.alloc (.cells #[] 33)) (.cells #[.slice xa xm xc] 33); rw [show (wx.drew.alloc (.cells #[] 33)).heap.size = wx.heap.size + 1 from by simp] at hx9ab)
        refine hK9ab.out _ _ ?hS9abD (fun hHeld9ab => ?_)
        case' hS9abD => ((try dsimp only); exact ⟨HCX.out _ (zAa HBx.out hb9ab), hb9ab⟩)
        clear hK9ab K9ab
        (try simp only [Act.put, Qa, Qb, Qc, Qd, Qe, Qf])
        refine wpAnyH_ready (rs := [4]) (by kernel_rfl) (by simp) ?_
        refine AllReadyH.cons (o := _) rfl (fun K4aba hK4aba => ?_) AllReadyH.nil
        (refine zAh zAm (by rfl) _ _ (by rfl) wx.heap.size _ _ _ (by rfl) ow9ab _ _ (by rfl) (HLO.out _ hb9ab) HLON.out (by have hz := HZL.out; simp only [Qg, Qh, Qi]; omega) hb9ab.size 0 (by have hz := HZL.out; simp only [Qg, Qh, Qi]; omega) ?_; intro ao4aba cap4aba w4aba ow4aba hg4aba hn4aba; have hb4aba := hb9ab.grown hg4aba hb9ab.size (zAg ow9ab); have hx4aba := (hg4aba.block _ (Qk.1 hx9ab).1 (by simp [Value.ownBlock])).trans hx9ab)
        refine hK4aba.out _ _ ?hS4abaD (fun hHeld4aba => ?_)
        case' hS4abaD => ((try dsimp only); exact ⟨HCX.out _ (zAa HBx.out hb4aba), hb4aba⟩)
        clear hK4aba K4aba
        (try simp only [Act.put, Qa, Qb, Qc, Qd, Qe, Qf])
        refine wpAnyH_ready (rs := [10]) (by kernel_rfl) (by simp) ?_
        refine AllReadyH.cons (o := _) rfl (fun K10abaa hK10abaa => ?_) AllReadyH.nil
        (refine zAh zAm (by rfl) _ _ (by rfl) wx.heap.size _ _ _ (by rfl) ow4aba _ _ (by rfl) (zAv hx4aba 1) HXON.out (by first | (simp; done) | (simp; omega)) hb4aba.size (0 + 1) rfl ?_; intro ao10abaa cap10abaa w10abaa ow10abaa hg10abaa hn10abaa; have hb10abaa := hb4aba.grown hg10abaa hb4aba.size (zAg ow4aba))
        refine hK10abaa.out _ _ ?hS10abaaD (fun hHeld10abaa => ?_)
        case' hS10abaaD => ((try dsimp only); exact ⟨HCX.out _ (zAa HBx.out hb10abaa), hb10abaa⟩)
        clear hK10abaa K10abaa
        (try simp only [Act.put, Qa, Qb, Qc, Qd, Qe, Qf])
        refine wpAnyH_ready (rs := [14]) (by kernel_rfl) (by simp) ?_
        refine AllReadyH.cons (o := _) rfl (fun K14abaaa hK14abaaa => ?_) AllReadyH.nil
        (refine zAh zAm (by rfl) _ _ (by rfl) wx.heap.size _ _ _ (by rfl) ow10abaa _ _ (by rfl) (HHI.out _ hb10abaa) HHON.out (by have hz := HZL.out; simp only [Qg, Qh, Qi]; omega) hb10abaa.size (0 + 1) (by have hz := HZL.out; simp only [Qg, Qh, Qi]; omega) ?_; intro ao14abaaa cap14abaaa w14abaaa ow14abaaa hg14abaaa hn14abaaa; have hb14abaaa := hb10abaa.grown hg14abaaa hb10abaa.size (zAg ow10abaa))
        refine hK14abaaa.out _ _ ?hS14abaaaD (fun hHeld14abaaa => ?_)
        case' hS14abaaaD => ((try dsimp only); exact ⟨HCX.out _ (zAa HBx.out hb14abaaa), hb14abaaa⟩)
        clear hK14abaaa K14abaaa
        (try simp only [Act.put, Qa, Qb, Qc, Qd, Qe, Qf])
        refine tkH 15 (v := ?v15abaaaD) rfl (.inl ⟨by rfl, ?y15abaaaD⟩) ?_
        case' y15abaaaD => (intro w hSw; first | (go_simp; done) | (go_simp; with_reducible rfl))
        (try simp only [Act.put, Qa, Qb, Qc, Qd, Qe, Qf])
        refine wpAnyH_done (by kernel_rfl) ?_ _
        refine NoPanic.normal ?_
        have how := ow14abaaa
        have hbb := hb14abaaa
        obtain ⟨gz, hgz⟩ := zA3 how (by omega)
        subst hgz
        have hown9 := HEQ.out _ _ _ how
        have hb9 := zAa HB8.out hbb
        clear how hbb
        go_wp2_with fail
        go_roundw
        case rel => exact ⟨0 + 1, Z.take 0 ++ x :: Z.drop 0, some ⟨gz, 0, none⟩, _, by omega, by go_num, rfl, .inr ⟨gz, rfl⟩, HPERM.out, HSRT.out, hown9, zAa HB.out hb9⟩
        case measure => simp [intOf]; omega
      ·go_simp
       (have hb9b : Below wx.heap.size wx (wx.drew.alloc (.cells #[.slice xa xm xc] 33)) := zAe (zAb wx.heap.size wx) _; have hx9b := Jl wx.drew (.cells #[.slice xa xm xc] 33))
       refine hK9b.out _ _ ?hS9bD (fun hHeld9b => ?_)
       case' hS9bD => ((try dsimp only); exact ⟨HCX.out _ (zAa HBx.out hb9b), hb9b⟩)
       clear hK9b K9b
       (try simp only [Act.put, Qa, Qb, Qc, Qd, Qe, Qf])
       refine wpAnyH_ready (rs := [0]) (by kernel_rfl) (by simp) ?_
       refine AllReadyH.cons (o := _) rfl (fun K0ba hK0ba => ?_) AllReadyH.nil
       go_simp
       (have hb0ba : Below wx.heap.size wx ((wx.drew.alloc (.cells #[.slice xa xm xc] 33)).alloc (.cells #[] 33)) := zAe hb9b _; have hx0ba := (heap_alloc_old (wx.drew.alloc (.cells #[.slice xa xm xc] 33)) (.cells #[] 33) (Qk.1 hx9b).1).trans hx9b; have ow0ba := World.ownsRow_lit (e := 33) (size := 1) (wx.drew.alloc (.cells #[.slice xa xm xc] 33)) #[] 0 (show wx.heap.size <= _ from hb9b.size) (by unfold maxLen; omega) rfl; rw [show (wx.drew.alloc (.cells #[.slice xa xm xc] 33)).heap.size = wx.heap.size + 1 from by simp] at ow0ba)
       refine hK0ba.out _ _ ?hS0baD (fun hHeld0ba => ?_)
       case' hS0baD => ((try dsimp only); exact ⟨HCX.out _ (zAa HBx.out hb0ba), hb0ba⟩)
       clear hK0ba K0ba
       (try simp only [Act.put, Qa, Qb, Qc, Qd, Qe, Qf])
       refine wpAnyH_ready (rs := [4]) (by kernel_rfl) (by simp) ?_
       refine AllReadyH.cons (o := _) rfl (fun K4baa hK4baa => ?_) AllReadyH.nil
       (refine zAh zAm (by rfl) _ _ (by rfl) wx.heap.size _ _ _ (by rfl) ow0ba _ _ (by rfl) (HLO.out _ hb0ba) HLON.out (by have hz := HZL.out; simp only [Qg, Qh, Qi]; omega) hb0ba.size 0 (by have hz := HZL.out; simp only [Qg, Qh, Qi]; omega) ?_; intro ao4baa cap4baa w4baa ow4baa hg4baa hn4baa; have hb4baa := hb0ba.grown hg4baa hb0ba.size (zAg ow0ba); have hx4baa := (hg4baa.block _ (Qk.1 hx0ba).1 (by simp [Value.ownBlock])).trans hx0ba)
       refine hK4baa.out _ _ ?hS4baaD (fun hHeld4baa => ?_)
       case' hS4baaD => ((try dsimp only); exact ⟨HCX.out _ (zAa HBx.out hb4baa), hb4baa⟩)
       clear hK4baa K4baa
       (try simp only [Act.put, Qa, Qb, Qc, Qd, Qe, Qf])
       refine wpAnyH_ready (rs := [10]) (by kernel_rfl) (by simp) ?_
       refine AllReadyH.cons (o := _) rfl (fun K10baaa hK10baaa => ?_) AllReadyH.nil
       (refine zAh zAm (by rfl) _ _ (by rfl) wx.heap.size _ _ _ (by rfl) ow4baa _ _ (by rfl) (zAv hx4baa 1) HXON.out (by first | (simp; done) | (simp; omega)) hb4baa.size (0 + 1) rfl ?_; intro ao10baaa cap10baaa w10baaa ow10baaa hg10baaa hn10baaa; have hb10baaa := hb4baa.grown hg10baaa hb4baa.size (zAg ow4baa))
       refine hK10baaa.out _ _ ?hS10baaaD (fun hHeld10baaa => ?_)
       case' hS10baaaD => ((try dsimp only); exact ⟨HCX.out _ (zAa HBx.out hb10baaa), hb10baaa⟩)
       clear hK10baaa K10baaa
       (try simp only [Act.put, Qa, Qb, Qc, Qd, Qe, Qf])
       refine wpAnyH_ready (rs := [14]) (by kernel_rfl) (by simp) ?_
       refine AllReadyH.cons (o := _) rfl (fun K14baaaa hK14baaaa => ?_) AllReadyH.nil
       (refine zAh zAm (by rfl) _ _ (by rfl) wx.heap.size _ _ _ (by rfl) ow10baaa _ _ (by rfl) (HHI.out _ hb10baaa) HHON.out (by have hz := HZL.out; simp only [Qg, Qh, Qi]; omega) hb10baaa.size (0 + 1) (by have hz := HZL.out; simp only [Qg, Qh, Qi]; omega) ?_; intro ao14baaaa cap14baaaa w14baaaa ow14baaaa hg14baaaa hn14baaaa; have hb14baaaa := hb10baaa.grown hg14baaaa hb10baaa.size (zAg ow10baaa))
       refine hK14baaaa.out _ _ ?hS14baaaaD (fun hHeld14baaaa => ?_)
       case' hS14baaaaD => ((try dsimp only); exact ⟨HCX.out _ (zAa HBx.out hb14baaaa), hb14baaaa⟩)
       clear hK14baaaa K14baaaa
       (try simp only [Act.put, Qa, Qb, Qc, Qd, Qe, Qf])
       refine tkH 15 (v := ?v15baaaaD) rfl (.inl ⟨by rfl, ?y15baaaaD⟩) ?_
       case' y15baaaaD => (intro w hSw; first | (go_simp; done) | (go_simp; with_reducible rfl))
       (try simp only [Act.put, Qa, Qb, Qc, Qd, Qe, Qf])
       refine wpAnyH_done (by kernel_rfl) ?_ _
       refine NoPanic.normal ?_
       have how := ow14baaaa
       have hbb := hb14baaaa
       obtain ⟨gz, hgz⟩ := zA3 how (by omega)
       subst hgz
       have hown9 := HEQ.out _ _ _ how
       have hb9 := zAa HB8.out hbb
       clear how hbb
       go_wp2_with fail
       go_roundw
       case rel => exact ⟨0 + 1, Z.take 0 ++ x :: Z.drop 0, some ⟨gz, 0, none⟩, _, by omega, by go_num, rfl, .inr ⟨gz, rfl⟩, HPERM.out, HSRT.out, hown9, zAa HB.out hb9⟩
       case measure => simp [intOf]; omega
     ·have HB8 := hid hb8
      have HB8w := hid (zAa HB.out hb8)
      have HOy := hid (zAf HOW.out (zAc hb8) (Qj _))
      clear hb8
      obtain ⟨wx, rfl⟩ : ∃ wx : World, wx = wy := ⟨_, rfl⟩
      have HBx := hid HB8w.out
      have HLO := hid (show ∀ w', Below wx.heap.size wx w' -> RdS w' 1 (.slice (some ⟨g, 0, none⟩) k oc) (((Z.take k).map Prod.fst).map fun u => [u]) from fun w' h => by rw [Ji]; exact (zMs HOy.out (by omega)).kept h)
      have HHI := hid (show ∀ w', Below wx.heap.size wx w' -> RdS w' 1 (.slice (if oc = k then some ⟨g, 0, none⟩ else some ⟨g, k, none⟩) (q - k) (oc - k)) (((Z.drop k).map Prod.fst).map fun u => [u]) from fun w' h => by rw [Jj]; exact (zKo HOy.out (by omega)).kept h)
      have hqo := zEw HOy.out
      have hko : (k : Int) <= (oc : Int) := by omega
      have hkqi : (k : Int) <= (q : Int) := by omega
      have hk00 : (0 : Int) <= (k : Int) := by omega
      have hqoi : (q : Int) <= (oc : Int) := by omega
      have HPERM := hid (show (Z.take k ++ x :: Z.drop k).Perm (E.take (q + 1)) from by
       refine List.perm_middle.trans ?_
       rw [Ql, Qp, HX.out]
       exact (List.Perm.cons x HP.out).trans (Qr x _).symm)
      have HSRT := hid (zDw HO.out (l1 := Z.take k) (l2 := Z.drop k) (by rw [Ql]; exact HS.out) HLO1.out HUP.out)
      have HEQ := hid (show ∀ (w9 : World) (a : Option Addr) (c9 : Nat), w9.ownsRow wx.heap.size 33 1 (.slice a (q + 1) c9) (q + 1) ((([] ++ (((Z.take k).map Prod.fst).map fun u => [u]).flatten) ++ [[Value.slice xa xm xc]].flatten) ++ (((Z.drop k).map Prod.fst).map fun u => [u]).flatten) -> w9.ownsRow w.heap.size 33 1 (.slice a (q + 1) c9) (q + 1) ((Z.take k ++ x :: Z.drop k).map Prod.fst) from fun w9 a c9 h => by
       have h2 := zAf h (Above.refl _ _) HBx.out.size
       rw [zCi, zCi] at h2
       rw [Qt, Qu, HXS.out]
       simpa using h2)
      go_upto_region 8 with (fail)
      refine wp_region_noPanic ?_
      refine wp_region_held_drew (S := fun w' => w'.cell? ⟨vb, vo + q, none⟩ = some (.slice xa xm xc) ∧ Below wx.heap.size wx w') (by kernel_rfl) ?hS0F (fun hHeld => ?go0F)
      case' hS0F => ((try dsimp only); exact ⟨HCX.out _ (zAa HBx.out (zAb _ _)), zAb _ _⟩)
      refine tkH 1 (v := ?v1F) rfl (.inl ⟨by rfl, ?y1F⟩) ?_
      case' y1F => (intro w hSw; first | (go_simp; done) | (go_simp; with_reducible rfl))
      (try simp only [Act.put, Qa, Qb, Qc, Qd, Qe, Qf])
      refine tkH 2 (v := ?v2F) rfl (.inl ⟨by rfl, ?y2F⟩) ?_
      case' y2F => (intro w hSw; first | (go_simp; done) | (go_simp; with_reducible rfl))
      (try simp only [Act.put, Qa, Qb, Qc, Qd, Qe, Qf])
      refine tkH 3 (v := ?v3F) rfl (.inl ⟨by rfl, ?y3F⟩) ?_
      case' y3F => (intro w hSw; first | (go_simp; done) | (go_simp; with_reducible rfl))
      (try simp only [Act.put, Qa, Qb, Qc, Qd, Qe, Qf])
      refine tkH 5 (v := ?v5F) rfl (.inl ⟨by rfl, ?y5F⟩) ?_
      case' y5F => (intro w hSw; first | (go_simp; done) | (go_simp; with_reducible rfl))
      (try simp only [Act.put, Qa, Qb, Qc, Qd, Qe, Qf])
      refine tkH 6 (v := ?v6F) rfl (.inl ⟨by rfl, ?y6F⟩) ?_
      case' y6F => (intro w hSw; first | (go_simp; done) | (go_simp; with_reducible rfl))
      (try simp only [Act.put, Qa, Qb, Qc, Qd, Qe, Qf])
      refine tkH 7 (v := ?v7F) rfl (.inl ⟨by rfl, ?y7F⟩) ?_
      case' y7F => (intro w hSw; first | (go_simp; done) | (go_simp; with_reducible rfl))
      (try simp only [Act.put, Qa, Qb, Qc, Qd, Qe, Qf])
      refine tkH 8 (v := ?v8F) rfl (.inl ⟨by rfl, ?y8F⟩) ?_
      case' y8F => (intro w hSw; first | (go_simp; done) | (go_simp; with_reducible rfl))
      (try simp only [Act.put, Qa, Qb, Qc, Qd, Qe, Qf])
      refine tkH 11 (v := ?v11F) rfl (.inl ⟨by rfl, ?y11F⟩) ?_
      case' y11F => (intro w hSw; first | (go_simp; done) | (go_simp; with_reducible rfl))
      (try simp only [Act.put, Qa, Qb, Qc, Qd, Qe, Qf])
      refine tkH 12 (v := ?v12F) rfl (.inl ⟨by rfl, ?y12F⟩) ?_
      case' y12F => (intro w hSw; first | (go_simp; done) | (go_simp; with_reducible rfl))
      (try simp only [Act.put, Qa, Qb, Qc, Qd, Qe, Qf])
      refine tkH 13 (v := ?v13F) rfl (.inl ⟨by rfl, ?y13F⟩) ?_
      case' y13F => (intro w hSw; first | (go_simp; done) | (go_simp; with_reducible rfl))
      (try simp only [Act.put, Qa, Qb, Qc, Qd, Qe, Qf])
      refine wpAnyH_ready (rs := [0, 9]) (by kernel_rfl) (by simp) ?_
      refine AllReadyH.cons (o := _) rfl (fun K0a hK0a => ?_) (AllReadyH.cons (o := _) rfl (fun K9b hK9b => ?_) AllReadyH.nil)
      ·go_simp
       (have hb0a : Below wx.heap.size wx (wx.drew.alloc (.cells #[] 33)) := zAe (zAb wx.heap.size wx) _; have ow0a := World.ownsRow_lit (e := 33) (size := 1) wx.drew #[] 0 (show wx.heap.size <= _ from (zAb wx.heap.size wx).size) (by unfold maxLen; omega) rfl)
       refine hK0a.out _ _ ?hS0aF (fun hHeld0a => ?_)
       case' hS0aF => ((try dsimp only); exact ⟨HCX.out _ (zAa HBx.out hb0a), hb0a⟩)
       clear hK0a K0a
       (try simp only [Act.put, Qa, Qb, Qc, Qd, Qe, Qf])
       refine wpAnyH_ready (rs := [4, 9]) (by kernel_rfl) (by simp) ?_
       refine AllReadyH.cons (o := _) rfl (fun K4aa hK4aa => ?_) (AllReadyH.cons (o := _) rfl (fun K9ab hK9ab => ?_) AllReadyH.nil)
       ·(refine zAh zAm (by rfl) _ _ (by rfl) wx.heap.size _ _ _ (by rfl) ow0a _ _ (by rfl) (HLO.out _ hb0a) HLON.out (by have hz := HZL.out; simp only [Qg, Qh, Qi]; omega) hb0a.size k (by have hz := HZL.out; simp only [Qg, Qh, Qi]; omega) ?_; intro ao4aa cap4aa w4aa ow4aa hg4aa hn4aa; have hb4aa := hb0a.grown hg4aa hb0a.size (zAg ow0a))
        refine hK4aa.out _ _ ?hS4aaF (fun hHeld4aa => ?_)
        case' hS4aaF => ((try dsimp only); exact ⟨HCX.out _ (zAa HBx.out hb4aa), hb4aa⟩)
        clear hK4aa K4aa
        (try simp only [Act.put, Qa, Qb, Qc, Qd, Qe, Qf])
        refine wpAnyH_ready (rs := [9]) (by kernel_rfl) (by simp) ?_
        refine AllReadyH.cons (o := _) rfl (fun K9aaa hK9aaa => ?_) AllReadyH.nil
        go_simp
        (have hb9aaa : Below wx.heap.size wx (w4aa.alloc (.cells #[.slice xa xm xc] 33)) := zAe hb4aa _; have ow9aaa := zAf ow4aa (zAc (zAi w4aa (.cells #[.slice xa xm xc] 33))) (Qj _); have hx9aaa := Jl w4aa (.cells #[.slice xa xm xc] 33))
        refine hK9aaa.out _ _ ?hS9aaaF (fun hHeld9aaa => ?_)
        case' hS9aaaF => ((try dsimp only); exact ⟨HCX.out _ (zAa HBx.out hb9aaa), hb9aaa⟩)
        clear hK9aaa K9aaa
        (try simp only [Act.put, Qa, Qb, Qc, Qd, Qe, Qf])
        refine wpAnyH_ready (rs := [10]) (by kernel_rfl) (by simp) ?_
        refine AllReadyH.cons (o := _) rfl (fun K10aaaa hK10aaaa => ?_) AllReadyH.nil
        (refine zAh zAm (by rfl) _ _ (by rfl) wx.heap.size _ _ _ (by rfl) ow9aaa _ _ (by rfl) (zAv hx9aaa 1) HXON.out (by first | (simp; done) | (simp; omega)) hb9aaa.size (k + 1) rfl ?_; intro ao10aaaa cap10aaaa w10aaaa ow10aaaa hg10aaaa hn10aaaa; have hb10aaaa := hb9aaa.grown hg10aaaa hb9aaa.size (zAg ow9aaa))
        refine hK10aaaa.out _ _ ?hS10aaaaF (fun hHeld10aaaa => ?_)
        case' hS10aaaaF => ((try dsimp only); exact ⟨HCX.out _ (zAa HBx.out hb10aaaa), hb10aaaa⟩)
        clear hK10aaaa K10aaaa
        (try simp only [Act.put, Qa, Qb, Qc, Qd, Qe, Qf])
        refine wpAnyH_ready (rs := [14]) (by kernel_rfl) (by simp) ?_
        refine AllReadyH.cons (o := _) rfl (fun K14aaaaa hK14aaaaa => ?_) AllReadyH.nil
        (refine zAh zAm (by rfl) _ _ (by rfl) wx.heap.size _ _ _ (by rfl) ow10aaaa _ _ (by rfl) (HHI.out _ hb10aaaa) HHON.out (by have hz := HZL.out; simp only [Qg, Qh, Qi]; omega) hb10aaaa.size (q + 1) (by have hz := HZL.out; simp only [Qg, Qh, Qi]; omega) ?_; intro ao14aaaaa cap14aaaaa w14aaaaa ow14aaaaa hg14aaaaa hn14aaaaa; have hb14aaaaa := hb10aaaa.grown hg14aaaaa hb10aaaa.size (zAg ow10aaaa))
        refine hK14aaaaa.out _ _ ?hS14aaaaaF (fun hHeld14aaaaa => ?_)
        case' hS14aaaaaF => ((try dsimp only); exact ⟨HCX.out _ (zAa HBx.out hb14aaaaa), hb14aaaaa⟩)
        clear hK14aaaaa K14aaaaa
        (try simp only [Act.put, Qa, Qb, Qc, Qd, Qe, Qf])
        refine tkH 15 (v := ?v15aaaaaF) rfl (.inl ⟨by rfl, ?y15aaaaaF⟩) ?_
        case' y15aaaaaF => (intro w hSw; first | (go_simp; done) | (go_simp; with_reducible rfl))
        (try simp only [Act.put, Qa, Qb, Qc, Qd, Qe, Qf])
        refine wpAnyH_done (by kernel_rfl) ?_ _
        refine NoPanic.normal ?_
        have how := ow14aaaaa
        have hbb := hb14aaaaa
        obtain ⟨gz, hgz⟩ := zA3 how (by omega)
        subst hgz
        have hown9 := HEQ.out _ _ _ how
        have hb9 := zAa HB8.out hbb
        clear how hbb
        go_wp2_with fail
        go_roundw
        case rel => exact ⟨q + 1, Z.take k ++ x :: Z.drop k, some ⟨gz, 0, none⟩, _, by omega, by go_num, rfl, .inr ⟨gz, rfl⟩, HPERM.out, HSRT.out, hown9, zAa HB.out hb9⟩
        case measure => simp [intOf]; omega
       ·go_simp
        (have hb9ab : Below wx.heap.size wx ((wx.drew.alloc (.cells #[] 33)).alloc (.cells #[.slice xa xm xc] 33)) := zAe hb0a _; have ow9ab := zAf ow0a (zAc (zAi (wx.drew.alloc (.cells #[] 33)) (.cells #[.slice xa xm xc] 33))) (Qj _); have hx9ab := Jl (wx.drew.alloc (.cells #[] 33)) (.cells #[.slice xa xm xc] 33); rw [show (wx.drew.alloc (.cells #[] 33)).heap.size = wx.heap.size + 1 from by simp] at hx9ab)
        refine hK9ab.out _ _ ?hS9abF (fun hHeld9ab => ?_)
        case' hS9abF => ((try dsimp only); exact ⟨HCX.out _ (zAa HBx.out hb9ab), hb9ab⟩)
        clear hK9ab K9ab
        (try simp only [Act.put, Qa, Qb, Qc, Qd, Qe, Qf])
        refine wpAnyH_ready (rs := [4]) (by kernel_rfl) (by simp) ?_
        refine AllReadyH.cons (o := _) rfl (fun K4aba hK4aba => ?_) AllReadyH.nil
        (refine zAh zAm (by rfl) _ _ (by rfl) wx.heap.size _ _ _ (by rfl) ow9ab _ _ (by rfl) (HLO.out _ hb9ab) HLON.out (by have hz := HZL.out; simp only [Qg, Qh, Qi]; omega) hb9ab.size k (by have hz := HZL.out; simp only [Qg, Qh, Qi]; omega) ?_; intro ao4aba cap4aba w4aba ow4aba hg4aba hn4aba; have hb4aba := hb9ab.grown hg4aba hb9ab.size (zAg ow9ab); have hx4aba := (hg4aba.block _ (Qk.1 hx9ab).1 (by simp [Value.ownBlock])).trans hx9ab)
        refine hK4aba.out _ _ ?hS4abaF (fun hHeld4aba => ?_)
        case' hS4abaF => ((try dsimp only); exact ⟨HCX.out _ (zAa HBx.out hb4aba), hb4aba⟩)
        clear hK4aba K4aba
        (try simp only [Act.put, Qa, Qb, Qc, Qd, Qe, Qf])
        refine wpAnyH_ready (rs := [10]) (by kernel_rfl) (by simp) ?_
        refine AllReadyH.cons (o := _) rfl (fun K10abaa hK10abaa => ?_) AllReadyH.nil
        (refine zAh zAm (by rfl) _ _ (by rfl) wx.heap.size _ _ _ (by rfl) ow4aba _ _ (by rfl) (zAv hx4aba 1) HXON.out (by first | (simp; done) | (simp; omega)) hb4aba.size (k + 1) rfl ?_; intro ao10abaa cap10abaa w10abaa ow10abaa hg10abaa hn10abaa; have hb10abaa := hb4aba.grown hg10abaa hb4aba.size (zAg ow4aba))
        refine hK10abaa.out _ _ ?hS10abaaF (fun hHeld10abaa => ?_)
        case' hS10abaaF => ((try dsimp only); exact ⟨HCX.out _ (zAa HBx.out hb10abaa), hb10abaa⟩)
        clear hK10abaa K10abaa
        (try simp only [Act.put, Qa, Qb, Qc, Qd, Qe, Qf])
        refine wpAnyH_ready (rs := [14]) (by kernel_rfl) (by simp) ?_
        refine AllReadyH.cons (o := _) rfl (fun K14abaaa hK14abaaa => ?_) AllReadyH.nil
        (refine zAh zAm (by rfl) _ _ (by rfl) wx.heap.size _ _ _ (by rfl) ow10abaa _ _ (by rfl) (HHI.out _ hb10abaa) HHON.out (by have hz := HZL.out; simp only [Qg, Qh, Qi]; omega) hb10abaa.size (q + 1) (by have hz := HZL.out; simp only [Qg, Qh, Qi]; omega) ?_; intro ao14abaaa cap14abaaa w14abaaa ow14abaaa hg14abaaa hn14abaaa; have hb14abaaa := hb10abaa.grown hg14abaaa hb10abaa.size (zAg ow10abaa))
        refine hK14abaaa.out _ _ ?hS14abaaaF (fun hHeld14abaaa => ?_)
        case' hS14abaaaF => ((try dsimp only); exact ⟨HCX.out _ (zAa HBx.out hb14abaaa), hb14abaaa⟩)
        clear hK14abaaa K14abaaa
        (try simp only [Act.put, Qa, Qb, Qc, Qd, Qe, Qf])
        refine tkH 15 (v := ?v15abaaaF) rfl (.inl ⟨by rfl, ?y15abaaaF⟩) ?_
        case' y15abaaaF => (intro w hSw; first | (go_simp; done) | (go_simp; with_reducible rfl))
        (try simp only [Act.put, Qa, Qb, Qc, Qd, Qe, Qf])
        refine wpAnyH_done (by kernel_rfl) ?_ _
        refine NoPanic.normal ?_
        have how := ow14abaaa
        have hbb := hb14abaaa
        obtain ⟨gz, hgz⟩ := zA3 how (by omega)
        subst hgz
        have hown9 := HEQ.out _ _ _ how
        have hb9 := zAa HB8.out hbb
        clear how hbb
        go_wp2_with fail
        go_roundw
        case rel => exact ⟨q + 1, Z.take k ++ x :: Z.drop k, some ⟨gz, 0, none⟩, _, by omega, by go_num, rfl, .inr ⟨gz, rfl⟩, HPERM.out, HSRT.out, hown9, zAa HB.out hb9⟩
        case measure => simp [intOf]; omega
      ·go_simp
       (have hb9b : Below wx.heap.size wx (wx.drew.alloc (.cells #[.slice xa xm xc] 33)) := zAe (zAb wx.heap.size wx) _; have hx9b := Jl wx.drew (.cells #[.slice xa xm xc] 33))
       refine hK9b.out _ _ ?hS9bF (fun hHeld9b => ?_)
       case' hS9bF => ((try dsimp only); exact ⟨HCX.out _ (zAa HBx.out hb9b), hb9b⟩)
       clear hK9b K9b
       (try simp only [Act.put, Qa, Qb, Qc, Qd, Qe, Qf])
       refine wpAnyH_ready (rs := [0]) (by kernel_rfl) (by simp) ?_
       refine AllReadyH.cons (o := _) rfl (fun K0ba hK0ba => ?_) AllReadyH.nil
       go_simp
       (have hb0ba : Below wx.heap.size wx ((wx.drew.alloc (.cells #[.slice xa xm xc] 33)).alloc (.cells #[] 33)) := zAe hb9b _; have hx0ba := (heap_alloc_old (wx.drew.alloc (.cells #[.slice xa xm xc] 33)) (.cells #[] 33) (Qk.1 hx9b).1).trans hx9b; have ow0ba := World.ownsRow_lit (e := 33) (size := 1) (wx.drew.alloc (.cells #[.slice xa xm xc] 33)) #[] 0 (show wx.heap.size <= _ from hb9b.size) (by unfold maxLen; omega) rfl; rw [show (wx.drew.alloc (.cells #[.slice xa xm xc] 33)).heap.size = wx.heap.size + 1 from by simp] at ow0ba)
       refine hK0ba.out _ _ ?hS0baF (fun hHeld0ba => ?_)
       case' hS0baF => ((try dsimp only); exact ⟨HCX.out _ (zAa HBx.out hb0ba), hb0ba⟩)
       clear hK0ba K0ba
       (try simp only [Act.put, Qa, Qb, Qc, Qd, Qe, Qf])
       refine wpAnyH_ready (rs := [4]) (by kernel_rfl) (by simp) ?_
       refine AllReadyH.cons (o := _) rfl (fun K4baa hK4baa => ?_) AllReadyH.nil
       (refine zAh zAm (by rfl) _ _ (by rfl) wx.heap.size _ _ _ (by rfl) ow0ba _ _ (by rfl) (HLO.out _ hb0ba) HLON.out (by have hz := HZL.out; simp only [Qg, Qh, Qi]; omega) hb0ba.size k (by have hz := HZL.out; simp only [Qg, Qh, Qi]; omega) ?_; intro ao4baa cap4baa w4baa ow4baa hg4baa hn4baa; have hb4baa := hb0ba.grown hg4baa hb0ba.size (zAg ow0ba); have hx4baa := (hg4baa.block _ (Qk.1 hx0ba).1 (by simp [Value.ownBlock])).trans hx0ba)
       refine hK4baa.out _ _ ?hS4baaF (fun hHeld4baa => ?_)
       case' hS4baaF => ((try dsimp only); exact ⟨HCX.out _ (zAa HBx.out hb4baa), hb4baa⟩)
       clear hK4baa K4baa
       (try simp only [Act.put, Qa, Qb, Qc, Qd, Qe, Qf])
       refine wpAnyH_ready (rs := [10]) (by kernel_rfl) (by simp) ?_
       refine AllReadyH.cons (o := _) rfl (fun K10baaa hK10baaa => ?_) AllReadyH.nil
       (refine zAh zAm (by rfl) _ _ (by rfl) wx.heap.size _ _ _ (by rfl) ow4baa _ _ (by rfl) (zAv hx4baa 1) HXON.out (by first | (simp; done) | (simp; omega)) hb4baa.size (k + 1) rfl ?_; intro ao10baaa cap10baaa w10baaa ow10baaa hg10baaa hn10baaa; have hb10baaa := hb4baa.grown hg10baaa hb4baa.size (zAg ow4baa))
       refine hK10baaa.out _ _ ?hS10baaaF (fun hHeld10baaa => ?_)
       case' hS10baaaF => ((try dsimp only); exact ⟨HCX.out _ (zAa HBx.out hb10baaa), hb10baaa⟩)
       clear hK10baaa K10baaa
       (try simp only [Act.put, Qa, Qb, Qc, Qd, Qe, Qf])
       refine wpAnyH_ready (rs := [14]) (by kernel_rfl) (by simp) ?_
       refine AllReadyH.cons (o := _) rfl (fun K14baaaa hK14baaaa => ?_) AllReadyH.nil
       (refine zAh zAm (by rfl) _ _ (by rfl) wx.heap.size _ _ _ (by rfl) ow10baaa _ _ (by rfl) (HHI.out _ hb10baaa) HHON.out (by have hz := HZL.out; simp only [Qg, Qh, Qi]; omega) hb10baaa.size (q + 1) (by have hz := HZL.out; simp only [Qg, Qh, Qi]; omega) ?_; intro ao14baaaa cap14baaaa w14baaaa ow14baaaa hg14baaaa hn14baaaa; have hb14baaaa := hb10baaa.grown hg14baaaa hb10baaa.size (zAg ow10baaa))
       refine hK14baaaa.out _ _ ?hS14baaaaF (fun hHeld14baaaa => ?_)
       case' hS14baaaaF => ((try dsimp only); exact ⟨HCX.out _ (zAa HBx.out hb14baaaa), hb14baaaa⟩)
       clear hK14baaaa K14baaaa
       (try simp only [Act.put, Qa, Qb, Qc, Qd, Qe, Qf])
       refine tkH 15 (v := ?v15baaaaF) rfl (.inl ⟨by rfl, ?y15baaaaF⟩) ?_
       case' y15baaaaF => (intro w hSw; first | (go_simp; done) | (go_simp; with_reducible rfl))
       (try simp only [Act.put, Qa, Qb, Qc, Qd, Qe, Qf])
       refine wpAnyH_done (by kernel_rfl) ?_ _
       refine NoPanic.normal ?_
       have how := ow14baaaa
       have hbb := hb14baaaa
       obtain ⟨gz, hgz⟩ := zA3 how (by omega)
       subst hgz
       have hown9 := HEQ.out _ _ _ how
       have hb9 := zAa HB8.out hbb
       clear how hbb
       go_wp2_with fail
       go_roundw
       case rel => exact ⟨q + 1, Z.take k ++ x :: Z.drop k, some ⟨gz, 0, none⟩, _, by omega, by go_num, rfl, .inr ⟨gz, rfl⟩, HPERM.out, HSRT.out, hown9, zAa HB.out hb9⟩
       case measure => simp [intOf]; omega
  ·have hlti : ¬ (q : Int) < (n : Int) := by omega
   go_wp2_with fail
   go_ret
   refine ⟨_, rfl, Z, ?_, HS.out, ?_, HB.out⟩
   ·have h := HP.out
    rw [List.take_of_length_le (by rw [<- HN.out]; omega)] at h
    exact h
   ·have h1 := HOW.out
    have h2 := h1.1
    rw [Qg] at h2
    rw [show Z.length = q by omega]
    exact h1
end Go.Proofs.Ytnfjdoeemnhkbaa
