import Derived.Test.YtnfjdoeemnhkbaaRfl
import Derived.Test.YtnfjdoeemnhkbaaAgp
import Derived.Test.YtnfjdoeemnhkbaaAgom
import Derived.Test.YtnfjdoeemnhkbaaLsix
import Derived.Test.YtnfjdoeemnhkbaaAwake16
import Derived.Deep.RegionHeld3
import Derived.Deep.QuietTactic
import Derived.BigQuiet
set_option linter.unusedVariables false
set_option linter.unusedSimpArgs false
set_option maxRecDepth 100000
set_option maxHeartbeats 64000000
open Go.Lib (hid)
namespace Go.Proofs.Ytnfjdoeemnhkbaa
open Go.RowKit Sy
open _root_.List renaming getElem_toArray -> Qa, getElem_cons_succ -> Qb, getElem_cons_zero -> Qc, setIfInBounds_toArray -> Qd, set_cons_zero -> Qe, set_cons_succ -> Qf, mem_singleton -> Qh, length_map -> Qi, mem_append -> Qk, map_append -> Qn, length_append -> Qp, mem_cons -> Qr, not_mem_nil -> Qt, flatten_append -> Qu, mem_map -> Qv, getElem?_eq_getElem -> Qx, getElem?_map -> Ja, length -> Jb, mem_of_getElem? -> Jc
open _root_.Nat renaming le_refl -> Qg, le_trans -> Qj, zero_le -> Qo, lt_of_lt_of_le -> Qw
open Go.RowKit.Below renaming refl -> Ql
open Go.World renaming block_lt_of_cell? -> Qm
open Go.IntWalk renaming i64_in -> Qq
open _root_.Int renaming emod_nonneg -> Qy, emod_lt_of_pos -> Qz
open _root_.Array renaming getElem?_eq_some_iff -> Jd
open Go renaming cell_of_row -> Je, heap_alloc_new -> Jf
theorem walk_AggrTells (a0 : Int) (a1 : Option Addr) (len1 cap1 : Nat) (z1 : List Int) (a2 : Option Addr) (len2 cap2 : Nat) (z2 : List Int) (a3 : Int) (a4 : Option Addr) (len4 cap4 : Nat) (z4 : List Int) (a5 : Option Addr) (len5 cap5 : Nat) (z5 : List Int) (w : World) (w0 : (Lit.int .i64 a0).wf = true) (w1 : IsRow .i64 w a1 len1 cap1 z1) (w2 : IsRow .i64 w a2 len2 cap2 z2) (w3 : (Lit.int .i64 a3).wf = true) (w4 : IsRow .i64 w a4 len4 cap4 z4) (w5 : IsRow .i64 w a5 len5 cap5 z5) :
  Calls Try.prog 6 #[.int .i64 a0, .slice a1 len1 cap1, .slice a2 len2 cap2, .int .i64 a3, .slice a4 len4 cap4, .slice a5 len5 cap5] w fun e w' => e = .returned (.bool true) ∧ Below w.heap.size w w' := by
 obtain ⟨la, hla, h1, _⟩ := zE2 w1
 obtain ⟨lb2, hlb2, h2, _⟩ := zE2 w2
 obtain ⟨lb4, hlb4, h4, _⟩ := zE2 w4
 obtain ⟨lb5, hlb5, h5, _⟩ := zE2 w5
 have HLA := hid hla
 have HR1 := hid h1
 have HL2 := hid hlb2
 have HR2 := hid h2
 have HL4 := hid hlb4
 have HR4 := hid h4
 have HL5 := hid hlb5
 have HR5 := hid h5
 have HS := hid (zMq a0 w)
 have HOK := hid (zNx a0)
 have HAW := hid zKi
 clear hla h1 hlb2 h2 hlb4 h4 hlb5 h5 w0 w1 w2 w3 w4 w5
 go_enter Try.func6, Try.ntmps6
 go_wp2_with fail
 refine HS.out.mono ?_
 rintro e W1 ⟨so, sc, rfl, hs1, hb1⟩
 obtain ⟨m, hm⟩ : ∃ m, m = (colsN a0).length := ⟨_, rfl⟩
 have hc1 : RdC W1 _ (colsN a0) := hs1.rd
 rw [<- hm] at hs1 hc1 ⊢
 have hm0 : 0 < m := by rw [hm]; exact HOK.out.ne
 have HM := hid hm
 clear hm
 go_upto_region 2 with (fail)
 obtain ⟨W2, hW2⟩ : ∃ W2 : World, W2 = W1.alloc (.cells #[.slice so m sc] 25) := ⟨_, rfl⟩
 obtain ⟨SB, hSB⟩ : ∃ SB, SB = W1.heap.size := ⟨_, rfl⟩
 rw [<- hW2, <- hSB]
 have HSB := hid (show W2.heap[SB]? = some (.cells #[.slice so m sc] 25 (0, 0)) by rw [hW2, hSB]; exact Jf W1 _)
 have hb12 : Below W1.heap.size W1 W2 := by rw [hW2]; exact zAi W1 _
 have HB2 := hid (zAa hb1 hb12)
 have HC2 := hid (RdC.kept hc1 hb12)
 have cs2 : W2.cell? ⟨SB, 0, none⟩ = some (.slice so m sc) := by rw [Je W2 SB 0 _ _ _ HSB.out]; rfl
 have HCS := hid (show ∀ w', Below W2.heap.size W2 w' -> w'.cell? ⟨SB, 0, none⟩ = some (.slice so m sc) from fun w' h => (h.cell (Qm _ _ cs2)).trans cs2)
 clear hs1 hc1 hb1 hb12 hW2 hSB
 have hm6 : m <= 6 := by rw [HM.out]; exact HOK.out.le
 have HLR := hid (show ∀ w', Below W2.heap.size W2 w' -> Rd w' (.slice a1 len1 cap1) (la.map (Value.int .i64)) ∧ Rd w' (.slice a2 len2 cap2) (lb2.map (Value.int .i64)) ∧ Rd w' (.slice a4 len4 cap4) (lb4.map (Value.int .i64)) ∧ Rd w' (.slice a5 len5 cap5) (lb5.map (Value.int .i64)) from fun w' h => ⟨HR1.out.kept (zAa HB2.out h), HR2.out.kept (zAa HB2.out h), HR4.out.kept (zAa HB2.out h), HR5.out.kept (zAa HB2.out h)⟩)
 clear cs2
 go_wp2_with fail
 go_loopw [14, 15] (fun o i wr => ∃ (q : Nat) (oa : Option Addr) (oc : Nat) (E : List El), q <= 40 ∧ q <= len1 ∧ i = .int .i64 (q : Int) ∧ o = .slice oa q oc ∧ E.map El.row = (la.take q).map (rowOf (colsN a0)) ∧ OwnX W2.heap.size wr (.slice oa q oc) E ∧ Below W2.heap.size W2 wr) (fun _ i _ => 40 - (intOf i).toNat)
 case atStart => exact ⟨0, none, 0, [], Qo _, Qo _, rfl, rfl, by simp, ⟨World.ownsRow_nil .., fun x hx => by cases hx⟩, Ql _ _⟩
 case round =>
  obtain ⟨q, oa, oc, E, hq, hql, rfl, rfl, he, hox, hb⟩ := hrel
  have HE := hid he
  have HO := hid hox
  have HB := hid hb
  have hel : E.length = q := by have h := congrArg Jb he; rw [Qi, Qi, List.length_take, HLA.out] at h; omega
  have HEL := hid hel
  clear he hox hb
  go_upto_region 4 with (fail)
  go_cut [46] (fun c wx => c = .bool (decide (q < len1 ∧ q < 40)) ∧ wr = wx)
  case first =>
   by_cases hc1 : q < len1
   ·have hc2 : (q : Int) < (len1 : Int) := by omega
    have hc3 : decide ((q : Int) < (len1 : Int)) = true := by rw [decide_eq_true_eq]; exact hc2
    by_cases hc4 : q < 40
    ·have hc5 : (q : Int) < 40 := by omega
     go_wp2_with fail
     go_meet
     exact ⟨by rw [decide_eq_true (show q < len1 ∧ q < 40 from ⟨hc1, hc4⟩)], rfl⟩
    ·have hc5 : ¬ (q : Int) < 40 := by omega
     go_wp2_with fail
     go_meet
     exact ⟨by rw [decide_eq_false (show ¬ (q < len1 ∧ q < 40) from by omega)], rfl⟩
   ·have hc2 : ¬ (q : Int) < (len1 : Int) := by omega
    have hc3 : decide ((q : Int) < (len1 : Int)) = false := by rw [decide_eq_false_iff_not]; exact hc2
    go_wp2_with fail
    go_meet
    exact ⟨by rw [decide_eq_false (show ¬ (q < len1 ∧ q < 40) from by omega)], rfl⟩
  case rest =>
   obtain ⟨rfl, rfl⟩ := hcut
   by_cases hlt : q < len1 ∧ q < 40
   ·have hdd := decide_eq_true hlt
    rw [hdd]
    clear hdd
    obtain ⟨hlt1, hlt2⟩ := hlt
    have hd1 : decide ((q : Int) < (len1 : Int)) = true := by rw [decide_eq_true_eq]; omega
    have hd1n : decide (q < len1) = true := by rw [decide_eq_true_eq]; omega
    have hd1i : (q : Int) < (len1 : Int) := by omega
    have hd2 : decide ((q : Int) < 40) = true := by rw [decide_eq_true_eq]; omega
    have hl0 : (0 : Int) <= (q : Int) := by omega
    obtain ⟨lb, lo, rfl, hcells⟩ := (zCh (HLR.out _ HB.out).1).2 (by omega)
    have hcn := hcells q hlt1
    obtain ⟨rn, hrn⟩ : ∃ rn, rn = la.getD q 0 := ⟨_, rfl⟩
    rw [<- hrn] at hcn
    have HRN := hid (show la[q]? = some rn by rw [hrn, List.getD_eq_getElem?_getD, Qx (by rw [HLA.out]; exact hlt1)]; rfl)
    have HROW := hid (show ∀ w', Below wr.heap.size wr w' -> _ from fun w' h => zOy (.slice so m sc) (colsN a0) HOK.out.ne rn w' (RdC.kept HC2.out (zAa HB.out h)) HOK.out.le)
    rw [<- HM.out] at HROW
    have HCX := hid (show ∀ w', Below W2.heap.size W2 w' -> (w'.cell? ⟨SB, 0, none⟩ = some (.slice so m sc) ∧ w'.cell? ⟨lb, lo + q, none⟩ = some (.int .i64 rn)) from fun w' h => ⟨HCS.out w' h, by
     obtain ⟨b', o', e, hc2⟩ := (zCh (HLR.out _ h).1).2 (by omega)
     cases e
     rw [hrn]
     exact hc2 q hlt1⟩)
    have HOW := hid (show wr.ownsRow W2.heap.size 33 1 (.slice oa q oc) q (E.map Prod.fst) from by have h := HO.out.1; rw [hel] at h; exact h)
    clear hcells hrn hcn hel
    go_upto_region 6 with (fail)
    refine wp_region_noPanic ?_
    refine wp_region_held_drew (S := fun w' => (w'.cell? ⟨SB, 0, none⟩ = some (.slice so m sc) ∧ w'.cell? ⟨lb, lo + q, none⟩ = some (.int .i64 rn)) ∧ Below W2.heap.size W2 w') (by kernel_rfl) ?hS0 (fun hHeld => ?go0)
    case' hS0 => ((try dsimp only); exact ⟨HCX.out _ (zAa HB.out (zAb wr.heap.size wr)), zAa HB.out (zAb wr.heap.size wr)⟩)
    refine tkH 0 (v := ?v0) rfl (.inl ⟨by rfl, ?y0⟩) ?_
    case' y0 => (intro w hSw; first | (go_simp; done) | (go_simp; with_reducible rfl))
    (try simp only [Act.put, Qa, Qb, Qc, Qd, Qe, Qf])
    refine tkH 1 (v := ?v1) rfl (.inl ⟨by rfl, ?y1⟩) ?_
    case' y1 => (intro w hSw; first | (go_simp; done) | (go_simp; with_reducible rfl))
    (try simp only [Act.put, Qa, Qb, Qc, Qd, Qe, Qf])
    refine tkH 2 (v := ?v2) rfl (.inl ⟨by rfl, ?y2⟩) ?_
    case' y2 => (intro w hSw; first | (go_simp; done) | (go_simp; with_reducible rfl))
    (try simp only [Act.put, Qa, Qb, Qc, Qd, Qe, Qf])
    refine tkH 3 (v := ?v3) rfl (.inl ⟨by rfl, ?y3⟩) ?_
    case' y3 => (intro w hSw; first | (go_simp; done) | (go_simp; with_reducible rfl))
    (try simp only [Act.put, Qa, Qb, Qc, Qd, Qe, Qf])
    refine tkH 4 (v := ?v4) rfl (.inl ⟨by rfl, ?y4⟩) ?_
    case' y4 => (intro w hSw; first | (go_simp; done) | (go_simp; with_reducible rfl))
    (try simp only [Act.put, Qa, Qb, Qc, Qd, Qe, Qf])
    refine tkH 5 (v := ?v5) rfl (.inl ⟨by rfl, ?y5⟩) ?_
    case' y5 => (intro w hSw; first | (go_simp; done) | (go_simp; with_reducible rfl))
    (try simp only [Act.put, Qa, Qb, Qc, Qd, Qe, Qf])
    refine wpAnyH_ready (rs := [6]) (by kernel_rfl) (by simp) ?_
    refine AllReadyH.cons (o := _) rfl (fun K6a hK6a => ?_) AllReadyH.nil
    go_simp
    (go_at_call 19; refine (HROW.out _ (zAb wr.heap.size wr)).mono ?_; rintro e w2 ⟨g, cap, rl, rfl, hrl, hro, hrv, hb⟩; have hb2 : Below wr.heap.size wr w2 := zAa (zAb wr.heap.size wr) hb)
    refine hK6a.out _ _ ?hS6a (fun hHeld6a => ?_)
    case' hS6a => ((try dsimp only); exact ⟨HCX.out _ (zAa HB.out hb2), zAa HB.out hb2⟩)
    clear hK6a K6a
    (try simp only [Act.put, Qa, Qb, Qc, Qd, Qe, Qf])
    refine wpAnyH_ready (rs := [7]) (by kernel_rfl) (by simp) ?_
    refine AllReadyH.cons (o := _) rfl (fun K7a hK7a => ?_) AllReadyH.nil
    go_simp
    (have hb3 : Below wr.heap.size wr (w2.alloc (.cells #[.slice (some ⟨g, 0, none⟩) m cap] 33)) := zAe hb2 _; have ow3 := zAf HOW.out (zAc hb3) (Qg _))
    refine hK7a.out _ _ ?hS7a (fun hHeld7a => ?_)
    case' hS7a => ((try dsimp only); exact ⟨HCX.out _ (zAa HB.out hb3), zAa HB.out hb3⟩)
    clear hK7a K7a
    (try simp only [Act.put, Qa, Qb, Qc, Qd, Qe, Qf])
    refine wpAnyH_ready (rs := [8]) (by kernel_rfl) (by simp) ?_
    refine AllReadyH.cons (o := _) rfl (fun K8a hK8a => ?_) AllReadyH.nil
    (refine zAh zAm (by rfl) _ _ (by rfl) W2.heap.size _ _ _ (by rfl) ow3 _ _ (by rfl) (zAv (Jf w2 (.cells #[.slice (some ⟨g, 0, none⟩) m cap] 33)) 1) (fun u hu => by rw [Qh.1 hu]; exact ⟨rfl, fun z hz => by rw [Qh.1 hz]; rfl⟩) (by simp; omega) (Qj HB.out.size hb3.size) (q + 1) rfl ?_; intro ao4 cap4 w4 ow4 hg4 hn4; have hb4 : Below W2.heap.size W2 w4 := (zAa HB.out hb3).grown hg4 (Qj HB.out.size hb3.size) (zAg ow3))
    refine hK8a.out _ _ ?hS8a (fun hHeld8a => ?_)
    case' hS8a => ((try dsimp only); exact ⟨HCX.out _ hb4, hb4⟩)
    clear hK8a K8a
    (try simp only [Act.put, Qa, Qb, Qc, Qd, Qe, Qf])
    refine tkH 9 (v := ?v9a) rfl (.inl ⟨by rfl, ?y9a⟩) ?_
    case' y9a => (intro w hSw; first | (go_simp; done) | (go_simp; with_reducible rfl))
    (try simp only [Act.put, Qa, Qb, Qc, Qd, Qe, Qf])
    refine wpAnyH_done (by kernel_rfl) ?_ _
    refine NoPanic.normal ?_
    have hrll : m = rl.length := by have h := congrArg Jb hrl; rw [Qi, zEi] at h; rw [HM.out]; exact h.symm
    have hpush := zMz (o3 := (.cells #[.slice (some ⟨g, 0, none⟩) m cap] 33)) HO.out.1 HO.out.2 HB.out.size hb2 (zOa (cols := colsN a0) hrll hro hrv) hg4 hn4 (by rw [HEL.out]; exact ow4)
    have HPU := hid hpush
    have HRL := hid hrl
    clear hpush hro hrv hrl hb hb2 hb3 ow3 ow4 hg4 hn4 hrll
    go_wp2_with fail
    go_roundw
    case rel =>
     refine ⟨q + 1, ao4, cap4, E ++ [(.slice (some ⟨g, 0, none⟩) m cap, rl)], by omega, by omega, by go_num, rfl, ?_, HPU.out, hb4⟩
     rw [Qn, HE.out, List.take_add_one, HRN.out, Qn]
     show _ ++ [rl.map Prod.fst] = _
     rw [HRL.out]
     rfl
    case measure => simp [intOf]; omega
   ·have hdd := decide_eq_false hlt
    rw [hdd]
    clear hdd
    have HWE := hid (show E.map El.row = la.map (rowOf (colsN a0)) ∨ True from .inr trivial)
    clear HWE
    obtain ⟨ll, hll⟩ : ∃ ll, ll = la.take q := ⟨_, rfl⟩
    rw [<- hll] at HE
    have HXE := hid (show ∀ w', Below wr.heap.size wr w' -> RowsK ((colsN a0).map (·.k)) w' (.slice oa q oc) E from fun w' h => RowsK.kept (zN9 HOK.out HE.out (by omega) HO.out.row.1 HO.out.row.2) h)
    obtain ⟨ks, hks⟩ : ∃ ks, ks = (colsN a0).map (·.k) := ⟨_, rfl⟩
    have HKS := hid (show ks.length = m by rw [hks, Qi, HM.out])
    rw [<- hks] at HXE
    have HKE := hid hks
    have HCR := hid (show ∀ w', Below wr.heap.size wr w' -> w'.cell? ⟨SB, 0, none⟩ = some (.slice so m sc) from fun w' h => HCS.out w' (zAa HB.out h))
    have HLW := hid (show ∀ w', Below wr.heap.size wr w' -> Rd w' (.slice a2 len2 cap2) (lb2.map (Value.int .i64)) ∧ Rd w' (.slice a4 len4 cap4) (lb4.map (Value.int .i64)) ∧ Rd w' (.slice a5 len5 cap5) (lb5.map (Value.int .i64)) from fun w' h => (HLR.out w' (zAa HB.out h)).2)
    have HCC := hid (show ∀ w', Below wr.heap.size wr w' -> RdC w' (.slice so m sc) (colsN a0) from fun w' h => RdC.kept HC2.out (zAa HB.out h))
    have HBW := hid (show ∀ w', Below wr.heap.size wr w' -> Below w.heap.size w w' from fun w' h => zAa HB2.out (zAa HB.out h))
    clear hlt hll hks
    have hx0 := HXE.out wr (Ql _ _)
    have hin0 := hx0.rowsIn
    have HSA := hid (zH9 ks E hx0.kinds (by have := hx0.le; omega) _ wr hx0.rd fun x hx => ⟨(hin0 x hx).1, (hin0 x hx).2.1, fun t ht => ((hin0 x hx).2.2 t ht).2⟩)
    clear hx0 hin0
    go_wp2_with fail
    refine HSA.out.mono ?_
    rintro e Wa ⟨va, rfl, Za, za1, za2, za3, hba⟩
    have HZ1 := hid za1
    have HZ2 := hid za2
    have HZ3 := hid za3
    have HBa := hid hba
    have hx1 := HXE.out Wa hba
    have HSB := hid (zEp ks hx1.k12 E hx1.kinds (by have := hx1.le; omega) _ Wa hx1.rd fun x hx => ⟨hx1.el x hx, by have := hx1.len hx; have := hx1.wd; omega⟩)
    clear za1 za2 za3 hba hx1 HSA
    go_wp2_with fail
    refine HSB.out.mono ?_
    rintro e Wb ⟨vb, rfl, Zb, zb1, zb2, zb3, hbb⟩
    have HBb := hid (zAa HBa.out hbb)
    have hx2 := HXE.out Wb HBb.out
    have hsame := zGn hx2.kinds (.refl _) HZ1.out (zb1.map _) HZ2.out zb2
    have hlz : ∀ x ∈ Za, x.2.length <= 1000000 := zFb HZ1.out fun r hr => by obtain ⟨x, hx, rfl⟩ := Qv.1 hr; show (x.2.map Prod.fst).length <= _; rw [Qi, hx2.len hx]; have := hx2.wd; omega
    have HSM := hid (zDf Za Zb va vb Wb (by have h := HZ1.out.length_eq; rw [Qi, Qi] at h; have := hx2.le; omega) (Rd.of_owns (HZ3.out.kept hbb).1) (Rd.of_owns zb3) (fun x hx => ⟨((HZ3.out.kept hbb).2 x hx).rd, hlz x hx⟩) (fun x hx => ⟨hx2.el x (zb1.mem_iff.1 hx), by have := hx2.len (zb1.mem_iff.1 hx); have := hx2.wd; omega⟩) hsame)
    clear zb1 zb2 zb3 hbb hx2 hsame hlz HSB
    go_wp2_with fail
    refine HSM.out.mono ?_
    rintro e Wc ⟨rfl, hbc⟩
    have HBc := hid (zAa HBb.out hbc)
    clear hbc HSM
    obtain ⟨wo, rfl⟩ : ∃ wo : World, wo = wr := ⟨_, rfl⟩
    obtain ⟨nr, rfl⟩ : ∃ nr, nr = q := ⟨_, rfl⟩
    have HBwc := hid HBc.out
    have hm0i : (m : Int) ≠ 0 := by omega
    have hm0n : ¬ m = 0 := by omega
    have hmpos : (0 : Int) < (m : Int) := by omega
    have b255 : ∀ x, bits .and .i64 x 255 = x % 256 := fun x => zDj x 8 (by decide) 255 rfl
    have b3 : ∀ x, bits .and .i64 x 3 = x % 4 := fun x => zDj x 2 (by decide) 3 rfl
    have b1 : ∀ x, bits .and .i64 x 1 = x % 2 := fun x => zDj x 1 (by decide) 1 rfl
    have HTB := hid (show ∀ z : Int, 0 <= (z % 256).tmod (m : Int) ∧ (z % 256).tmod (m : Int) < (m : Int) from fun z => by rw [Int.tmod_eq_emod_of_nonneg (by omega)]; exact ⟨Qy _ hm0i, Qz _ (by omega)⟩)
    clear HE HEL HO HB HZ1 HZ2 HZ3 HBa HBb HR1 HR2 HR4 HR5 HLR HCS HC2
    go_wp2_with fail
    go_loopw [16, 19] (fun o i wr => ∃ (q : Nat) (ca : Option Addr) (cc : Nat) (cs : List Int), q <= 6 ∧ q <= len2 ∧ i = .int .i64 (q : Int) ∧ o = .slice ca q cc ∧ cs.length = q ∧ (∀ c ∈ cs, 0 <= c ∧ c < (m : Int)) ∧ wr.ownsRow Wc.heap.size 3 1 (.slice ca q cc) q (cs.map (Value.int .i64)) ∧ Below Wc.heap.size Wc wr) (fun _ i _ => 6 - (intOf i).toNat)
    case atStart => exact ⟨0, none, 0, [], Qo _, Qo _, rfl, rfl, rfl, (fun c hc => by cases hc), World.ownsRow_nil .., Ql _ _⟩
    case round =>
     obtain ⟨q, ca, cc, cs, hq, hql, rfl, rfl, hcl, hcb, hco, hb⟩ := hrel
     have HCL := hid hcl
     have HCB := hid hcb
     have HCO := hid hco
     have HB := hid hb
     have HBO := hid (zAa HBwc.out hb)
     clear hcl hcb hco hb
     go_upto_region 13 with (fail)
     go_cut [71] (fun c wx => c = .bool (decide (q < len2 ∧ q < 6)) ∧ wr = wx)
     case first =>
      by_cases hc1 : q < len2
      ·have hc2 : (q : Int) < (len2 : Int) := by omega
       have hc3 : decide ((q : Int) < (len2 : Int)) = true := by rw [decide_eq_true_eq]; exact hc2
       by_cases hc4 : q < 6
       ·have hc5 : (q : Int) < 6 := by omega
        go_wp2_with fail
        go_meet
        exact ⟨by rw [decide_eq_true (show q < len2 ∧ q < 6 from ⟨hc1, hc4⟩)], rfl⟩
       ·have hc5 : ¬ (q : Int) < 6 := by omega
        go_wp2_with fail
        go_meet
        exact ⟨by rw [decide_eq_false (show ¬ (q < len2 ∧ q < 6) from by omega)], rfl⟩
      ·have hc2 : ¬ (q : Int) < (len2 : Int) := by omega
       have hc3 : decide ((q : Int) < (len2 : Int)) = false := by rw [decide_eq_false_iff_not]; exact hc2
       go_wp2_with fail
       go_meet
       exact ⟨by rw [decide_eq_false (show ¬ (q < len2 ∧ q < 6) from by omega)], rfl⟩
     case rest =>
      obtain ⟨rfl, rfl⟩ := hcut
      by_cases hlt : q < len2 ∧ q < 6
      ·have hdd := decide_eq_true hlt
       rw [hdd]
       clear hdd
       obtain ⟨hlt1, hlt2⟩ := hlt
       obtain ⟨lb, lo, rfl, hcells⟩ := (zCh (HLW.out _ HBO.out).1).2 (by omega)
       have hcn := hcells q hlt1
       obtain ⟨rn, hrn⟩ : ∃ rn, rn = lb2.getD q 0 := ⟨_, rfl⟩
       rw [<- hrn] at hcn
       obtain ⟨c, hc⟩ : ∃ c : Int, (rn % 256).tmod (m : Int) = c := ⟨_, rfl⟩
       have HCI := hid (show 0 <= c ∧ c < (m : Int) from by rw [<- hc]; exact HTB.out rn)
       have cs0 := HCR.out _ HBO.out
       have HCZ2 := hid (show ∀ w', Below Wc.heap.size Wc w' -> w'.cell? ⟨SB, 0, none⟩ = some (.slice so m sc) from fun w' h => HCR.out w' (zAa HBwc.out h))
       have HCY := hid (show ∀ w', Below Wc.heap.size Wc w' -> w'.cell? ⟨lb, lo + q, none⟩ = some (.int .i64 rn) from fun w' h => by
        obtain ⟨b', o', e, hc2⟩ := (zCh (HLW.out _ (zAa HBwc.out h)).1).2 (by omega)
        cases e
        rw [hrn]
        exact hc2 q hlt1)
       have HCX := hid (show ∀ w', Below wr.heap.size wr w' -> (w'.cell? ⟨lb, lo + q, none⟩ = some (.int .i64 rn) ∧ w'.cell? ⟨SB, 0, none⟩ = some (.slice so m sc)) from fun w' h => ⟨(h.cell (Qm _ _ hcn)).trans hcn, (h.cell (Qm _ _ cs0)).trans cs0⟩)
       have hl0 : (0 : Int) <= (q : Int) := by omega
       have hqi : (q : Int) < (len2 : Int) := by omega
       have hq1 : IntKind.i64.wrap ((q : Int) + 1) = (q : Int) + 1 := Qq _ (by omega)
       clear hcells hrn hcn cs0
       go_upto_region 15 with (fail)
       refine wp_region_noPanic ?_
       refine wp_region_held_drew (S := fun w' => (w'.cell? ⟨lb, lo + q, none⟩ = some (.int .i64 rn) ∧ w'.cell? ⟨SB, 0, none⟩ = some (.slice so m sc)) ∧ Below Wc.heap.size Wc w') (by kernel_rfl) ?hS0Q (fun hHeld => ?go0Q)
       case' hS0Q => ((try dsimp only); exact ⟨HCX.out _ (zAb wr.heap.size wr), zAa HB.out (zAb wr.heap.size wr)⟩)
       refine tkH 0 (v := ?v0nQ) rfl (.inl ⟨by rfl, ?y0nQ⟩) ?_
       case' y0nQ => (intro w hSw; first | (go_simp; done) | (go_simp; with_reducible rfl))
       (try simp only [Act.put, Qa, Qb, Qc, Qd, Qe, Qf])
       refine tkH 1 (v := ?v1nQ) rfl (.inl ⟨by rfl, ?y1nQ⟩) ?_
       case' y1nQ => (intro w hSw; first | (go_simp; done) | (go_simp; with_reducible rfl))
       (try simp only [Act.put, Qa, Qb, Qc, Qd, Qe, Qf])
       refine tkH 2 (v := ?v2nQ) rfl (.inl ⟨by rfl, ?y2nQ⟩) ?_
       case' y2nQ => (intro w hSw; first | (go_simp; done) | (go_simp; with_reducible rfl))
       (try simp only [Act.put, Qa, Qb, Qc, Qd, Qe, Qf])
       refine tkH 3 (v := ?v3nQ) rfl (.inl ⟨by rfl, ?y3nQ⟩) ?_
       case' y3nQ => (intro w hSw; first | (go_simp; done) | (go_simp; with_reducible rfl))
       (try simp only [Act.put, Qa, Qb, Qc, Qd, Qe, Qf])
       refine tkH 4 (v := ?v4nQ) rfl (.inl ⟨by rfl, ?y4nQ⟩) ?_
       case' y4nQ => (intro w hSw; first | (go_simp; done) | (go_simp; with_reducible rfl))
       (try simp only [Act.put, Qa, Qb, Qc, Qd, Qe, Qf])
       refine tkH 5 (v := ?v5nQ) rfl (.inl ⟨by rfl, ?y5nQ⟩) ?_
       case' y5nQ => (intro w hSw; first | (go_simp; done) | (go_simp; with_reducible rfl))
       (try simp only [Act.put, Qa, Qb, Qc, Qd, Qe, Qf])
       refine tkH 6 (v := ?v6nQ) rfl (.inl ⟨by rfl, ?y6nQ⟩) ?_
       case' y6nQ => (intro w hSw; first | (go_simp; done) | (go_simp; with_reducible rfl))
       (try simp only [Act.put, Qa, Qb, Qc, Qd, Qe, Qf])
       refine tkH 7 (v := ?v7nQ) rfl (.inl ⟨by rfl, ?y7nQ⟩) ?_
       case' y7nQ => (intro w hSw; first | (go_simp; done) | (go_simp; with_reducible rfl))
       (try simp only [Act.put, Qa, Qb, Qc, Qd, Qe, Qf])
       refine tkH 8 (v := ?v8nQ) rfl (.inl ⟨by rfl, ?y8nQ⟩) ?_
       case' y8nQ => (intro w hSw; first | (go_simp; done) | (go_simp; with_reducible rfl))
       (try simp only [Act.put, Qa, Qb, Qc, Qd, Qe, Qf])
       refine tkH 9 (v := ?v9nQ) rfl (.inl ⟨by rfl, ?y9nQ⟩) ?_
       case' y9nQ => (intro w hSw; first | (go_simp; done) | (go_simp; with_reducible rfl))
       (try simp only [Act.put, Qa, Qb, Qc, Qd, Qe, Qf])
       refine wpAnyH_ready (rs := [10]) (by kernel_rfl) (by simp) ?_
       refine AllReadyH.cons (o := _) rfl (fun K10n hK10n => ?_) AllReadyH.nil
       go_simp
       (have hb1 : Below wr.heap.size wr (wr.drew.alloc (.cells #[.int .i64 c] 3)) := zAe (zAb wr.heap.size wr) _; have ow1 := zAf HCO.out (zAc hb1) (Qg _))
       refine hK10n.out _ _ ?hS10nQ (fun hHeld10n => ?_)
       case' hS10nQ => ((try dsimp only); exact ⟨HCX.out _ hb1, zAa HB.out hb1⟩)
       clear hK10n K10n
       (try simp only [Act.put, Qa, Qb, Qc, Qd, Qe, Qf])
       refine wpAnyH_ready (rs := [11]) (by kernel_rfl) (by simp) ?_
       refine AllReadyH.cons (o := _) rfl (fun K11n hK11n => ?_) AllReadyH.nil
       (refine zAh zO6 (by rfl) _ _ (by rfl) Wc.heap.size _ _ _ (by rfl) ow1 _ _ (by rfl) (zAv (Jf wr.drew (.cells #[.int .i64 c] 3)) 1) (fun u hu => by rw [Qh.1 hu]; exact ⟨rfl, fun z hz => by rw [Qh.1 hz]; rfl⟩) (by simp; omega) (Qj HB.out.size hb1.size) (q + 1) rfl ?_; intro ao4 cap4 w4 ow4 hg4 hn4; have hb4 : Below Wc.heap.size Wc w4 := (zAa HB.out hb1).grown hg4 (Qj HB.out.size hb1.size) (zAg ow1))
       refine hK11n.out _ _ ?hS11nQ (fun hHeld11n => ?_)
       case' hS11nQ => ((try dsimp only); exact ⟨⟨HCY.out _ hb4, HCZ2.out _ hb4⟩, hb4⟩)
       clear hK11n K11n
       (try simp only [Act.put, Qa, Qb, Qc, Qd, Qe, Qf])
       refine tkH 12 (v := ?v12nQ) rfl (.inl ⟨by rfl, ?y12nQ⟩) ?_
       case' y12nQ => (intro w hSw; first | (go_simp; done) | (go_simp; with_reducible rfl))
       (try simp only [Act.put, Qa, Qb, Qc, Qd, Qe, Qf])
       refine wpAnyH_done (by kernel_rfl) ?_ _
       refine NoPanic.normal ?_
       have HOW := hid ow4
       clear hb1 ow1 hg4 hn4 ow4
       go_wp2_with fail
       go_roundw
       case rel =>
        refine ⟨q + 1, ao4, cap4, cs ++ [c], by omega, by omega, by go_num, rfl, by rw [Qp, HCL.out]; rfl, fun c2 hc2 => ?_, by rw [Qn]; exact HOW.out, hb4⟩
        rcases Qk.1 hc2 with h | h
        ·exact HCB.out c2 h
        ·rw [Qh.1 h]; exact HCI.out
       case measure => simp [intOf]; omega
      ·have hdd := decide_eq_false hlt
       rw [hdd]
       clear hdd hlt
       obtain ⟨nc, rfl⟩ : ∃ nc, nc = q := ⟨_, rfl⟩
       obtain ⟨W13, rfl⟩ : ∃ W13 : World, W13 = wr := ⟨_, rfl⟩
       go_wp2_with fail
       go_loopw [17, 20] (fun o i wr => ∃ (q : Nat) (aa : Option Addr) (ac : Nat) (ags : List (Int × Int)), q <= 4 ∧ q <= len4 ∧ i = .int .i64 (q : Int) ∧ o = .slice aa ags.length ac ∧ ags.length <= q ∧ (∀ a ∈ ags, (a.1 = 1 ∨ a.1 = 2 ∨ a.1 = 3 ∨ a.1 = 4) ∧ 0 <= a.2 ∧ a.2 < (m : Int)) ∧ wr.ownsRow W13.heap.size 32 2 (.slice aa ags.length ac) ags.length (ags.map fun a => [Value.int .i64 a.1, .int .i64 a.2]).flatten ∧ Below W13.heap.size W13 wr) (fun _ i _ => 4 - (intOf i).toNat)
       case atStart => exact ⟨0, none, 0, [], Qo _, Qo _, rfl, rfl, Qg _, (fun c hc => by cases hc), World.ownsRow_nil .., Ql _ _⟩
       case round =>
        obtain ⟨q, aa, ac, ags, hq, hql, rfl, rfl, hgl, hgb, hgo, hb⟩ := hrel
        have HGB := hid hgb
        have HGO := hid hgo
        have HB13 := hid hb
        have HBO3 := hid (zAa HBO.out hb)
        clear hgb hgo hb
        go_upto_region 17 with (fail)
        go_cut [93] (fun c wx => c = .bool (decide (q < len4 ∧ q < 4)) ∧ wr = wx)
        case first =>
         by_cases hc1 : q < len4
         ·have hc2 : (q : Int) < (len4 : Int) := by omega
          have hc3 : decide ((q : Int) < (len4 : Int)) = true := by rw [decide_eq_true_eq]; exact hc2
          by_cases hc4 : q < 4
          ·have hc5 : (q : Int) < 4 := by omega
           go_wp2_with fail
           go_meet
           exact ⟨by rw [decide_eq_true (show q < len4 ∧ q < 4 from ⟨hc1, hc4⟩)], rfl⟩
          ·have hc5 : ¬ (q : Int) < 4 := by omega
           go_wp2_with fail
           go_meet
           exact ⟨by rw [decide_eq_false (show ¬ (q < len4 ∧ q < 4) from by omega)], rfl⟩
         ·have hc2 : ¬ (q : Int) < (len4 : Int) := by omega
          have hc3 : decide ((q : Int) < (len4 : Int)) = false := by rw [decide_eq_false_iff_not]; exact hc2
          go_wp2_with fail
          go_meet
          exact ⟨by rw [decide_eq_false (show ¬ (q < len4 ∧ q < 4) from by omega)], rfl⟩
        case rest =>
         obtain ⟨rfl, rfl⟩ := hcut
         by_cases hlt : q < len4 ∧ q < 4
         ·have hdd := decide_eq_true hlt
          rw [hdd]
          clear hdd
          obtain ⟨hlt1, hlt2⟩ := hlt
          obtain ⟨lb, lo, rfl, hcells⟩ := (zCh (HLW.out _ HBO3.out).2.1).2 (by omega)
          have hcn := hcells q hlt1
          obtain ⟨rn, hrn⟩ : ∃ rn, rn = lb4.getD q 0 := ⟨_, rfl⟩
          rw [<- hrn] at hcn
          have cs0 := HCR.out _ HBO3.out
          have hl0 : (0 : Int) <= (q : Int) := by omega
          have hqi : (q : Int) < (len4 : Int) := by omega
          have hq1 : IntKind.i64.wrap ((q : Int) + 1) = (q : Int) + 1 := Qq _ (by omega)
          have HCN := hid hcn
          clear hcells hrn
          go_upto_region 19 with (fail)
          go_cut [21] (fun kv wx => ∃ c : Int, kv = .int .i64 c ∧ 0 <= c ∧ c < (m : Int) ∧ Below wr.heap.size wr wx)
          case first =>
           go_quiet (fail)
           go_wp2_with fail
           go_meet
           exact ⟨_, rfl, Qy _ hm0i, Qz _ hmpos, below_draws (Ql _ _) _⟩
          case rest =>
           obtain ⟨c0, rfl, hc0, hcm, hbc⟩ := hcut
           obtain ⟨c, rfl⟩ : ∃ c : Nat, c0 = (c : Int) := ⟨c0.toNat, by omega⟩
           have hcn2 : c < m := by omega
           have HB20 := hid (zAa HB13.out hbc)
           have HBO20 := hid (zAa HBO3.out hbc)
           have HGO20 := hid (zAf HGO.out (zAc hbc) (Qg _))
           have hcn := (hbc.cell (Qm _ _ HCN.out)).trans HCN.out
           have cs1 := HCR.out _ HBO20.out
           clear hbc cs0
           obtain ⟨C, hC⟩ : ∃ C, (colsN a0)[c]? = some C := ⟨_, Qx (by rw [<- HM.out]; exact hcn2)⟩
           obtain ⟨cb, co, hcbe, hccell⟩ := RdS.at (HCC.out _ HBO20.out) (k := c) (t := Co.cells C) (by rw [Ja, hC]; rfl)
           have ck1 : wc.cell? ⟨cb, co + c * 3 + 1, none⟩ = some (.int .i64 C.k) := hccell 1 _ rfl
           have hkd := HOK.out.ks C (Jc hC)
           clear hC hccell
           have hci : (c : Int) < (m : Int) := by omega
           have hc00 : (0 : Int) <= (c : Int) := by omega
           have hrm : 0 <= rn % 4 ∧ rn % 4 < 4 := ⟨Qy _ (by omega), Qz _ (by omega)⟩
           obtain ⟨y, hy⟩ : ∃ y, y = rn % 4 := ⟨_, rfl⟩
           rw [<- hy] at hrm
           have hy1 : rn % 4 = y := hy.symm
           have hyw : IntKind.i64.wrap (y + 1) = y + 1 := Qq _ (by omega)
           have hyw2 : wrap64 (y + 1) = y + 1 := (IntWalk.i64_left _).symm.trans hyw
           clear hy
           subst hcbe
           go_upto_region 20 with (fail)
           go_cut [121] (fun bv wx => ∃ bb : Bool, bv = .bool bb ∧ wc = wx)
           case first =>
            by_cases hy2 : y + 1 = 2
            ·rcases hkd with hk1 | hk1
             ·rw [hk1] at ck1
              go_wp2_with fail
              go_meet
              exact ⟨_, rfl, rfl⟩
             ·rw [hk1] at ck1
              go_wp2_with fail
              go_meet
              exact ⟨_, rfl, rfl⟩
            ·have hy3 : decide (y + 1 ≠ 2) = true := by rw [decide_eq_true_eq]; exact hy2
             have hy4 : (y + 1 == 2) = false := by rw [beq_eq_false_iff_ne]; exact hy2
             have hy5 : ¬ y = 1 := by omega
             go_wp2_with fail
             go_meet
             exact ⟨_, rfl, rfl⟩
           case rest =>
            obtain ⟨bb, rfl, rfl⟩ := hcut
            cases bb with
            | false =>
             clear ck1
             go_wp2_with fail
             go_roundw
             case rel => exact ⟨q + 1, aa, ac, ags, by omega, by omega, by go_num, rfl, by omega, HGB.out, HGO20.out, HB20.out⟩
             case measure => simp [intOf]; omega
            | true =>
             clear ck1
             obtain ⟨gl, hgl2⟩ : ∃ gl, gl = ags.length := ⟨_, rfl⟩
             rw [<- hgl2] at HGO20 hgl ⊢
             have HGL := hid hgl2
             clear hgl2
             have HOWN := hid (zAf HGO20.out (zAc (zAi wc (.cells #[.int .i64 (y + 1), .int .i64 (c : Int)] 32))) (Qg _))
             have HRD := hid (zAv (Jf wc (.cells #[.int .i64 (y + 1), .int .i64 (c : Int)] 32)) 2)
             have HONA := hid (show Ones 2 [(#[Value.int .i64 (y + 1), .int .i64 (c : Int)] : Array Value).toList] from fun u hu => by rw [Qh.1 hu]; refine ⟨rfl, fun z hz => ?_⟩; simp only [Qr, Qt, or_false] at hz; rcases hz with rfl | rfl <;> rfl)
             have HSZ := hid (show W13.heap.size <= (wc.alloc (.cells #[.int .i64 (y + 1), .int .i64 (c : Int)] 32)).heap.size from Qj HB20.out.size (by simp))
             have HNA := hid (show gl + [(#[Value.int .i64 (y + 1), .int .i64 (c : Int)] : Array Value).toList].length <= 10000000 from by simp; omega)
             go_wp2_with (at_builtin; go_must (refine zAq zO7 rfl _ _ rfl W13.heap.size _ _ _ rfl HOWN.out _ _ rfl HRD.out HONA.out HNA.out HSZ.out (gl + 1) rfl ?_); intro aa2 ac2 w8 hown8 hg8 hn8; have HO8 := hid hown8; have HB8 := hid (show Below W13.heap.size W13 w8 from (zAa HB20.out (zAi wc (.cells #[.int .i64 (y + 1), .int .i64 (c : Int)] 32))).grown hg8 HSZ.out (zAg HOWN.out)); clear hown8 hg8 hn8)
             go_roundw
             case rel =>
              have hlen : (ags ++ [(y + 1, (c : Int))]).length = gl + 1 := by rw [Qp, <- HGL.out]; rfl
              refine ⟨q + 1, aa2, ac2, ags ++ [(y + 1, (c : Int))], by omega, by omega, by go_num, by rw [hlen], by rw [hlen]; omega, fun a ha => ?_, ?_, HB8.out⟩
              ·rcases Qk.1 ha with h | h
               ·exact HGB.out a h
               ·rw [Qh.1 h]; exact ⟨by simp only; omega, hc00, hci⟩
              ·rw [hlen, Qn, Qu]
               exact HO8.out
             case measure => simp [intOf]; omega
         ·have hdd := decide_eq_false hlt
          rw [hdd]
          clear hdd hlt
          obtain ⟨na, rfl⟩ : ∃ na, na = q := ⟨_, rfl⟩
          obtain ⟨W17, rfl⟩ : ∃ W17 : World, W17 = wr := ⟨_, rfl⟩
          have HAV := hid (show ∀ w', Below W17.heap.size W17 w' -> RdS w' 2 (.slice aa ags.length ac) (ags.map fun a => [.int .i64 a.1, .int .i64 a.2]) from fun w' h => RdS.kept (zCb HGO.out (by rw [Qi]) (fun t ht => by obtain ⟨a, _, rfl⟩ := Qv.1 ht; rfl)) h)
          obtain ⟨gl, hgl2⟩ : ∃ gl, gl = ags.length := ⟨_, rfl⟩
          rw [<- hgl2] at HAV ⊢
          have HGL := hid (show gl = ags.length ∧ gl <= 4 from ⟨hgl2, by omega⟩)
          clear hgl2 hgl
          go_wp2_with fail
          go_loopw [18, 22] (fun o i wr => ∃ (q : Nat) (xa : Option Addr) (xcc : Nat) (xs : List SetP), q <= 4 ∧ q <= len5 ∧ i = .int .i64 (q : Int) ∧ o = .slice xa q xcc ∧ xs.length = q ∧ (∀ y ∈ xs, I64 y.v.n ∧ y.v.b.length <= 8 ∧ 0 <= y.col ∧ y.col < (m : Int) ∧ (y.add = true -> y.v.u = false)) ∧ (∀ y ∈ xs, Free (fun b => (Value.slice xa q xcc).ownBlock = some b) wr fun w' => OkV w' (y.v, y.s)) ∧ wr.ownsRow W17.heap.size 46 6 (.slice xa q xcc) q (xs.map setC).flatten ∧ Below W17.heap.size W17 wr) (fun _ i _ => 4 - (intOf i).toNat)
          case atStart => exact ⟨0, none, 0, [], Qo _, Qo _, rfl, rfl, rfl, (fun c hc => by cases hc), (fun c hc => by cases hc), World.ownsRow_nil .., Ql _ _⟩
          case round =>
           obtain ⟨q, xa, xcc, xs, hq, hql, rfl, rfl, hxl, hxb, hxf, hxo, hb⟩ := hrel
           have HXL := hid hxl
           have HXB := hid hxb
           have HXF := hid hxf
           have HXO := hid hxo
           have HB17 := hid hb
           have HBO17 := hid (zAa HBO3.out hb)
           clear hxl hxb hxf hxo hb
           go_upto_region 23 with (fail)
           go_cut [140] (fun c wx => c = .bool (decide (q < len5 ∧ q < 4)) ∧ wr = wx)
           case first =>
            by_cases hc1 : q < len5
            ·have hc2 : (q : Int) < (len5 : Int) := by omega
             have hc3 : decide ((q : Int) < (len5 : Int)) = true := by rw [decide_eq_true_eq]; exact hc2
             by_cases hc4 : q < 4
             ·have hc5 : (q : Int) < 4 := by omega
              go_wp2_with fail
              go_meet
              exact ⟨by rw [decide_eq_true (show q < len5 ∧ q < 4 from ⟨hc1, hc4⟩)], rfl⟩
             ·have hc5 : ¬ (q : Int) < 4 := by omega
              go_wp2_with fail
              go_meet
              exact ⟨by rw [decide_eq_false (show ¬ (q < len5 ∧ q < 4) from by omega)], rfl⟩
            ·have hc2 : ¬ (q : Int) < (len5 : Int) := by omega
             have hc3 : decide ((q : Int) < (len5 : Int)) = false := by rw [decide_eq_false_iff_not]; exact hc2
             go_wp2_with fail
             go_meet
             exact ⟨by rw [decide_eq_false (show ¬ (q < len5 ∧ q < 4) from by omega)], rfl⟩
           case rest =>
            obtain ⟨rfl, rfl⟩ := hcut
            by_cases hlt : q < len5 ∧ q < 4
            ·have hdd := decide_eq_true hlt
             rw [hdd]
             clear hdd
             obtain ⟨hlt1, hlt2⟩ := hlt
             obtain ⟨lb, lo, rfl, hcells⟩ := (zCh (HLW.out _ HBO17.out).2.2).2 (by omega)
             have hcn := hcells q hlt1
             obtain ⟨rn, hrn⟩ : ∃ rn, rn = lb5.getD q 0 := ⟨_, rfl⟩
             rw [<- hrn] at hcn
             have cs0 := HCR.out _ HBO17.out
             have hl0 : (0 : Int) <= (q : Int) := by omega
             have hqi : (q : Int) < (len5 : Int) := by omega
             have hq1 : IntKind.i64.wrap ((q : Int) + 1) = (q : Int) + 1 := Qq _ (by omega)
             have HCN := hid hcn
             have HRE := hid hrn
             clear hcells hrn
             go_upto_region 25 with (fail)
             go_cut [23] (fun kv wx => ∃ c : Int, kv = .int .i64 c ∧ 0 <= c ∧ c < (m : Int) ∧ Below wr.heap.size wr wx)
             case first =>
              go_quiet (fail)
              go_wp2_with fail
              go_meet
              exact ⟨_, rfl, Qy _ hm0i, Qz _ hmpos, below_draws (Ql _ _) _⟩
             case rest =>
              obtain ⟨c0, rfl, hc0, hcm, hbc⟩ := hcut
              obtain ⟨c, rfl⟩ : ∃ c : Nat, c0 = (c : Int) := ⟨c0.toNat, by omega⟩
              have hcn2 : c < m := by omega
              have HB25 := hid (zAa HB17.out hbc)
              have HBO25 := hid (zAa HBO17.out hbc)
              have HXO25 := hid (zAf HXO.out (zAc hbc) (Qg _))
              have HXF25 := hid (show ∀ y ∈ xs, Free (fun b => (Value.slice xa q xcc).ownBlock = some b) wc fun w' => OkV w' (y.v, y.s) from fun y hy => (HXF.out y hy).to ((Agree.refl (fun _ => False) wr).thenBelow hbc) (fun _ _ h => h.elim) (fun _ _ h => h))
              have hcn := (hbc.cell (Qm _ _ HCN.out)).trans HCN.out
              clear hbc cs0
              obtain ⟨C, hC⟩ : ∃ C, (colsN a0)[c]? = some C := ⟨_, Qx (by rw [<- HM.out]; exact hcn2)⟩
              obtain ⟨cb, co, hcbe, hccell⟩ := RdS.at (HCC.out _ HBO25.out) (k := c) (t := Co.cells C) (by rw [Ja, hC]; rfl)
              have hkd := HOK.out.ks C (Jc hC)
              subst hcbe
              have ck0 : wc.cell? ⟨cb, co + c * 3, none⟩ = some (.string C.n) := hccell 0 _ rfl
              have ck1 : wc.cell? ⟨cb, co + c * 3 + 1, none⟩ = some (.int .i64 C.k) := hccell 1 _ rfl
              have ck2 : wc.cell? ⟨cb, co + c * 3 + 2, none⟩ = some (.bool C.u) := hccell 2 _ rfl
              have cs1 := HCR.out _ HBO25.out
              have HCX := hid (show ∀ w', Below wc.heap.size wc w' -> (w'.cell? ⟨SB, 0, none⟩ = some (.slice (some ⟨cb, co, none⟩) m sc) ∧ w'.cell? ⟨cb, co + c * 3, none⟩ = some (.string C.n) ∧ w'.cell? ⟨cb, co + c * 3 + 1, none⟩ = some (.int .i64 C.k) ∧ w'.cell? ⟨cb, co + c * 3 + 2, none⟩ = some (.bool C.u) ∧ w'.cell? ⟨lb, lo + q, none⟩ = some (.int .i64 rn)) from fun w' h => ⟨(h.cell (Qm _ _ cs1)).trans cs1, (h.cell (Qm _ _ ck0)).trans ck0, (h.cell (Qm _ _ ck1)).trans ck1, (h.cell (Qm _ _ ck2)).trans ck2, (h.cell (Qm _ _ hcn)).trans hcn⟩)
              have HVAL := hid (show ∀ (n : Int) (w' : World), Below wc.heap.size wc w' -> Calls Try.prog 21 #[.agg #[.string C.n, .int .i64 C.k, .bool C.u], .int .i64 n] w' fun e w'' => ∃ (V : Vc) (sa : Option Addr) (sn sc2 : Nat), e = .returned (.agg #[.bool V.u, .int .i64 V.k, .int .i64 V.n, .slice sa sn sc2]) ∧ ((I64 V.n ∧ V.b.length <= 8) ∧ ∀ x ∈ V.b, x < 256) ∧ RdB w'.heap.size w'' (.slice sa sn sc2) V.b ∧ Below w'.heap.size w' w'' from fun n w' _ => by
               refine (zH2 C n w').mono ?_
               rintro e w'' ⟨sv, rfl, hok, hb, hfr⟩
               obtain ⟨sa, sc2, hsv⟩ := zAo hok.1
               simp only at hsv
               subst hsv
               exact ⟨valOf C n, sa, _, sc2, rfl, ⟨zFw C n, hok.2⟩, zIb hok.1 hfr, hb⟩)
              have hci : (c : Int) < (m : Int) := by omega
              have hc00 : (0 : Int) <= (c : Int) := by omega
              have HCE := hid hC
              clear hC hccell ck0 ck1 ck2 cs1 hcn
              obtain ⟨wz, rfl⟩ : ∃ wz : World, wz = wc := ⟨_, rfl⟩
              go_upto_region 26 with (fail)
              go_cut [24] (fun p wd => ∃ (VB : Nat) (V : Vc) (va2 : Option Addr) (vn2 vc2 : Nat), p = .pointer (some ⟨VB, 0, none⟩) ∧ wd.heap[VB]? = some (.cells #[.bool V.u, .int .i64 V.k, .int .i64 V.n, .slice va2 vn2 vc2] 36 (0, 0)) ∧ ((I64 V.n ∧ V.b.length <= 8) ∧ ∀ x ∈ V.b, x < 256) ∧ RdB wz.heap.size wd (.slice va2 vn2 vc2) V.b ∧ wz.heap.size <= VB ∧ Below wz.heap.size wz wd)
              case first =>
               refine wp_region_noPanic ?_
               refine wp_region_held_drew (S := fun w' => (w'.cell? ⟨SB, 0, none⟩ = some (.slice (some ⟨cb, co, none⟩) m sc) ∧ w'.cell? ⟨cb, co + c * 3, none⟩ = some (.string C.n) ∧ w'.cell? ⟨cb, co + c * 3 + 1, none⟩ = some (.int .i64 C.k) ∧ w'.cell? ⟨cb, co + c * 3 + 2, none⟩ = some (.bool C.u) ∧ w'.cell? ⟨lb, lo + q, none⟩ = some (.int .i64 rn)) ∧ Below wz.heap.size wz w') (by kernel_rfl) ?hS0V (fun hHeld => ?go0V)
               case' hS0V => ((try dsimp only); exact ⟨HCX.out _ (zAb wz.heap.size wz), zAb wz.heap.size wz⟩)
               refine tkH 0 (v := ?v0V) rfl (.inl ⟨by rfl, ?y0V⟩) ?_
               case' y0V => (intro w hSw; first | (go_simp; done) | (go_simp; with_reducible rfl))
               (try simp only [Act.put, Qa, Qb, Qc, Qd, Qe, Qf])
               refine tkH 1 (v := ?v1V) rfl (.inl ⟨by rfl, ?y1V⟩) ?_
               case' y1V => (intro w hSw; first | (go_simp; done) | (go_simp; with_reducible rfl))
               (try simp only [Act.put, Qa, Qb, Qc, Qd, Qe, Qf])
               refine tkH 2 (v := ?v2V) rfl (.inl ⟨by rfl, ?y2V⟩) ?_
               case' y2V => (intro w hSw; first | (go_simp; done) | (go_simp; with_reducible rfl))
               (try simp only [Act.put, Qa, Qb, Qc, Qd, Qe, Qf])
               refine tkH 3 (v := ?v3V) rfl (.inl ⟨by rfl, ?y3V⟩) ?_
               case' y3V => (intro w hSw; first | (go_simp; done) | (go_simp; with_reducible rfl))
               (try simp only [Act.put, Qa, Qb, Qc, Qd, Qe, Qf])
               refine tkH 4 (v := ?v4V) rfl (.inl ⟨by rfl, ?y4V⟩) ?_
               case' y4V => (intro w hSw; first | (go_simp; done) | (go_simp; with_reducible rfl))
               (try simp only [Act.put, Qa, Qb, Qc, Qd, Qe, Qf])
               refine tkH 5 (v := ?v5V) rfl (.inl ⟨by rfl, ?y5V⟩) ?_
               case' y5V => (intro w hSw; first | (go_simp; done) | (go_simp; with_reducible rfl))
               (try simp only [Act.put, Qa, Qb, Qc, Qd, Qe, Qf])
               refine tkH 6 (v := ?v6V) rfl (.inl ⟨by rfl, ?y6V⟩) ?_
               case' y6V => (intro w hSw; first | (go_simp; done) | (go_simp; with_reducible rfl))
               (try simp only [Act.put, Qa, Qb, Qc, Qd, Qe, Qf])
               refine tkH 7 (v := ?v7V) rfl (.inl ⟨by rfl, ?y7V⟩) ?_
               case' y7V => (intro w hSw; first | (go_simp; done) | (go_simp; with_reducible rfl))
               (try simp only [Act.put, Qa, Qb, Qc, Qd, Qe, Qf])
               refine tkH 8 (v := ?v8V) rfl (.inl ⟨by rfl, ?y8V⟩) ?_
               case' y8V => (intro w hSw; first | (go_simp; done) | (go_simp; with_reducible rfl))
               (try simp only [Act.put, Qa, Qb, Qc, Qd, Qe, Qf])
               refine tkH 9 (v := ?v9V) rfl (.inl ⟨by rfl, ?y9V⟩) ?_
               case' y9V => (intro w hSw; first | (go_simp; done) | (go_simp; with_reducible rfl))
               (try simp only [Act.put, Qa, Qb, Qc, Qd, Qe, Qf])
               refine wpAnyH_ready (rs := [10, 11]) (by kernel_rfl) (by simp) ?_
               refine AllReadyH.cons (o := _) rfl (fun K10a hK10a => ?_) (AllReadyH.cons (o := _) rfl (fun K11a hK11a => ?_) AllReadyH.nil)
               ·go_simp
                (go_at_call 21; refine (HVAL.out _ _ (zAb wz.heap.size wz)).mono ?_; rintro e w2 ⟨V, va2, vn2, vc2, rfl, hvok, hrb, hb⟩; have hb2 : Below wz.heap.size wz w2 := zAa (zAb wz.heap.size wz) hb)
                refine hK10a.out _ _ ?hS10aV (fun hHeld10a => ?_)
                case' hS10aV => ((try dsimp only); exact ⟨HCX.out _ (hb2), hb2⟩)
                clear hK10a K10a
                (try simp only [Act.put, Qa, Qb, Qc, Qd, Qe, Qf])
                refine wpAnyH_ready (rs := [11]) (by kernel_rfl) (by simp) ?_
                refine AllReadyH.cons (o := _) rfl (fun K11b hK11b => ?_) AllReadyH.nil
                go_simp
                refine hK11b.out _ _ ?hS11bV (fun hHeld11b => ?_)
                case' hS11bV => ((try dsimp only); exact ⟨HCX.out _ ((zAe hb2 _)), (zAe hb2 _)⟩)
                clear hK11b K11b
                (try simp only [Act.put, Qa, Qb, Qc, Qd, Qe, Qf])
                refine wpAnyH_ready (rs := [12]) (by kernel_rfl) (by simp) ?_
                refine AllReadyH.cons (o := _) rfl (fun K12c hK12c => ?_) AllReadyH.nil
                go_simp
                refine hK12c.out _ _ ?hS12cV (fun hHeld12c => ?_)
                case' hS12cV => ((try dsimp only); exact ⟨HCX.out _ ((zAe hb2 _)), (zAe hb2 _)⟩)
                clear hK12c K12c
                (try simp only [Act.put, Qa, Qb, Qc, Qd, Qe, Qf])
                refine wpAnyH_done (by kernel_rfl) ?_ _
                refine NoPanic.normal ?_
                go_wp2_with fail
                go_meet
                exact ⟨w2.heap.size, V, va2, vn2, vc2, rfl, Jf w2 _, hvok, hrb.above (zAc (zAi w2 _)) (show wz.heap.size <= wz.drew.heap.size from (zAb wz.heap.size wz).size), hb2.size, zAe hb2 _⟩
               ·go_simp
                refine hK11a.out _ _ ?hS11aV (fun hHeld11a => ?_)
                case' hS11aV => ((try dsimp only); exact ⟨HCX.out _ ((zAe (zAb wz.heap.size wz) _)), (zAe (zAb wz.heap.size wz) _)⟩)
                clear hK11a K11a
                (try simp only [Act.put, Qa, Qb, Qc, Qd, Qe, Qf])
                refine wpAnyH_ready (rs := [10]) (by kernel_rfl) (by simp) ?_
                refine AllReadyH.cons (o := _) rfl (fun K10d hK10d => ?_) AllReadyH.nil
                go_simp
                (go_at_call 21; refine (HVAL.out _ _ ((zAe (zAb wz.heap.size wz) (.cells #[.bool false, .int .i64 0, .int .i64 0, .slice none 0 0] 36)))).mono ?_; rintro e w2 ⟨V, va2, vn2, vc2, rfl, hvok, hrb, hb⟩; have hb2 : Below wz.heap.size wz w2 := zAa ((zAe (zAb wz.heap.size wz) (.cells #[.bool false, .int .i64 0, .int .i64 0, .slice none 0 0] 36))) hb; have g8 : w2.heap[wz.heap.size]? = some (.cells #[.bool false, .int .i64 0, .int .i64 0, .slice none 0 0] 36 (0, 0)) := (hb.block wz.heap.size (by simp)).trans (Jf wz.drew _); obtain ⟨g80, g81, g82, g83, f80, f81, f82, f83⟩ := zA2 g8)
                refine hK10d.out _ _ ?hS10dV (fun hHeld10d => ?_)
                case' hS10dV => ((try dsimp only); exact ⟨HCX.out _ (hb2), hb2⟩)
                clear hK10d K10d
                (try simp only [Act.put, Qa, Qb, Qc, Qd, Qe, Qf])
                refine wpAnyH_ready (rs := [12]) (by kernel_rfl) (by simp) ?_
                refine AllReadyH.cons (o := _) rfl (fun K12d hK12d => ?_) AllReadyH.nil
                go_simp
                refine hK12d.out _ _ ?hS12dV (fun hHeld12d => ?_)
                case' hS12dV => ((try dsimp only); exact ⟨HCX.out _ (((((hb2.setCell (p := ⟨wz.heap.size, 0, none⟩) (Qg _) _).setCell (p := ⟨wz.heap.size, 1, none⟩) (Qg _) _).setCell (p := ⟨wz.heap.size, 2, none⟩) (Qg _) _).setCell (p := ⟨wz.heap.size, 3, none⟩) (Qg _) _)), ((((hb2.setCell (p := ⟨wz.heap.size, 0, none⟩) (Qg _) _).setCell (p := ⟨wz.heap.size, 1, none⟩) (Qg _) _).setCell (p := ⟨wz.heap.size, 2, none⟩) (Qg _) _).setCell (p := ⟨wz.heap.size, 3, none⟩) (Qg _) _)⟩)
                clear hK12d K12d
                (try simp only [Act.put, Qa, Qb, Qc, Qd, Qe, Qf])
                refine wpAnyH_done (by kernel_rfl) ?_ _
                refine NoPanic.normal ?_
                go_wp2_with fail
                go_meet
                exact ⟨wz.heap.size, V, va2, vn2, vc2, rfl, zAu g8, hvok, hrb.above (zA0 (zA0 (zA0 (zA0 (Above.refl _ w2) _ _ (show wz.heap.size < (wz.drew.alloc (.cells #[.bool false, .int .i64 0, .int .i64 0, .slice none 0 0] 36)).heap.size by simp)) _ _ (show wz.heap.size < (wz.drew.alloc (.cells #[.bool false, .int .i64 0, .int .i64 0, .slice none 0 0] 36)).heap.size by simp)) _ _ (show wz.heap.size < (wz.drew.alloc (.cells #[.bool false, .int .i64 0, .int .i64 0, .slice none 0 0] 36)).heap.size by simp)) _ _ (show wz.heap.size < (wz.drew.alloc (.cells #[.bool false, .int .i64 0, .int .i64 0, .slice none 0 0] 36)).heap.size by simp)) (show wz.heap.size <= (wz.drew.alloc (.cells #[.bool false, .int .i64 0, .int .i64 0, .slice none 0 0] 36)).heap.size by simp), Qg _, ((((hb2.setCell (p := ⟨wz.heap.size, 0, none⟩) (Qg _) _).setCell (p := ⟨wz.heap.size, 1, none⟩) (Qg _) _).setCell (p := ⟨wz.heap.size, 2, none⟩) (Qg _) _).setCell (p := ⟨wz.heap.size, 3, none⟩) (Qg _) _)⟩
              case rest =>
               obtain ⟨VB, V, va2, vn2, vc2, rfl, hvb, ⟨hvs, hv8⟩, hvr, hvg, hbd⟩ := hcut
               obtain ⟨wd, rfl⟩ : ∃ wd : World, wd = wc := ⟨_, rfl⟩
               have hvlt := (Jd.1 hvb).1
               have HBD := hid (zAa HB25.out hbd)
               have HXD := hid (zAf HXO25.out (zAc hbd) (Qg _))
               have HFD := hid (show ∀ y ∈ xs, Free (fun b => (Value.slice xa q xcc).ownBlock = some b) wd fun w' => OkV w' (y.v, y.s) from fun y hy => (HXF25.out y hy).to ((Agree.refl (fun _ => False) wz).thenBelow hbd) (fun _ _ h => h.elim) (fun _ _ h => h))
               have hxlt : ∀ b, (Value.slice xa q xcc).ownBlock = some b -> b < wz.heap.size := fun b e => (HXO25.out.lt b e).2
               have HNV := hid (show (Value.slice xa q xcc).ownBlock ≠ some VB from fun e => by have := hxlt VB e; omega)
               have HVF0 := hid (show Free (fun b => (Value.slice xa q xcc).ownBlock = some b) wd fun w' => OkV w' (V, .slice va2 vn2 vc2) from fun w' ha => ⟨hvr.rd (fun b h1 h2 => ha.block b h2 fun e => by have := hxlt b e; omega), hv8⟩)
               have HVS := hid hvs
               have HVB := hid hvb
               have HCW := hid (show ∀ w', Below W17.heap.size W17 w' -> (w'.cell? ⟨SB, 0, none⟩ = some (.slice (some ⟨cb, co, none⟩) m sc) ∧ w'.cell? ⟨cb, co + c * 3, none⟩ = some (.string C.n) ∧ w'.cell? ⟨cb, co + c * 3 + 1, none⟩ = some (.int .i64 C.k) ∧ w'.cell? ⟨cb, co + c * 3 + 2, none⟩ = some (.bool C.u) ∧ w'.cell? ⟨lb, lo + q, none⟩ = some (.int .i64 rn)) from fun w' h => by
                have h3 := zAa HBO3.out h
                obtain ⟨b1, o1, e1, g1⟩ := RdS.at (HCC.out w' h3) (k := c) (t := Co.cells C) (by rw [Ja, HCE.out]; rfl)
                cases e1
                obtain ⟨b2, o2, e2, g2⟩ := (zCh (HLW.out w' h3).2.2).2 (by omega)
                cases e2
                have g3 := g2 q hlt1
                rw [<- HRE.out] at g3
                exact ⟨HCR.out w' h3, g1 0 _ rfl, g1 1 _ rfl, g1 2 _ rfl, g3⟩)
               clear hvs hv8 hvr hbd hxlt HVAL HCX
               rcases hkd with hk1 | hk1
               all_goals rw [hk1] at HCW
               ·cases hvu : V.u with
                | true =>
                 have HVF : Hid (Free (fun b => (Value.slice xa q xcc).ownBlock = some b) wd fun w' => OkV w' ((⟨true, V.k, V.n, V.b⟩ : Vc), .slice va2 vn2 vc2)) := HVF0
                 have HCG := hid (show ∀ w', Below W17.heap.size W17 w' -> w'.heap[VB]? = wd.heap[VB]? -> (w'.cell? ⟨SB, 0, none⟩ = some (.slice (some ⟨cb, co, none⟩) m sc) ∧ w'.cell? ⟨cb, co + c * 3, none⟩ = some (.string C.n) ∧ w'.cell? ⟨cb, co + c * 3 + 1, none⟩ = some (.int .i64 1) ∧ w'.cell? ⟨cb, co + c * 3 + 2, none⟩ = some (.bool C.u) ∧ w'.cell? ⟨lb, lo + q, none⟩ = some (.int .i64 rn) ∧ w'.cell? ⟨VB, 0, none⟩ = some (.bool true) ∧ w'.cell? ⟨VB, 1, none⟩ = some (.int .i64 V.k) ∧ w'.cell? ⟨VB, 2, none⟩ = some (.int .i64 V.n) ∧ w'.cell? ⟨VB, 3, none⟩ = some (.slice va2 vn2 vc2)) from fun w' h1 h2 => by obtain ⟨x0, x1, x2, x3, _⟩ := zA2 (h2.trans HVB.out); rw [hvu] at x0; obtain ⟨g0, g1, g2, g3, g4⟩ := HCW.out w' h1; exact ⟨g0, g1, g2, g3, g4, x0, x1, x2, x3⟩)
                 have HCZ := hid (show ∀ w', Below wd.heap.size wd w' -> (w'.cell? ⟨SB, 0, none⟩ = some (.slice (some ⟨cb, co, none⟩) m sc) ∧ w'.cell? ⟨cb, co + c * 3, none⟩ = some (.string C.n) ∧ w'.cell? ⟨cb, co + c * 3 + 1, none⟩ = some (.int .i64 1) ∧ w'.cell? ⟨cb, co + c * 3 + 2, none⟩ = some (.bool C.u) ∧ w'.cell? ⟨lb, lo + q, none⟩ = some (.int .i64 rn) ∧ w'.cell? ⟨VB, 0, none⟩ = some (.bool true) ∧ w'.cell? ⟨VB, 1, none⟩ = some (.int .i64 V.k) ∧ w'.cell? ⟨VB, 2, none⟩ = some (.int .i64 V.n) ∧ w'.cell? ⟨VB, 3, none⟩ = some (.slice va2 vn2 vc2)) from fun w' h => HCG.out w' (zAa HBD.out h) (h.block VB hvlt))
                 clear hvu hvb
                 go_upto_region 27 with (fail)
                 refine wp_region_noPanic ?_
                 refine wp_region_held_drew (S := fun w' => (w'.cell? ⟨SB, 0, none⟩ = some (.slice (some ⟨cb, co, none⟩) m sc) ∧ w'.cell? ⟨cb, co + c * 3, none⟩ = some (.string C.n) ∧ w'.cell? ⟨cb, co + c * 3 + 1, none⟩ = some (.int .i64 1) ∧ w'.cell? ⟨cb, co + c * 3 + 2, none⟩ = some (.bool C.u) ∧ w'.cell? ⟨lb, lo + q, none⟩ = some (.int .i64 rn) ∧ w'.cell? ⟨VB, 0, none⟩ = some (.bool true) ∧ w'.cell? ⟨VB, 1, none⟩ = some (.int .i64 V.k) ∧ w'.cell? ⟨VB, 2, none⟩ = some (.int .i64 V.n) ∧ w'.cell? ⟨VB, 3, none⟩ = some (.slice va2 vn2 vc2)) ∧ Below W17.heap.size W17 w') (by kernel_rfl) ?hS0QA (fun hHeld => ?go0QA)
                 case' hS0QA => ((try dsimp only); exact ⟨HCZ.out _ (zAb wd.heap.size wd), zAa HBD.out (zAb wd.heap.size wd)⟩)
                 refine tkH 0 (v := ?v0QAQA) rfl (.inl ⟨by rfl, ?y0QAQA⟩) ?_
                 case' y0QAQA => (intro w hSw; first | (go_simp; done) | (go_simp; with_reducible rfl))
                 (try simp only [Act.put, Qa, Qb, Qc, Qd, Qe, Qf])
                 refine tkH 1 (v := ?v1QAQA) rfl (.inl ⟨by rfl, ?y1QAQA⟩) ?_
                 case' y1QAQA => (intro w hSw; first | (go_simp; done) | (go_simp; with_reducible rfl))
                 (try simp only [Act.put, Qa, Qb, Qc, Qd, Qe, Qf])
                 refine tkH 2 (v := ?v2QAQA) rfl (.inl ⟨by rfl, ?y2QAQA⟩) ?_
                 case' y2QAQA => (intro w hSw; first | (go_simp; done) | (go_simp; with_reducible rfl))
                 (try simp only [Act.put, Qa, Qb, Qc, Qd, Qe, Qf])
                 refine tkH 3 (v := ?v3QAQA) rfl (.inl ⟨by rfl, ?y3QAQA⟩) ?_
                 case' y3QAQA => (intro w hSw; first | (go_simp; done) | (go_simp; with_reducible rfl))
                 (try simp only [Act.put, Qa, Qb, Qc, Qd, Qe, Qf])
                 refine tkH 4 (v := ?v4QAQA) rfl (.inl ⟨by rfl, ?y4QAQA⟩) ?_
                 case' y4QAQA => (intro w hSw; first | (go_simp; done) | (go_simp; with_reducible rfl))
                 (try simp only [Act.put, Qa, Qb, Qc, Qd, Qe, Qf])
                 refine tkH 5 (v := ?v5QAQA) rfl (.inl ⟨by rfl, ?y5QAQA⟩) ?_
                 case' y5QAQA => (intro w hSw; first | (go_simp; done) | (go_simp; with_reducible rfl))
                 (try simp only [Act.put, Qa, Qb, Qc, Qd, Qe, Qf])
                 refine tkH 6 (v := ?v6QAQA) rfl (.inl ⟨by rfl, ?y6QAQA⟩) ?_
                 case' y6QAQA => (intro w hSw; first | (go_simp; done) | (go_simp; with_reducible rfl))
                 (try simp only [Act.put, Qa, Qb, Qc, Qd, Qe, Qf])
                 refine tkH 7 (v := ?v7QAQA) rfl (.inl ⟨by rfl, ?y7QAQA⟩) ?_
                 case' y7QAQA => (intro w hSw; first | (go_simp; done) | (go_simp; with_reducible rfl))
                 (try simp only [Act.put, Qa, Qb, Qc, Qd, Qe, Qf])
                 refine tkH 8 (v := ?v8QAQA) rfl (.inl ⟨by rfl, ?y8QAQA⟩) ?_
                 case' y8QAQA => (intro w hSw; first | (go_simp; done) | (go_simp; with_reducible rfl))
                 (try simp only [Act.put, Qa, Qb, Qc, Qd, Qe, Qf])
                 refine tkH 9 (v := ?v9QAQA) rfl (.inl ⟨by rfl, ?y9QAQA⟩) ?_
                 case' y9QAQA => (intro w hSw; first | (go_simp; done) | (go_simp; with_reducible rfl))
                 (try simp only [Act.put, Qa, Qb, Qc, Qd, Qe, Qf])
                 refine tkH 10 (v := ?v10QAQA) rfl (.inl ⟨by rfl, ?y10QAQA⟩) ?_
                 case' y10QAQA => (intro w hSw; first | (go_simp; done) | (go_simp; with_reducible rfl))
                 (try simp only [Act.put, Qa, Qb, Qc, Qd, Qe, Qf])
                 refine tkH 11 (v := ?v11QAQA) rfl (.inl ⟨by rfl, ?y11QAQA⟩) ?_
                 case' y11QAQA => (intro w hSw; first | (go_simp; done) | (go_simp; with_reducible rfl))
                 (try simp only [Act.put, Qa, Qb, Qc, Qd, Qe, Qf])
                 refine tkH 12 (v := ?v12QAQA) rfl (.inl ⟨by rfl, ?y12QAQA⟩) ?_
                 case' y12QAQA => (intro w hSw; first | (go_simp; done) | (go_simp; with_reducible rfl))
                 (try simp only [Act.put, Qa, Qb, Qc, Qd, Qe, Qf])
                 refine tkH 13 (v := ?v13QAQA) rfl (.inl ⟨by rfl, ?y13QAQA⟩) ?_
                 case' y13QAQA => (intro w hSw; first | (go_simp; done) | (go_simp; with_reducible rfl))
                 (try simp only [Act.put, Qa, Qb, Qc, Qd, Qe, Qf])
                 refine tkH 14 (v := ?v14QAQA) rfl (.inl ⟨by rfl, ?y14QAQA⟩) ?_
                 case' y14QAQA => (intro w hSw; first | (go_simp; done) | (go_simp; with_reducible rfl))
                 (try simp only [Act.put, Qa, Qb, Qc, Qd, Qe, Qf])
                 refine tkH 15 (v := undef) rfl (.inr ⟨by rfl, rfl⟩) ?_
                 (try simp only [Act.put, Qa, Qb, Qc, Qd, Qe, Qf])
                 refine tkH 16 (v := undef) rfl (.inr ⟨by rfl, rfl⟩) ?_
                 (try simp only [Act.put, Qa, Qb, Qc, Qd, Qe, Qf])
                 refine tkH 17 (v := undef) rfl (.inr ⟨by rfl, rfl⟩) ?_
                 (try simp only [Act.put, Qa, Qb, Qc, Qd, Qe, Qf])
                 refine tkH 18 (v := undef) rfl (.inr ⟨by rfl, rfl⟩) ?_
                 (try simp only [Act.put, Qa, Qb, Qc, Qd, Qe, Qf])
                 refine tkH 19 (v := undef) rfl (.inr ⟨by rfl, rfl⟩) ?_
                 (try simp only [Act.put, Qa, Qb, Qc, Qd, Qe, Qf])
                 refine tkH 20 (v := undef) rfl (.inr ⟨by rfl, rfl⟩) ?_
                 (try simp only [Act.put, Qa, Qb, Qc, Qd, Qe, Qf])
                 refine tkH 21 (v := undef) rfl (.inr ⟨by rfl, rfl⟩) ?_
                 (try simp only [Act.put, Qa, Qb, Qc, Qd, Qe, Qf])
                 refine tkH 22 (v := ?v22QAQA) rfl (.inl ⟨by rfl, ?y22QAQA⟩) ?_
                 case' y22QAQA => (intro w hSw; first | (go_simp; done) | (go_simp; with_reducible rfl))
                 (try simp only [Act.put, Qa, Qb, Qc, Qd, Qe, Qf])
                 refine tkH 23 (v := ?v23QAQA) rfl (.inl ⟨by rfl, ?y23QAQA⟩) ?_
                 case' y23QAQA => (intro w hSw; first | (go_simp; done) | (go_simp; with_reducible rfl))
                 (try simp only [Act.put, Qa, Qb, Qc, Qd, Qe, Qf])
                 refine tkH 24 (v := ?v24QAQA) rfl (.inl ⟨by rfl, ?y24QAQA⟩) ?_
                 case' y24QAQA => (intro w hSw; first | (go_simp; done) | (go_simp; with_reducible rfl))
                 (try simp only [Act.put, Qa, Qb, Qc, Qd, Qe, Qf])
                 refine wpAnyH_ready (rs := [25]) (by kernel_rfl) (by simp) ?_
                 refine AllReadyH.cons (o := _) rfl (fun K25QA hK25QA => ?_) AllReadyH.nil
                 go_simp
                 (have hb1 : Below wd.heap.size wd (wd.drew.alloc (.cells #[.int .i64 (c : Int), .bool false, .bool true, .int .i64 V.k, .int .i64 V.n, .slice va2 vn2 vc2] 46)) := zAe (zAb wd.heap.size wd) _; have ow1 := zAf HXD.out (zAc hb1) (Qg _))
                 refine hK25QA.out _ _ ?hS25QAQA (fun hHeld25QA => ?_)
                 case' hS25QAQA => ((try dsimp only); exact ⟨HCZ.out _ hb1, zAa HBD.out hb1⟩)
                 clear hK25QA K25QA
                 (try simp only [Act.put, Qa, Qb, Qc, Qd, Qe, Qf])
                 refine wpAnyH_ready (rs := [26]) (by kernel_rfl) (by simp) ?_
                 refine AllReadyH.cons (o := _) rfl (fun K26QA hK26QA => ?_) AllReadyH.nil
                 (refine zAh zEx (by rfl) _ _ (by rfl) W17.heap.size _ _ _ (by rfl) ow1 _ _ (by rfl) (zAv (Jf wd.drew (.cells #[.int .i64 (c : Int), .bool false, .bool true, .int .i64 V.k, .int .i64 V.n, .slice va2 vn2 vc2] 46)) 6) (fun u hu => by rw [Qh.1 hu]; refine ⟨rfl, fun z hz => ?_⟩; simp only [Qr, Qt, or_false] at hz; rcases hz with rfl | rfl | rfl | rfl | rfl | rfl <;> rfl) (by simp; omega) (Qj HBD.out.size hb1.size) (q + 1) rfl ?_; intro xa4 xc4 w4 ow4 hg4 hn4; have hb4 : Below W17.heap.size W17 w4 := (zAa HBD.out hb1).grown hg4 (Qj HBD.out.size hb1.size) (zAg ow1))
                 refine hK26QA.out _ _ ?hS26QAQA (fun hHeld26QA => ?_)
                 case' hS26QAQA => ((try dsimp only); exact ⟨HCG.out w4 hb4 ((hg4.block VB (Qw hvlt hb1.size) (fun e => HNV.out e.symm)).trans (hb1.block VB hvlt)), hb4⟩)
                 clear hK26QA K26QA
                 (try simp only [Act.put, Qa, Qb, Qc, Qd, Qe, Qf])
                 refine tkH 27 (v := ?v27QAQA) rfl (.inl ⟨by rfl, ?y27QAQA⟩) ?_
                 case' y27QAQA => (intro w hSw; first | (go_simp; done) | (go_simp; with_reducible rfl))
                 (try simp only [Act.put, Qa, Qb, Qc, Qd, Qe, Qf])
                 refine wpAnyH_done (by kernel_rfl) ?_ _
                 refine NoPanic.normal ?_
                 have HPU := hid (zEy HXD.out HFD.out HVF.out hb1 hg4 hn4)
                 have HOW := hid ow4
                 have HB4 := hid hb4
                 clear hb1 ow1 hg4 hn4 ow4 hb4
                 go_wp2_with fail
                 go_roundw
                 case rel =>
                  refine ⟨q + 1, xa4, xc4, xs ++ [⟨(c : Int), false, (⟨true, V.k, V.n, V.b⟩ : Vc), .slice va2 vn2 vc2⟩], by omega, by omega, by go_num, rfl, by rw [Qp, HXL.out]; rfl, fun y hy => ?_, fun y hy => ?_, ?_, HB4.out⟩
                  ·rcases Qk.1 hy with h | h
                   ·exact HXB.out y h
                   ·rw [Qh.1 h]; exact ⟨HVS.out.1, HVS.out.2, hc00, hci, by simp⟩
                  ·rcases Qk.1 hy with h | h
                   ·exact HPU.out.1 y h
                   ·rw [Qh.1 h]; exact HPU.out.2
                  ·rw [Qn, Qu]
                   exact HOW.out
                 case measure => simp [intOf]; omega
                | false =>
                 have HVF : Hid (Free (fun b => (Value.slice xa q xcc).ownBlock = some b) wd fun w' => OkV w' ((⟨false, V.k, V.n, V.b⟩ : Vc), .slice va2 vn2 vc2)) := HVF0
                 have HCG := hid (show ∀ w', Below W17.heap.size W17 w' -> w'.heap[VB]? = wd.heap[VB]? -> (w'.cell? ⟨SB, 0, none⟩ = some (.slice (some ⟨cb, co, none⟩) m sc) ∧ w'.cell? ⟨cb, co + c * 3, none⟩ = some (.string C.n) ∧ w'.cell? ⟨cb, co + c * 3 + 1, none⟩ = some (.int .i64 1) ∧ w'.cell? ⟨cb, co + c * 3 + 2, none⟩ = some (.bool C.u) ∧ w'.cell? ⟨lb, lo + q, none⟩ = some (.int .i64 rn) ∧ w'.cell? ⟨VB, 0, none⟩ = some (.bool false) ∧ w'.cell? ⟨VB, 1, none⟩ = some (.int .i64 V.k) ∧ w'.cell? ⟨VB, 2, none⟩ = some (.int .i64 V.n) ∧ w'.cell? ⟨VB, 3, none⟩ = some (.slice va2 vn2 vc2)) from fun w' h1 h2 => by obtain ⟨x0, x1, x2, x3, _⟩ := zA2 (h2.trans HVB.out); rw [hvu] at x0; obtain ⟨g0, g1, g2, g3, g4⟩ := HCW.out w' h1; exact ⟨g0, g1, g2, g3, g4, x0, x1, x2, x3⟩)
                 have HCZ := hid (show ∀ w', Below wd.heap.size wd w' -> (w'.cell? ⟨SB, 0, none⟩ = some (.slice (some ⟨cb, co, none⟩) m sc) ∧ w'.cell? ⟨cb, co + c * 3, none⟩ = some (.string C.n) ∧ w'.cell? ⟨cb, co + c * 3 + 1, none⟩ = some (.int .i64 1) ∧ w'.cell? ⟨cb, co + c * 3 + 2, none⟩ = some (.bool C.u) ∧ w'.cell? ⟨lb, lo + q, none⟩ = some (.int .i64 rn) ∧ w'.cell? ⟨VB, 0, none⟩ = some (.bool false) ∧ w'.cell? ⟨VB, 1, none⟩ = some (.int .i64 V.k) ∧ w'.cell? ⟨VB, 2, none⟩ = some (.int .i64 V.n) ∧ w'.cell? ⟨VB, 3, none⟩ = some (.slice va2 vn2 vc2)) from fun w' h => HCG.out w' (zAa HBD.out h) (h.block VB hvlt))
                 clear hvu hvb
                 by_cases hbit : rn / 1048576 % 2 = 1
                 ·go_upto_region 27 with (fail)
                  refine wp_region_noPanic ?_
                  refine wp_region_held_drew (S := fun w' => (w'.cell? ⟨SB, 0, none⟩ = some (.slice (some ⟨cb, co, none⟩) m sc) ∧ w'.cell? ⟨cb, co + c * 3, none⟩ = some (.string C.n) ∧ w'.cell? ⟨cb, co + c * 3 + 1, none⟩ = some (.int .i64 1) ∧ w'.cell? ⟨cb, co + c * 3 + 2, none⟩ = some (.bool C.u) ∧ w'.cell? ⟨lb, lo + q, none⟩ = some (.int .i64 rn) ∧ w'.cell? ⟨VB, 0, none⟩ = some (.bool false) ∧ w'.cell? ⟨VB, 1, none⟩ = some (.int .i64 V.k) ∧ w'.cell? ⟨VB, 2, none⟩ = some (.int .i64 V.n) ∧ w'.cell? ⟨VB, 3, none⟩ = some (.slice va2 vn2 vc2)) ∧ Below W17.heap.size W17 w') (by kernel_rfl) ?hS0QB (fun hHeld => ?go0QB)
                  case' hS0QB => ((try dsimp only); exact ⟨HCZ.out _ (zAb wd.heap.size wd), zAa HBD.out (zAb wd.heap.size wd)⟩)
                  refine tkH 0 (v := ?v0QBQB) rfl (.inl ⟨by rfl, ?y0QBQB⟩) ?_
                  case' y0QBQB => (intro w hSw; first | (go_simp; done) | (go_simp; with_reducible rfl))
                  (try simp only [Act.put, Qa, Qb, Qc, Qd, Qe, Qf])
                  refine tkH 1 (v := ?v1QBQB) rfl (.inl ⟨by rfl, ?y1QBQB⟩) ?_
                  case' y1QBQB => (intro w hSw; first | (go_simp; done) | (go_simp; with_reducible rfl))
                  (try simp only [Act.put, Qa, Qb, Qc, Qd, Qe, Qf])
                  refine tkH 2 (v := ?v2QBQB) rfl (.inl ⟨by rfl, ?y2QBQB⟩) ?_
                  case' y2QBQB => (intro w hSw; first | (go_simp; done) | (go_simp; with_reducible rfl))
                  (try simp only [Act.put, Qa, Qb, Qc, Qd, Qe, Qf])
                  refine tkH 3 (v := ?v3QBQB) rfl (.inl ⟨by rfl, ?y3QBQB⟩) ?_
                  case' y3QBQB => (intro w hSw; first | (go_simp; done) | (go_simp; with_reducible rfl))
                  (try simp only [Act.put, Qa, Qb, Qc, Qd, Qe, Qf])
                  refine tkH 4 (v := ?v4QBQB) rfl (.inl ⟨by rfl, ?y4QBQB⟩) ?_
                  case' y4QBQB => (intro w hSw; first | (go_simp; done) | (go_simp; with_reducible rfl))
                  (try simp only [Act.put, Qa, Qb, Qc, Qd, Qe, Qf])
                  refine tkH 5 (v := ?v5QBQB) rfl (.inl ⟨by rfl, ?y5QBQB⟩) ?_
                  case' y5QBQB => (intro w hSw; first | (go_simp; done) | (go_simp; with_reducible rfl))
                  (try simp only [Act.put, Qa, Qb, Qc, Qd, Qe, Qf])
                  refine tkH 6 (v := ?v6QBQB) rfl (.inl ⟨by rfl, ?y6QBQB⟩) ?_
                  case' y6QBQB => (intro w hSw; first | (go_simp; done) | (go_simp; with_reducible rfl))
                  (try simp only [Act.put, Qa, Qb, Qc, Qd, Qe, Qf])
                  refine tkH 7 (v := ?v7QBQB) rfl (.inl ⟨by rfl, ?y7QBQB⟩) ?_
                  case' y7QBQB => (intro w hSw; first | (go_simp; done) | (go_simp; with_reducible rfl))
                  (try simp only [Act.put, Qa, Qb, Qc, Qd, Qe, Qf])
                  refine tkH 8 (v := ?v8QBQB) rfl (.inl ⟨by rfl, ?y8QBQB⟩) ?_
                  case' y8QBQB => (intro w hSw; first | (go_simp; done) | (go_simp; with_reducible rfl))
                  (try simp only [Act.put, Qa, Qb, Qc, Qd, Qe, Qf])
                  refine tkH 9 (v := ?v9QBQB) rfl (.inl ⟨by rfl, ?y9QBQB⟩) ?_
                  case' y9QBQB => (intro w hSw; first | (go_simp; done) | (go_simp; with_reducible rfl))
                  (try simp only [Act.put, Qa, Qb, Qc, Qd, Qe, Qf])
                  refine tkH 10 (v := ?v10QBQB) rfl (.inl ⟨by rfl, ?y10QBQB⟩) ?_
                  case' y10QBQB => (intro w hSw; first | (go_simp; done) | (go_simp; with_reducible rfl))
                  (try simp only [Act.put, Qa, Qb, Qc, Qd, Qe, Qf])
                  refine tkH 11 (v := ?v11QBQB) rfl (.inl ⟨by rfl, ?y11QBQB⟩) ?_
                  case' y11QBQB => (intro w hSw; first | (go_simp; done) | (go_simp; with_reducible rfl))
                  (try simp only [Act.put, Qa, Qb, Qc, Qd, Qe, Qf])
                  refine tkH 12 (v := ?v12QBQB) rfl (.inl ⟨by rfl, ?y12QBQB⟩) ?_
                  case' y12QBQB => (intro w hSw; first | (go_simp; done) | (go_simp; with_reducible rfl))
                  (try simp only [Act.put, Qa, Qb, Qc, Qd, Qe, Qf])
                  refine tkH 13 (v := ?v13QBQB) rfl (.inl ⟨by rfl, ?y13QBQB⟩) ?_
                  case' y13QBQB => (intro w hSw; first | (go_simp; done) | (go_simp; with_reducible rfl))
                  (try simp only [Act.put, Qa, Qb, Qc, Qd, Qe, Qf])
                  refine tkH 14 (v := ?v14QBQB) rfl (.inl ⟨by rfl, ?y14QBQB⟩) ?_
                  case' y14QBQB => (intro w hSw; first | (go_simp; done) | (go_simp; with_reducible rfl))
                  (try simp only [Act.put, Qa, Qb, Qc, Qd, Qe, Qf])
                  refine tkH 15 (v := ?v15QBQB) rfl (.inl ⟨by rfl, ?y15QBQB⟩) ?_
                  case' y15QBQB => (intro w hSw; first | (go_simp; done) | (go_simp; with_reducible rfl))
                  (try simp only [Act.put, Qa, Qb, Qc, Qd, Qe, Qf])
                  refine tkH 16 (v := ?v16QBQB) rfl (.inl ⟨by rfl, ?y16QBQB⟩) ?_
                  case' y16QBQB => (intro w hSw; first | (go_simp; done) | (go_simp; with_reducible rfl))
                  (try simp only [Act.put, Qa, Qb, Qc, Qd, Qe, Qf])
                  refine tkH 17 (v := ?v17QBQB) rfl (.inl ⟨by rfl, ?y17QBQB⟩) ?_
                  case' y17QBQB => (intro w hSw; first | (go_simp; done) | (go_simp; with_reducible rfl))
                  (try simp only [Act.put, Qa, Qb, Qc, Qd, Qe, Qf])
                  refine tkH 18 (v := ?v18QBQB) rfl (.inl ⟨by rfl, ?y18QBQB⟩) ?_
                  case' y18QBQB => (intro w hSw; first | (go_simp; done) | (go_simp; with_reducible rfl))
                  (try simp only [Act.put, Qa, Qb, Qc, Qd, Qe, Qf])
                  refine tkH 19 (v := ?v19QBQB) rfl (.inl ⟨by rfl, ?y19QBQB⟩) ?_
                  case' y19QBQB => (intro w hSw; first | (go_simp; done) | (go_simp; with_reducible rfl))
                  (try simp only [Act.put, Qa, Qb, Qc, Qd, Qe, Qf])
                  refine tkH 20 (v := ?v20QBQB) rfl (.inl ⟨by rfl, ?y20QBQB⟩) ?_
                  case' y20QBQB => (intro w hSw; first | (go_simp; done) | (go_simp; with_reducible rfl))
                  (try simp only [Act.put, Qa, Qb, Qc, Qd, Qe, Qf])
                  refine tkH 21 (v := ?v21QBQB) rfl (.inl ⟨by rfl, ?y21QBQB⟩) ?_
                  case' y21QBQB => (intro w hSw; first | (go_simp; done) | (go_simp; with_reducible rfl))
                  (try simp only [Act.put, Qa, Qb, Qc, Qd, Qe, Qf])
                  refine tkH 22 (v := ?v22QBQB) rfl (.inl ⟨by rfl, ?y22QBQB⟩) ?_
                  case' y22QBQB => (intro w hSw; first | (go_simp; done) | (go_simp; with_reducible rfl))
                  (try simp only [Act.put, Qa, Qb, Qc, Qd, Qe, Qf])
                  refine tkH 23 (v := ?v23QBQB) rfl (.inl ⟨by rfl, ?y23QBQB⟩) ?_
                  case' y23QBQB => (intro w hSw; first | (go_simp; done) | (go_simp; with_reducible rfl))
                  (try simp only [Act.put, Qa, Qb, Qc, Qd, Qe, Qf])
                  refine tkH 24 (v := ?v24QBQB) rfl (.inl ⟨by rfl, ?y24QBQB⟩) ?_
                  case' y24QBQB => (intro w hSw; first | (go_simp; done) | (go_simp; with_reducible rfl))
                  (try simp only [Act.put, Qa, Qb, Qc, Qd, Qe, Qf])
                  refine wpAnyH_ready (rs := [25]) (by kernel_rfl) (by simp) ?_
                  refine AllReadyH.cons (o := _) rfl (fun K25QB hK25QB => ?_) AllReadyH.nil
                  go_simp
                  (have hb1 : Below wd.heap.size wd (wd.drew.alloc (.cells #[.int .i64 (c : Int), .bool true, .bool false, .int .i64 V.k, .int .i64 V.n, .slice va2 vn2 vc2] 46)) := zAe (zAb wd.heap.size wd) _; have ow1 := zAf HXD.out (zAc hb1) (Qg _))
                  refine hK25QB.out _ _ ?hS25QBQB (fun hHeld25QB => ?_)
                  case' hS25QBQB => ((try dsimp only); exact ⟨HCZ.out _ hb1, zAa HBD.out hb1⟩)
                  clear hK25QB K25QB
                  (try simp only [Act.put, Qa, Qb, Qc, Qd, Qe, Qf])
                  refine wpAnyH_ready (rs := [26]) (by kernel_rfl) (by simp) ?_
                  refine AllReadyH.cons (o := _) rfl (fun K26QB hK26QB => ?_) AllReadyH.nil
                  (refine zAh zEx (by rfl) _ _ (by rfl) W17.heap.size _ _ _ (by rfl) ow1 _ _ (by rfl) (zAv (Jf wd.drew (.cells #[.int .i64 (c : Int), .bool true, .bool false, .int .i64 V.k, .int .i64 V.n, .slice va2 vn2 vc2] 46)) 6) (fun u hu => by rw [Qh.1 hu]; refine ⟨rfl, fun z hz => ?_⟩; simp only [Qr, Qt, or_false] at hz; rcases hz with rfl | rfl | rfl | rfl | rfl | rfl <;> rfl) (by simp; omega) (Qj HBD.out.size hb1.size) (q + 1) rfl ?_; intro xa4 xc4 w4 ow4 hg4 hn4; have hb4 : Below W17.heap.size W17 w4 := (zAa HBD.out hb1).grown hg4 (Qj HBD.out.size hb1.size) (zAg ow1))
                  refine hK26QB.out _ _ ?hS26QBQB (fun hHeld26QB => ?_)
                  case' hS26QBQB => ((try dsimp only); exact ⟨HCG.out w4 hb4 ((hg4.block VB (Qw hvlt hb1.size) (fun e => HNV.out e.symm)).trans (hb1.block VB hvlt)), hb4⟩)
                  clear hK26QB K26QB
                  (try simp only [Act.put, Qa, Qb, Qc, Qd, Qe, Qf])
                  refine tkH 27 (v := ?v27QBQB) rfl (.inl ⟨by rfl, ?y27QBQB⟩) ?_
                  case' y27QBQB => (intro w hSw; first | (go_simp; done) | (go_simp; with_reducible rfl))
                  (try simp only [Act.put, Qa, Qb, Qc, Qd, Qe, Qf])
                  refine wpAnyH_done (by kernel_rfl) ?_ _
                  refine NoPanic.normal ?_
                  have HPU := hid (zEy HXD.out HFD.out HVF.out hb1 hg4 hn4)
                  have HOW := hid ow4
                  have HB4 := hid hb4
                  clear hb1 ow1 hg4 hn4 ow4 hb4
                  go_wp2_with fail
                  go_roundw
                  case rel =>
                   refine ⟨q + 1, xa4, xc4, xs ++ [⟨(c : Int), true, (⟨false, V.k, V.n, V.b⟩ : Vc), .slice va2 vn2 vc2⟩], by omega, by omega, by go_num, rfl, by rw [Qp, HXL.out]; rfl, fun y hy => ?_, fun y hy => ?_, ?_, HB4.out⟩
                   ·rcases Qk.1 hy with h | h
                    ·exact HXB.out y h
                    ·rw [Qh.1 h]; exact ⟨HVS.out.1, HVS.out.2, hc00, hci, by simp⟩
                   ·rcases Qk.1 hy with h | h
                    ·exact HPU.out.1 y h
                    ·rw [Qh.1 h]; exact HPU.out.2
                   ·rw [Qn, Qu]
                    exact HOW.out
                  case measure => simp [intOf]; omega
                 ·have hbit0 : rn / 1048576 % 2 = 0 := by omega
                  go_upto_region 27 with (fail)
                  refine wp_region_noPanic ?_
                  refine wp_region_held_drew (S := fun w' => (w'.cell? ⟨SB, 0, none⟩ = some (.slice (some ⟨cb, co, none⟩) m sc) ∧ w'.cell? ⟨cb, co + c * 3, none⟩ = some (.string C.n) ∧ w'.cell? ⟨cb, co + c * 3 + 1, none⟩ = some (.int .i64 1) ∧ w'.cell? ⟨cb, co + c * 3 + 2, none⟩ = some (.bool C.u) ∧ w'.cell? ⟨lb, lo + q, none⟩ = some (.int .i64 rn) ∧ w'.cell? ⟨VB, 0, none⟩ = some (.bool false) ∧ w'.cell? ⟨VB, 1, none⟩ = some (.int .i64 V.k) ∧ w'.cell? ⟨VB, 2, none⟩ = some (.int .i64 V.n) ∧ w'.cell? ⟨VB, 3, none⟩ = some (.slice va2 vn2 vc2)) ∧ Below W17.heap.size W17 w') (by kernel_rfl) ?hS0QC (fun hHeld => ?go0QC)
                  case' hS0QC => ((try dsimp only); exact ⟨HCZ.out _ (zAb wd.heap.size wd), zAa HBD.out (zAb wd.heap.size wd)⟩)
                  refine tkH 0 (v := ?v0QCQC) rfl (.inl ⟨by rfl, ?y0QCQC⟩) ?_
                  case' y0QCQC => (intro w hSw; first | (go_simp; done) | (go_simp; with_reducible rfl))
                  (try simp only [Act.put, Qa, Qb, Qc, Qd, Qe, Qf])
                  refine tkH 1 (v := ?v1QCQC) rfl (.inl ⟨by rfl, ?y1QCQC⟩) ?_
                  case' y1QCQC => (intro w hSw; first | (go_simp; done) | (go_simp; with_reducible rfl))
                  (try simp only [Act.put, Qa, Qb, Qc, Qd, Qe, Qf])
                  refine tkH 2 (v := ?v2QCQC) rfl (.inl ⟨by rfl, ?y2QCQC⟩) ?_
                  case' y2QCQC => (intro w hSw; first | (go_simp; done) | (go_simp; with_reducible rfl))
                  (try simp only [Act.put, Qa, Qb, Qc, Qd, Qe, Qf])
                  refine tkH 3 (v := ?v3QCQC) rfl (.inl ⟨by rfl, ?y3QCQC⟩) ?_
                  case' y3QCQC => (intro w hSw; first | (go_simp; done) | (go_simp; with_reducible rfl))
                  (try simp only [Act.put, Qa, Qb, Qc, Qd, Qe, Qf])
                  refine tkH 4 (v := ?v4QCQC) rfl (.inl ⟨by rfl, ?y4QCQC⟩) ?_
                  case' y4QCQC => (intro w hSw; first | (go_simp; done) | (go_simp; with_reducible rfl))
                  (try simp only [Act.put, Qa, Qb, Qc, Qd, Qe, Qf])
                  refine tkH 5 (v := ?v5QCQC) rfl (.inl ⟨by rfl, ?y5QCQC⟩) ?_
                  case' y5QCQC => (intro w hSw; first | (go_simp; done) | (go_simp; with_reducible rfl))
                  (try simp only [Act.put, Qa, Qb, Qc, Qd, Qe, Qf])
                  refine tkH 6 (v := ?v6QCQC) rfl (.inl ⟨by rfl, ?y6QCQC⟩) ?_
                  case' y6QCQC => (intro w hSw; first | (go_simp; done) | (go_simp; with_reducible rfl))
                  (try simp only [Act.put, Qa, Qb, Qc, Qd, Qe, Qf])
                  refine tkH 7 (v := ?v7QCQC) rfl (.inl ⟨by rfl, ?y7QCQC⟩) ?_
                  case' y7QCQC => (intro w hSw; first | (go_simp; done) | (go_simp; with_reducible rfl))
                  (try simp only [Act.put, Qa, Qb, Qc, Qd, Qe, Qf])
                  refine tkH 8 (v := ?v8QCQC) rfl (.inl ⟨by rfl, ?y8QCQC⟩) ?_
                  case' y8QCQC => (intro w hSw; first | (go_simp; done) | (go_simp; with_reducible rfl))
                  (try simp only [Act.put, Qa, Qb, Qc, Qd, Qe, Qf])
                  refine tkH 9 (v := ?v9QCQC) rfl (.inl ⟨by rfl, ?y9QCQC⟩) ?_
                  case' y9QCQC => (intro w hSw; first | (go_simp; done) | (go_simp; with_reducible rfl))
                  (try simp only [Act.put, Qa, Qb, Qc, Qd, Qe, Qf])
                  refine tkH 10 (v := ?v10QCQC) rfl (.inl ⟨by rfl, ?y10QCQC⟩) ?_
                  case' y10QCQC => (intro w hSw; first | (go_simp; done) | (go_simp; with_reducible rfl))
                  (try simp only [Act.put, Qa, Qb, Qc, Qd, Qe, Qf])
                  refine tkH 11 (v := ?v11QCQC) rfl (.inl ⟨by rfl, ?y11QCQC⟩) ?_
                  case' y11QCQC => (intro w hSw; first | (go_simp; done) | (go_simp; with_reducible rfl))
                  (try simp only [Act.put, Qa, Qb, Qc, Qd, Qe, Qf])
                  refine tkH 12 (v := ?v12QCQC) rfl (.inl ⟨by rfl, ?y12QCQC⟩) ?_
                  case' y12QCQC => (intro w hSw; first | (go_simp; done) | (go_simp; with_reducible rfl))
                  (try simp only [Act.put, Qa, Qb, Qc, Qd, Qe, Qf])
                  refine tkH 13 (v := ?v13QCQC) rfl (.inl ⟨by rfl, ?y13QCQC⟩) ?_
                  case' y13QCQC => (intro w hSw; first | (go_simp; done) | (go_simp; with_reducible rfl))
                  (try simp only [Act.put, Qa, Qb, Qc, Qd, Qe, Qf])
                  refine tkH 14 (v := ?v14QCQC) rfl (.inl ⟨by rfl, ?y14QCQC⟩) ?_
                  case' y14QCQC => (intro w hSw; first | (go_simp; done) | (go_simp; with_reducible rfl))
                  (try simp only [Act.put, Qa, Qb, Qc, Qd, Qe, Qf])
                  refine tkH 15 (v := ?v15QCQC) rfl (.inl ⟨by rfl, ?y15QCQC⟩) ?_
                  case' y15QCQC => (intro w hSw; first | (go_simp; done) | (go_simp; with_reducible rfl))
                  (try simp only [Act.put, Qa, Qb, Qc, Qd, Qe, Qf])
                  refine tkH 16 (v := ?v16QCQC) rfl (.inl ⟨by rfl, ?y16QCQC⟩) ?_
                  case' y16QCQC => (intro w hSw; first | (go_simp; done) | (go_simp; with_reducible rfl))
                  (try simp only [Act.put, Qa, Qb, Qc, Qd, Qe, Qf])
                  refine tkH 17 (v := ?v17QCQC) rfl (.inl ⟨by rfl, ?y17QCQC⟩) ?_
                  case' y17QCQC => (intro w hSw; first | (go_simp; done) | (go_simp; with_reducible rfl))
                  (try simp only [Act.put, Qa, Qb, Qc, Qd, Qe, Qf])
                  refine tkH 18 (v := ?v18QCQC) rfl (.inl ⟨by rfl, ?y18QCQC⟩) ?_
                  case' y18QCQC => (intro w hSw; first | (go_simp; done) | (go_simp; with_reducible rfl))
                  (try simp only [Act.put, Qa, Qb, Qc, Qd, Qe, Qf])
                  refine tkH 19 (v := ?v19QCQC) rfl (.inl ⟨by rfl, ?y19QCQC⟩) ?_
                  case' y19QCQC => (intro w hSw; first | (go_simp; done) | (go_simp; with_reducible rfl))
                  (try simp only [Act.put, Qa, Qb, Qc, Qd, Qe, Qf])
                  refine tkH 20 (v := ?v20QCQC) rfl (.inl ⟨by rfl, ?y20QCQC⟩) ?_
                  case' y20QCQC => (intro w hSw; first | (go_simp; done) | (go_simp; with_reducible rfl))
                  (try simp only [Act.put, Qa, Qb, Qc, Qd, Qe, Qf])
                  refine tkH 21 (v := ?v21QCQC) rfl (.inl ⟨by rfl, ?y21QCQC⟩) ?_
                  case' y21QCQC => (intro w hSw; first | (go_simp; done) | (go_simp; with_reducible rfl))
                  (try simp only [Act.put, Qa, Qb, Qc, Qd, Qe, Qf])
                  refine tkH 22 (v := ?v22QCQC) rfl (.inl ⟨by rfl, ?y22QCQC⟩) ?_
                  case' y22QCQC => (intro w hSw; first | (go_simp; done) | (go_simp; with_reducible rfl))
                  (try simp only [Act.put, Qa, Qb, Qc, Qd, Qe, Qf])
                  refine tkH 23 (v := ?v23QCQC) rfl (.inl ⟨by rfl, ?y23QCQC⟩) ?_
                  case' y23QCQC => (intro w hSw; first | (go_simp; done) | (go_simp; with_reducible rfl))
                  (try simp only [Act.put, Qa, Qb, Qc, Qd, Qe, Qf])
                  refine tkH 24 (v := ?v24QCQC) rfl (.inl ⟨by rfl, ?y24QCQC⟩) ?_
                  case' y24QCQC => (intro w hSw; first | (go_simp; done) | (go_simp; with_reducible rfl))
                  (try simp only [Act.put, Qa, Qb, Qc, Qd, Qe, Qf])
                  refine wpAnyH_ready (rs := [25]) (by kernel_rfl) (by simp) ?_
                  refine AllReadyH.cons (o := _) rfl (fun K25QC hK25QC => ?_) AllReadyH.nil
                  go_simp
                  (have hb1 : Below wd.heap.size wd (wd.drew.alloc (.cells #[.int .i64 (c : Int), .bool false, .bool false, .int .i64 V.k, .int .i64 V.n, .slice va2 vn2 vc2] 46)) := zAe (zAb wd.heap.size wd) _; have ow1 := zAf HXD.out (zAc hb1) (Qg _))
                  refine hK25QC.out _ _ ?hS25QCQC (fun hHeld25QC => ?_)
                  case' hS25QCQC => ((try dsimp only); exact ⟨HCZ.out _ hb1, zAa HBD.out hb1⟩)
                  clear hK25QC K25QC
                  (try simp only [Act.put, Qa, Qb, Qc, Qd, Qe, Qf])
                  refine wpAnyH_ready (rs := [26]) (by kernel_rfl) (by simp) ?_
                  refine AllReadyH.cons (o := _) rfl (fun K26QC hK26QC => ?_) AllReadyH.nil
                  (refine zAh zEx (by rfl) _ _ (by rfl) W17.heap.size _ _ _ (by rfl) ow1 _ _ (by rfl) (zAv (Jf wd.drew (.cells #[.int .i64 (c : Int), .bool false, .bool false, .int .i64 V.k, .int .i64 V.n, .slice va2 vn2 vc2] 46)) 6) (fun u hu => by rw [Qh.1 hu]; refine ⟨rfl, fun z hz => ?_⟩; simp only [Qr, Qt, or_false] at hz; rcases hz with rfl | rfl | rfl | rfl | rfl | rfl <;> rfl) (by simp; omega) (Qj HBD.out.size hb1.size) (q + 1) rfl ?_; intro xa4 xc4 w4 ow4 hg4 hn4; have hb4 : Below W17.heap.size W17 w4 := (zAa HBD.out hb1).grown hg4 (Qj HBD.out.size hb1.size) (zAg ow1))
                  refine hK26QC.out _ _ ?hS26QCQC (fun hHeld26QC => ?_)
                  case' hS26QCQC => ((try dsimp only); exact ⟨HCG.out w4 hb4 ((hg4.block VB (Qw hvlt hb1.size) (fun e => HNV.out e.symm)).trans (hb1.block VB hvlt)), hb4⟩)
                  clear hK26QC K26QC
                  (try simp only [Act.put, Qa, Qb, Qc, Qd, Qe, Qf])
                  refine tkH 27 (v := ?v27QCQC) rfl (.inl ⟨by rfl, ?y27QCQC⟩) ?_
                  case' y27QCQC => (intro w hSw; first | (go_simp; done) | (go_simp; with_reducible rfl))
                  (try simp only [Act.put, Qa, Qb, Qc, Qd, Qe, Qf])
                  refine wpAnyH_done (by kernel_rfl) ?_ _
                  refine NoPanic.normal ?_
                  have HPU := hid (zEy HXD.out HFD.out HVF.out hb1 hg4 hn4)
                  have HOW := hid ow4
                  have HB4 := hid hb4
                  clear hb1 ow1 hg4 hn4 ow4 hb4
                  go_wp2_with fail
                  go_roundw
                  case rel =>
                   refine ⟨q + 1, xa4, xc4, xs ++ [⟨(c : Int), false, (⟨false, V.k, V.n, V.b⟩ : Vc), .slice va2 vn2 vc2⟩], by omega, by omega, by go_num, rfl, by rw [Qp, HXL.out]; rfl, fun y hy => ?_, fun y hy => ?_, ?_, HB4.out⟩
                   ·rcases Qk.1 hy with h | h
                    ·exact HXB.out y h
                    ·rw [Qh.1 h]; exact ⟨HVS.out.1, HVS.out.2, hc00, hci, by simp⟩
                   ·rcases Qk.1 hy with h | h
                    ·exact HPU.out.1 y h
                    ·rw [Qh.1 h]; exact HPU.out.2
                   ·rw [Qn, Qu]
                    exact HOW.out
                  case measure => simp [intOf]; omega
               ·cases hvu : V.u with
                | true =>
                 have HVF : Hid (Free (fun b => (Value.slice xa q xcc).ownBlock = some b) wd fun w' => OkV w' ((⟨true, V.k, V.n, V.b⟩ : Vc), .slice va2 vn2 vc2)) := HVF0
                 have HCG := hid (show ∀ w', Below W17.heap.size W17 w' -> w'.heap[VB]? = wd.heap[VB]? -> (w'.cell? ⟨SB, 0, none⟩ = some (.slice (some ⟨cb, co, none⟩) m sc) ∧ w'.cell? ⟨cb, co + c * 3, none⟩ = some (.string C.n) ∧ w'.cell? ⟨cb, co + c * 3 + 1, none⟩ = some (.int .i64 2) ∧ w'.cell? ⟨cb, co + c * 3 + 2, none⟩ = some (.bool C.u) ∧ w'.cell? ⟨lb, lo + q, none⟩ = some (.int .i64 rn) ∧ w'.cell? ⟨VB, 0, none⟩ = some (.bool true) ∧ w'.cell? ⟨VB, 1, none⟩ = some (.int .i64 V.k) ∧ w'.cell? ⟨VB, 2, none⟩ = some (.int .i64 V.n) ∧ w'.cell? ⟨VB, 3, none⟩ = some (.slice va2 vn2 vc2)) from fun w' h1 h2 => by obtain ⟨x0, x1, x2, x3, _⟩ := zA2 (h2.trans HVB.out); rw [hvu] at x0; obtain ⟨g0, g1, g2, g3, g4⟩ := HCW.out w' h1; exact ⟨g0, g1, g2, g3, g4, x0, x1, x2, x3⟩)
                 have HCZ := hid (show ∀ w', Below wd.heap.size wd w' -> (w'.cell? ⟨SB, 0, none⟩ = some (.slice (some ⟨cb, co, none⟩) m sc) ∧ w'.cell? ⟨cb, co + c * 3, none⟩ = some (.string C.n) ∧ w'.cell? ⟨cb, co + c * 3 + 1, none⟩ = some (.int .i64 2) ∧ w'.cell? ⟨cb, co + c * 3 + 2, none⟩ = some (.bool C.u) ∧ w'.cell? ⟨lb, lo + q, none⟩ = some (.int .i64 rn) ∧ w'.cell? ⟨VB, 0, none⟩ = some (.bool true) ∧ w'.cell? ⟨VB, 1, none⟩ = some (.int .i64 V.k) ∧ w'.cell? ⟨VB, 2, none⟩ = some (.int .i64 V.n) ∧ w'.cell? ⟨VB, 3, none⟩ = some (.slice va2 vn2 vc2)) from fun w' h => HCG.out w' (zAa HBD.out h) (h.block VB hvlt))
                 clear hvu hvb
                 go_upto_region 27 with (fail)
                 refine wp_region_noPanic ?_
                 refine wp_region_held_drew (S := fun w' => (w'.cell? ⟨SB, 0, none⟩ = some (.slice (some ⟨cb, co, none⟩) m sc) ∧ w'.cell? ⟨cb, co + c * 3, none⟩ = some (.string C.n) ∧ w'.cell? ⟨cb, co + c * 3 + 1, none⟩ = some (.int .i64 2) ∧ w'.cell? ⟨cb, co + c * 3 + 2, none⟩ = some (.bool C.u) ∧ w'.cell? ⟨lb, lo + q, none⟩ = some (.int .i64 rn) ∧ w'.cell? ⟨VB, 0, none⟩ = some (.bool true) ∧ w'.cell? ⟨VB, 1, none⟩ = some (.int .i64 V.k) ∧ w'.cell? ⟨VB, 2, none⟩ = some (.int .i64 V.n) ∧ w'.cell? ⟨VB, 3, none⟩ = some (.slice va2 vn2 vc2)) ∧ Below W17.heap.size W17 w') (by kernel_rfl) ?hS0QD (fun hHeld => ?go0QD)
                 case' hS0QD => ((try dsimp only); exact ⟨HCZ.out _ (zAb wd.heap.size wd), zAa HBD.out (zAb wd.heap.size wd)⟩)
                 refine tkH 0 (v := ?v0QDQD) rfl (.inl ⟨by rfl, ?y0QDQD⟩) ?_
                 case' y0QDQD => (intro w hSw; first | (go_simp; done) | (go_simp; with_reducible rfl))
                 (try simp only [Act.put, Qa, Qb, Qc, Qd, Qe, Qf])
                 refine tkH 1 (v := ?v1QDQD) rfl (.inl ⟨by rfl, ?y1QDQD⟩) ?_
                 case' y1QDQD => (intro w hSw; first | (go_simp; done) | (go_simp; with_reducible rfl))
                 (try simp only [Act.put, Qa, Qb, Qc, Qd, Qe, Qf])
                 refine tkH 2 (v := ?v2QDQD) rfl (.inl ⟨by rfl, ?y2QDQD⟩) ?_
                 case' y2QDQD => (intro w hSw; first | (go_simp; done) | (go_simp; with_reducible rfl))
                 (try simp only [Act.put, Qa, Qb, Qc, Qd, Qe, Qf])
                 refine tkH 3 (v := ?v3QDQD) rfl (.inl ⟨by rfl, ?y3QDQD⟩) ?_
                 case' y3QDQD => (intro w hSw; first | (go_simp; done) | (go_simp; with_reducible rfl))
                 (try simp only [Act.put, Qa, Qb, Qc, Qd, Qe, Qf])
                 refine tkH 4 (v := ?v4QDQD) rfl (.inl ⟨by rfl, ?y4QDQD⟩) ?_
                 case' y4QDQD => (intro w hSw; first | (go_simp; done) | (go_simp; with_reducible rfl))
                 (try simp only [Act.put, Qa, Qb, Qc, Qd, Qe, Qf])
                 refine tkH 5 (v := ?v5QDQD) rfl (.inl ⟨by rfl, ?y5QDQD⟩) ?_
                 case' y5QDQD => (intro w hSw; first | (go_simp; done) | (go_simp; with_reducible rfl))
                 (try simp only [Act.put, Qa, Qb, Qc, Qd, Qe, Qf])
                 refine tkH 6 (v := ?v6QDQD) rfl (.inl ⟨by rfl, ?y6QDQD⟩) ?_
                 case' y6QDQD => (intro w hSw; first | (go_simp; done) | (go_simp; with_reducible rfl))
                 (try simp only [Act.put, Qa, Qb, Qc, Qd, Qe, Qf])
                 refine tkH 7 (v := ?v7QDQD) rfl (.inl ⟨by rfl, ?y7QDQD⟩) ?_
                 case' y7QDQD => (intro w hSw; first | (go_simp; done) | (go_simp; with_reducible rfl))
                 (try simp only [Act.put, Qa, Qb, Qc, Qd, Qe, Qf])
                 refine tkH 8 (v := ?v8QDQD) rfl (.inl ⟨by rfl, ?y8QDQD⟩) ?_
                 case' y8QDQD => (intro w hSw; first | (go_simp; done) | (go_simp; with_reducible rfl))
                 (try simp only [Act.put, Qa, Qb, Qc, Qd, Qe, Qf])
                 refine tkH 9 (v := ?v9QDQD) rfl (.inl ⟨by rfl, ?y9QDQD⟩) ?_
                 case' y9QDQD => (intro w hSw; first | (go_simp; done) | (go_simp; with_reducible rfl))
                 (try simp only [Act.put, Qa, Qb, Qc, Qd, Qe, Qf])
                 refine tkH 10 (v := undef) rfl (.inr ⟨by rfl, rfl⟩) ?_
                 (try simp only [Act.put, Qa, Qb, Qc, Qd, Qe, Qf])
                 refine tkH 11 (v := undef) rfl (.inr ⟨by rfl, rfl⟩) ?_
                 (try simp only [Act.put, Qa, Qb, Qc, Qd, Qe, Qf])
                 refine tkH 12 (v := undef) rfl (.inr ⟨by rfl, rfl⟩) ?_
                 (try simp only [Act.put, Qa, Qb, Qc, Qd, Qe, Qf])
                 refine tkH 13 (v := ?v13QDQD) rfl (.inl ⟨by rfl, ?y13QDQD⟩) ?_
                 case' y13QDQD => (intro w hSw; first | (go_simp; done) | (go_simp; with_reducible rfl))
                 (try simp only [Act.put, Qa, Qb, Qc, Qd, Qe, Qf])
                 refine tkH 14 (v := ?v14QDQD) rfl (.inl ⟨by rfl, ?y14QDQD⟩) ?_
                 case' y14QDQD => (intro w hSw; first | (go_simp; done) | (go_simp; with_reducible rfl))
                 (try simp only [Act.put, Qa, Qb, Qc, Qd, Qe, Qf])
                 refine tkH 15 (v := undef) rfl (.inr ⟨by rfl, rfl⟩) ?_
                 (try simp only [Act.put, Qa, Qb, Qc, Qd, Qe, Qf])
                 refine tkH 16 (v := undef) rfl (.inr ⟨by rfl, rfl⟩) ?_
                 (try simp only [Act.put, Qa, Qb, Qc, Qd, Qe, Qf])
                 refine tkH 17 (v := undef) rfl (.inr ⟨by rfl, rfl⟩) ?_
                 (try simp only [Act.put, Qa, Qb, Qc, Qd, Qe, Qf])
                 refine tkH 18 (v := undef) rfl (.inr ⟨by rfl, rfl⟩) ?_
                 (try simp only [Act.put, Qa, Qb, Qc, Qd, Qe, Qf])
                 refine tkH 19 (v := undef) rfl (.inr ⟨by rfl, rfl⟩) ?_
                 (try simp only [Act.put, Qa, Qb, Qc, Qd, Qe, Qf])
                 refine tkH 20 (v := undef) rfl (.inr ⟨by rfl, rfl⟩) ?_
                 (try simp only [Act.put, Qa, Qb, Qc, Qd, Qe, Qf])
                 refine tkH 21 (v := undef) rfl (.inr ⟨by rfl, rfl⟩) ?_
                 (try simp only [Act.put, Qa, Qb, Qc, Qd, Qe, Qf])
                 refine tkH 22 (v := ?v22QDQD) rfl (.inl ⟨by rfl, ?y22QDQD⟩) ?_
                 case' y22QDQD => (intro w hSw; first | (go_simp; done) | (go_simp; with_reducible rfl))
                 (try simp only [Act.put, Qa, Qb, Qc, Qd, Qe, Qf])
                 refine tkH 23 (v := ?v23QDQD) rfl (.inl ⟨by rfl, ?y23QDQD⟩) ?_
                 case' y23QDQD => (intro w hSw; first | (go_simp; done) | (go_simp; with_reducible rfl))
                 (try simp only [Act.put, Qa, Qb, Qc, Qd, Qe, Qf])
                 refine tkH 24 (v := ?v24QDQD) rfl (.inl ⟨by rfl, ?y24QDQD⟩) ?_
                 case' y24QDQD => (intro w hSw; first | (go_simp; done) | (go_simp; with_reducible rfl))
                 (try simp only [Act.put, Qa, Qb, Qc, Qd, Qe, Qf])
                 refine wpAnyH_ready (rs := [25]) (by kernel_rfl) (by simp) ?_
                 refine AllReadyH.cons (o := _) rfl (fun K25QD hK25QD => ?_) AllReadyH.nil
                 go_simp
                 (have hb1 : Below wd.heap.size wd (wd.drew.alloc (.cells #[.int .i64 (c : Int), .bool false, .bool true, .int .i64 V.k, .int .i64 V.n, .slice va2 vn2 vc2] 46)) := zAe (zAb wd.heap.size wd) _; have ow1 := zAf HXD.out (zAc hb1) (Qg _))
                 refine hK25QD.out _ _ ?hS25QDQD (fun hHeld25QD => ?_)
                 case' hS25QDQD => ((try dsimp only); exact ⟨HCZ.out _ hb1, zAa HBD.out hb1⟩)
                 clear hK25QD K25QD
                 (try simp only [Act.put, Qa, Qb, Qc, Qd, Qe, Qf])
                 refine wpAnyH_ready (rs := [26]) (by kernel_rfl) (by simp) ?_
                 refine AllReadyH.cons (o := _) rfl (fun K26QD hK26QD => ?_) AllReadyH.nil
                 (refine zAh zEx (by rfl) _ _ (by rfl) W17.heap.size _ _ _ (by rfl) ow1 _ _ (by rfl) (zAv (Jf wd.drew (.cells #[.int .i64 (c : Int), .bool false, .bool true, .int .i64 V.k, .int .i64 V.n, .slice va2 vn2 vc2] 46)) 6) (fun u hu => by rw [Qh.1 hu]; refine ⟨rfl, fun z hz => ?_⟩; simp only [Qr, Qt, or_false] at hz; rcases hz with rfl | rfl | rfl | rfl | rfl | rfl <;> rfl) (by simp; omega) (Qj HBD.out.size hb1.size) (q + 1) rfl ?_; intro xa4 xc4 w4 ow4 hg4 hn4; have hb4 : Below W17.heap.size W17 w4 := (zAa HBD.out hb1).grown hg4 (Qj HBD.out.size hb1.size) (zAg ow1))
                 refine hK26QD.out _ _ ?hS26QDQD (fun hHeld26QD => ?_)
                 case' hS26QDQD => ((try dsimp only); exact ⟨HCG.out w4 hb4 ((hg4.block VB (Qw hvlt hb1.size) (fun e => HNV.out e.symm)).trans (hb1.block VB hvlt)), hb4⟩)
                 clear hK26QD K26QD
                 (try simp only [Act.put, Qa, Qb, Qc, Qd, Qe, Qf])
                 refine tkH 27 (v := ?v27QDQD) rfl (.inl ⟨by rfl, ?y27QDQD⟩) ?_
                 case' y27QDQD => (intro w hSw; first | (go_simp; done) | (go_simp; with_reducible rfl))
                 (try simp only [Act.put, Qa, Qb, Qc, Qd, Qe, Qf])
                 refine wpAnyH_done (by kernel_rfl) ?_ _
                 refine NoPanic.normal ?_
                 have HPU := hid (zEy HXD.out HFD.out HVF.out hb1 hg4 hn4)
                 have HOW := hid ow4
                 have HB4 := hid hb4
                 clear hb1 ow1 hg4 hn4 ow4 hb4
                 go_wp2_with fail
                 go_roundw
                 case rel =>
                  refine ⟨q + 1, xa4, xc4, xs ++ [⟨(c : Int), false, (⟨true, V.k, V.n, V.b⟩ : Vc), .slice va2 vn2 vc2⟩], by omega, by omega, by go_num, rfl, by rw [Qp, HXL.out]; rfl, fun y hy => ?_, fun y hy => ?_, ?_, HB4.out⟩
                  ·rcases Qk.1 hy with h | h
                   ·exact HXB.out y h
                   ·rw [Qh.1 h]; exact ⟨HVS.out.1, HVS.out.2, hc00, hci, by simp⟩
                  ·rcases Qk.1 hy with h | h
                   ·exact HPU.out.1 y h
                   ·rw [Qh.1 h]; exact HPU.out.2
                  ·rw [Qn, Qu]
                   exact HOW.out
                 case measure => simp [intOf]; omega
                | false =>
                 have HVF : Hid (Free (fun b => (Value.slice xa q xcc).ownBlock = some b) wd fun w' => OkV w' ((⟨false, V.k, V.n, V.b⟩ : Vc), .slice va2 vn2 vc2)) := HVF0
                 have HCG := hid (show ∀ w', Below W17.heap.size W17 w' -> w'.heap[VB]? = wd.heap[VB]? -> (w'.cell? ⟨SB, 0, none⟩ = some (.slice (some ⟨cb, co, none⟩) m sc) ∧ w'.cell? ⟨cb, co + c * 3, none⟩ = some (.string C.n) ∧ w'.cell? ⟨cb, co + c * 3 + 1, none⟩ = some (.int .i64 2) ∧ w'.cell? ⟨cb, co + c * 3 + 2, none⟩ = some (.bool C.u) ∧ w'.cell? ⟨lb, lo + q, none⟩ = some (.int .i64 rn) ∧ w'.cell? ⟨VB, 0, none⟩ = some (.bool false) ∧ w'.cell? ⟨VB, 1, none⟩ = some (.int .i64 V.k) ∧ w'.cell? ⟨VB, 2, none⟩ = some (.int .i64 V.n) ∧ w'.cell? ⟨VB, 3, none⟩ = some (.slice va2 vn2 vc2)) from fun w' h1 h2 => by obtain ⟨x0, x1, x2, x3, _⟩ := zA2 (h2.trans HVB.out); rw [hvu] at x0; obtain ⟨g0, g1, g2, g3, g4⟩ := HCW.out w' h1; exact ⟨g0, g1, g2, g3, g4, x0, x1, x2, x3⟩)
                 have HCZ := hid (show ∀ w', Below wd.heap.size wd w' -> (w'.cell? ⟨SB, 0, none⟩ = some (.slice (some ⟨cb, co, none⟩) m sc) ∧ w'.cell? ⟨cb, co + c * 3, none⟩ = some (.string C.n) ∧ w'.cell? ⟨cb, co + c * 3 + 1, none⟩ = some (.int .i64 2) ∧ w'.cell? ⟨cb, co + c * 3 + 2, none⟩ = some (.bool C.u) ∧ w'.cell? ⟨lb, lo + q, none⟩ = some (.int .i64 rn) ∧ w'.cell? ⟨VB, 0, none⟩ = some (.bool false) ∧ w'.cell? ⟨VB, 1, none⟩ = some (.int .i64 V.k) ∧ w'.cell? ⟨VB, 2, none⟩ = some (.int .i64 V.n) ∧ w'.cell? ⟨VB, 3, none⟩ = some (.slice va2 vn2 vc2)) from fun w' h => HCG.out w' (zAa HBD.out h) (h.block VB hvlt))
                 clear hvu hvb
                 go_upto_region 27 with (fail)
                 refine wp_region_noPanic ?_
                 refine wp_region_held_drew (S := fun w' => (w'.cell? ⟨SB, 0, none⟩ = some (.slice (some ⟨cb, co, none⟩) m sc) ∧ w'.cell? ⟨cb, co + c * 3, none⟩ = some (.string C.n) ∧ w'.cell? ⟨cb, co + c * 3 + 1, none⟩ = some (.int .i64 2) ∧ w'.cell? ⟨cb, co + c * 3 + 2, none⟩ = some (.bool C.u) ∧ w'.cell? ⟨lb, lo + q, none⟩ = some (.int .i64 rn) ∧ w'.cell? ⟨VB, 0, none⟩ = some (.bool false) ∧ w'.cell? ⟨VB, 1, none⟩ = some (.int .i64 V.k) ∧ w'.cell? ⟨VB, 2, none⟩ = some (.int .i64 V.n) ∧ w'.cell? ⟨VB, 3, none⟩ = some (.slice va2 vn2 vc2)) ∧ Below W17.heap.size W17 w') (by kernel_rfl) ?hS0QE (fun hHeld => ?go0QE)
                 case' hS0QE => ((try dsimp only); exact ⟨HCZ.out _ (zAb wd.heap.size wd), zAa HBD.out (zAb wd.heap.size wd)⟩)
                 refine tkH 0 (v := ?v0QEQE) rfl (.inl ⟨by rfl, ?y0QEQE⟩) ?_
                 case' y0QEQE => (intro w hSw; first | (go_simp; done) | (go_simp; with_reducible rfl))
                 (try simp only [Act.put, Qa, Qb, Qc, Qd, Qe, Qf])
                 refine tkH 1 (v := ?v1QEQE) rfl (.inl ⟨by rfl, ?y1QEQE⟩) ?_
                 case' y1QEQE => (intro w hSw; first | (go_simp; done) | (go_simp; with_reducible rfl))
                 (try simp only [Act.put, Qa, Qb, Qc, Qd, Qe, Qf])
                 refine tkH 2 (v := ?v2QEQE) rfl (.inl ⟨by rfl, ?y2QEQE⟩) ?_
                 case' y2QEQE => (intro w hSw; first | (go_simp; done) | (go_simp; with_reducible rfl))
                 (try simp only [Act.put, Qa, Qb, Qc, Qd, Qe, Qf])
                 refine tkH 3 (v := ?v3QEQE) rfl (.inl ⟨by rfl, ?y3QEQE⟩) ?_
                 case' y3QEQE => (intro w hSw; first | (go_simp; done) | (go_simp; with_reducible rfl))
                 (try simp only [Act.put, Qa, Qb, Qc, Qd, Qe, Qf])
                 refine tkH 4 (v := ?v4QEQE) rfl (.inl ⟨by rfl, ?y4QEQE⟩) ?_
                 case' y4QEQE => (intro w hSw; first | (go_simp; done) | (go_simp; with_reducible rfl))
                 (try simp only [Act.put, Qa, Qb, Qc, Qd, Qe, Qf])
                 refine tkH 5 (v := ?v5QEQE) rfl (.inl ⟨by rfl, ?y5QEQE⟩) ?_
                 case' y5QEQE => (intro w hSw; first | (go_simp; done) | (go_simp; with_reducible rfl))
                 (try simp only [Act.put, Qa, Qb, Qc, Qd, Qe, Qf])
                 refine tkH 6 (v := ?v6QEQE) rfl (.inl ⟨by rfl, ?y6QEQE⟩) ?_
                 case' y6QEQE => (intro w hSw; first | (go_simp; done) | (go_simp; with_reducible rfl))
                 (try simp only [Act.put, Qa, Qb, Qc, Qd, Qe, Qf])
                 refine tkH 7 (v := ?v7QEQE) rfl (.inl ⟨by rfl, ?y7QEQE⟩) ?_
                 case' y7QEQE => (intro w hSw; first | (go_simp; done) | (go_simp; with_reducible rfl))
                 (try simp only [Act.put, Qa, Qb, Qc, Qd, Qe, Qf])
                 refine tkH 8 (v := ?v8QEQE) rfl (.inl ⟨by rfl, ?y8QEQE⟩) ?_
                 case' y8QEQE => (intro w hSw; first | (go_simp; done) | (go_simp; with_reducible rfl))
                 (try simp only [Act.put, Qa, Qb, Qc, Qd, Qe, Qf])
                 refine tkH 9 (v := ?v9QEQE) rfl (.inl ⟨by rfl, ?y9QEQE⟩) ?_
                 case' y9QEQE => (intro w hSw; first | (go_simp; done) | (go_simp; with_reducible rfl))
                 (try simp only [Act.put, Qa, Qb, Qc, Qd, Qe, Qf])
                 refine tkH 10 (v := undef) rfl (.inr ⟨by rfl, rfl⟩) ?_
                 (try simp only [Act.put, Qa, Qb, Qc, Qd, Qe, Qf])
                 refine tkH 11 (v := undef) rfl (.inr ⟨by rfl, rfl⟩) ?_
                 (try simp only [Act.put, Qa, Qb, Qc, Qd, Qe, Qf])
                 refine tkH 12 (v := undef) rfl (.inr ⟨by rfl, rfl⟩) ?_
                 (try simp only [Act.put, Qa, Qb, Qc, Qd, Qe, Qf])
                 refine tkH 13 (v := ?v13QEQE) rfl (.inl ⟨by rfl, ?y13QEQE⟩) ?_
                 case' y13QEQE => (intro w hSw; first | (go_simp; done) | (go_simp; with_reducible rfl))
                 (try simp only [Act.put, Qa, Qb, Qc, Qd, Qe, Qf])
                 refine tkH 14 (v := ?v14QEQE) rfl (.inl ⟨by rfl, ?y14QEQE⟩) ?_
                 case' y14QEQE => (intro w hSw; first | (go_simp; done) | (go_simp; with_reducible rfl))
                 (try simp only [Act.put, Qa, Qb, Qc, Qd, Qe, Qf])
                 refine tkH 15 (v := undef) rfl (.inr ⟨by rfl, rfl⟩) ?_
                 (try simp only [Act.put, Qa, Qb, Qc, Qd, Qe, Qf])
                 refine tkH 16 (v := undef) rfl (.inr ⟨by rfl, rfl⟩) ?_
                 (try simp only [Act.put, Qa, Qb, Qc, Qd, Qe, Qf])
                 refine tkH 17 (v := undef) rfl (.inr ⟨by rfl, rfl⟩) ?_
                 (try simp only [Act.put, Qa, Qb, Qc, Qd, Qe, Qf])
                 refine tkH 18 (v := undef) rfl (.inr ⟨by rfl, rfl⟩) ?_
                 (try simp only [Act.put, Qa, Qb, Qc, Qd, Qe, Qf])
                 refine tkH 19 (v := undef) rfl (.inr ⟨by rfl, rfl⟩) ?_
                 (try simp only [Act.put, Qa, Qb, Qc, Qd, Qe, Qf])
                 refine tkH 20 (v := undef) rfl (.inr ⟨by rfl, rfl⟩) ?_
                 (try simp only [Act.put, Qa, Qb, Qc, Qd, Qe, Qf])
                 refine tkH 21 (v := undef) rfl (.inr ⟨by rfl, rfl⟩) ?_
                 (try simp only [Act.put, Qa, Qb, Qc, Qd, Qe, Qf])
                 refine tkH 22 (v := ?v22QEQE) rfl (.inl ⟨by rfl, ?y22QEQE⟩) ?_
                 case' y22QEQE => (intro w hSw; first | (go_simp; done) | (go_simp; with_reducible rfl))
                 (try simp only [Act.put, Qa, Qb, Qc, Qd, Qe, Qf])
                 refine tkH 23 (v := ?v23QEQE) rfl (.inl ⟨by rfl, ?y23QEQE⟩) ?_
                 case' y23QEQE => (intro w hSw; first | (go_simp; done) | (go_simp; with_reducible rfl))
                 (try simp only [Act.put, Qa, Qb, Qc, Qd, Qe, Qf])
                 refine tkH 24 (v := ?v24QEQE) rfl (.inl ⟨by rfl, ?y24QEQE⟩) ?_
                 case' y24QEQE => (intro w hSw; first | (go_simp; done) | (go_simp; with_reducible rfl))
                 (try simp only [Act.put, Qa, Qb, Qc, Qd, Qe, Qf])
                 refine wpAnyH_ready (rs := [25]) (by kernel_rfl) (by simp) ?_
                 refine AllReadyH.cons (o := _) rfl (fun K25QE hK25QE => ?_) AllReadyH.nil
                 go_simp
                 (have hb1 : Below wd.heap.size wd (wd.drew.alloc (.cells #[.int .i64 (c : Int), .bool false, .bool false, .int .i64 V.k, .int .i64 V.n, .slice va2 vn2 vc2] 46)) := zAe (zAb wd.heap.size wd) _; have ow1 := zAf HXD.out (zAc hb1) (Qg _))
                 refine hK25QE.out _ _ ?hS25QEQE (fun hHeld25QE => ?_)
                 case' hS25QEQE => ((try dsimp only); exact ⟨HCZ.out _ hb1, zAa HBD.out hb1⟩)
                 clear hK25QE K25QE
                 (try simp only [Act.put, Qa, Qb, Qc, Qd, Qe, Qf])
                 refine wpAnyH_ready (rs := [26]) (by kernel_rfl) (by simp) ?_
                 refine AllReadyH.cons (o := _) rfl (fun K26QE hK26QE => ?_) AllReadyH.nil
                 (refine zAh zEx (by rfl) _ _ (by rfl) W17.heap.size _ _ _ (by rfl) ow1 _ _ (by rfl) (zAv (Jf wd.drew (.cells #[.int .i64 (c : Int), .bool false, .bool false, .int .i64 V.k, .int .i64 V.n, .slice va2 vn2 vc2] 46)) 6) (fun u hu => by rw [Qh.1 hu]; refine ⟨rfl, fun z hz => ?_⟩; simp only [Qr, Qt, or_false] at hz; rcases hz with rfl | rfl | rfl | rfl | rfl | rfl <;> rfl) (by simp; omega) (Qj HBD.out.size hb1.size) (q + 1) rfl ?_; intro xa4 xc4 w4 ow4 hg4 hn4; have hb4 : Below W17.heap.size W17 w4 := (zAa HBD.out hb1).grown hg4 (Qj HBD.out.size hb1.size) (zAg ow1))
                 refine hK26QE.out _ _ ?hS26QEQE (fun hHeld26QE => ?_)
                 case' hS26QEQE => ((try dsimp only); exact ⟨HCG.out w4 hb4 ((hg4.block VB (Qw hvlt hb1.size) (fun e => HNV.out e.symm)).trans (hb1.block VB hvlt)), hb4⟩)
                 clear hK26QE K26QE
                 (try simp only [Act.put, Qa, Qb, Qc, Qd, Qe, Qf])
                 refine tkH 27 (v := ?v27QEQE) rfl (.inl ⟨by rfl, ?y27QEQE⟩) ?_
                 case' y27QEQE => (intro w hSw; first | (go_simp; done) | (go_simp; with_reducible rfl))
                 (try simp only [Act.put, Qa, Qb, Qc, Qd, Qe, Qf])
                 refine wpAnyH_done (by kernel_rfl) ?_ _
                 refine NoPanic.normal ?_
                 have HPU := hid (zEy HXD.out HFD.out HVF.out hb1 hg4 hn4)
                 have HOW := hid ow4
                 have HB4 := hid hb4
                 clear hb1 ow1 hg4 hn4 ow4 hb4
                 go_wp2_with fail
                 go_roundw
                 case rel =>
                  refine ⟨q + 1, xa4, xc4, xs ++ [⟨(c : Int), false, (⟨false, V.k, V.n, V.b⟩ : Vc), .slice va2 vn2 vc2⟩], by omega, by omega, by go_num, rfl, by rw [Qp, HXL.out]; rfl, fun y hy => ?_, fun y hy => ?_, ?_, HB4.out⟩
                  ·rcases Qk.1 hy with h | h
                   ·exact HXB.out y h
                   ·rw [Qh.1 h]; exact ⟨HVS.out.1, HVS.out.2, hc00, hci, by simp⟩
                  ·rcases Qk.1 hy with h | h
                   ·exact HPU.out.1 y h
                   ·rw [Qh.1 h]; exact HPU.out.2
                  ·rw [Qn, Qu]
                   exact HOW.out
                 case measure => simp [intOf]; omega
            ·have hdd := decide_eq_false hlt
             rw [hdd]
             clear hdd hlt
             obtain ⟨nx, rfl⟩ : ∃ nx, nx = q := ⟨_, rfl⟩
             obtain ⟨W23, rfl⟩ : ∃ W23 : World, W23 = wr := ⟨_, rfl⟩
             have HXS := hid (show ∀ w', Below W23.heap.size W23 w' -> RdS w' 6 (.slice xa nx xcc) (xs.map setC) from fun w' h => RdS.kept (zCb HXO.out (by rw [Qi, HXL.out]) (fun t ht => by obtain ⟨y, _, rfl⟩ := Qv.1 ht; rfl)) h)
             have HXV := hid (show ∀ w', Below W23.heap.size W23 w' -> ∀ y ∈ xs, OkV w' (y.v, y.s) from fun w' h y hy => ((HXF.out y hy).now).kept h)
             have HB0 := hid (show ∀ w', Below W23.heap.size W23 w' -> Below wo.heap.size wo w' from fun w' h => zAa HBO17.out h)
             have HCI2 := hid (show ∀ w', Below W23.heap.size W23 w' -> Rd w' (.slice ca nc cc) (cs.map (Value.int .i64)) from fun w' h => (Rd.of_owns HCO.out).kept (zAa HB13.out (zAa HB17.out h)))
             have HAV2 := hid (show ∀ w', Below W23.heap.size W23 w' -> RdS w' 2 (.slice aa gl ac) (ags.map fun a => [.int .i64 a.1, .int .i64 a.2]) from fun w' h => HAV.out w' (zAa HB17.out h))
             have HXE2 := hid (show ∀ w', Below W23.heap.size W23 w' -> RowsK ks w' (.slice oa nr oc) E from fun w' h => HXE.out w' (HB0.out w' h))
             have hcs : ∀ c ∈ cs, 0 <= c ∧ c < (ks.length : Int) := fun c hc => ⟨(HCB.out c hc).1, by rw [HKS.out]; exact (HCB.out c hc).2⟩
             obtain ⟨ks2, hk12, hkk2⟩ := (HXE2.out W23 (Ql _ _)).colsK cs hcs
             have HCS2 := hid hcs
             have HK12 := hid hk12
             have HKK2 := hid hkk2
             have HCL6 := hid (show cs.length <= 6 from by rw [HCL.out]; exact (by assumption))
             clear hcs hk12 hkk2
             have hx3 := HXE2.out W23 (Ql _ _)
             have HC1 := hid (zMv ks2 E cs (by have := hx3.le; omega) (by have := HCL6.out; omega) _ (.slice ca nc cc) W23 hx3.rowsIn hx3.rd (HCI2.out _ (Ql _ _)) HKK2.out)
             clear hx3
             go_wp2_with fail
             refine HC1.out.mono ?_
             rintro e Wd ⟨vd, rfl, Zd, zd1, zd2, zd3, hbd⟩
             have HD1 := hid zd1
             have HD2 := hid zd2
             have HD3 := hid zd3
             have HBd := hid hbd
             have hx4 := HXE2.out Wd hbd
             have HC2b := hid (zMx ks2 HK12.out E cs HKK2.out (by have := hx4.le; omega) (by have := HCL6.out; omega) _ (.slice ca nc cc) Wd hx4.rd (HCI2.out _ hbd) (fun x hx => ⟨hx4.el x hx, by have := hx4.len hx; have := hx4.wd; omega⟩) fun c hc => ⟨(HCS2.out c hc).1, fun x hx => by rw [hx4.len hx]; exact (HCS2.out c hc).2⟩)
             clear zd1 zd2 zd3 hbd hx4 HC1
             go_wp2_with fail
             refine HC2b.out.mono ?_
             rintro e We ⟨ve, rfl, Ze, ze1, ze2, ze3, ze4, hbe⟩
             have HBe := hid (zAa HBd.out hbe)
             have hsame := zGn HKK2.out (.refl _) HD1.out ze1 HD2.out ze2
             have hlen6 : ∀ r ∈ E.map (fun y => cs.map (atT y.row)), r.length <= 1000000 := fun r hr => by obtain ⟨y, _, rfl⟩ := Qv.1 hr; rw [Qi]; have := HCL6.out; omega
             have hEl := (HXE2.out _ HBe.out).le
             have HSM2 := hid (zDf Zd Ze vd ve We (by have h := HD1.out.length_eq; rw [Qi, Qi] at h; omega) (Rd.of_owns (HD3.out.kept hbe).1) ze3 (fun x hx => ⟨((HD3.out.kept hbe).2 x hx).rd, zFb HD1.out hlen6 x hx⟩) (fun x hx => ⟨ze4 x hx, zFb ze1 hlen6 x hx⟩) hsame)
             clear ze1 ze2 ze3 ze4 hbe hsame hlen6 hEl HC2b
             go_wp2_with fail
             refine HSM2.out.mono ?_
             rintro e Wf ⟨rfl, hbf⟩
             have HBf := hid (zAa HBe.out hbf)
             clear hbf HSM2
             have cs2 := HCR.out _ (HB0.out _ HBf.out)
             obtain ⟨c, hc, hc0, hcm⟩ : ∃ c : Int, (a3 % 256).tmod (m : Int) = c ∧ 0 <= c ∧ c < m := ⟨_, rfl, (HTB.out a3).1, (HTB.out a3).2⟩
             go_upto_region 31 with (fail)
             clear hc cs2
             obtain ⟨W5, hW5⟩ : ∃ W5 : World, W5 = Wf.alloc (.cells #[.int .i64 (-1), .int .i64 c] 3) := ⟨_, rfl⟩
             obtain ⟨IB, hIB⟩ : ∃ IB, IB = Wf.heap.size := ⟨_, rfl⟩
             have HIX := hid (show W5.heap[IB]? = some (.cells #[.int .i64 (-1), .int .i64 c] 3 (0, 0)) by rw [hW5, hIB]; exact Jf Wf _)
             have HB5 := hid (show Below W23.heap.size W23 W5 by rw [hW5]; exact zAa HBf.out (zAi Wf _))
             rw [<- hW5, <- hIB]
             clear hW5 hIB
             have HIC := hid (show ∀ w', Below W5.heap.size W5 w' -> w'.cell? ⟨IB, 0, none⟩ = some (.int .i64 (-1)) ∧ w'.cell? ⟨IB, 1, none⟩ = some (.int .i64 c) from fun w' h => by
              have h1 := (h.block IB (Jd.1 HIX.out).1).trans HIX.out
              exact ⟨by rw [Je w' IB 0 _ _ _ h1]; rfl, by rw [Je w' IB 1 _ _ _ h1]; rfl⟩)
             have HBB := hid (show ∀ w', Below W5.heap.size W5 w' -> Below W23.heap.size W23 w' from fun w' h => zAa HB5.out h)
             have HGA := hid (show ∀ a ∈ ags, 0 <= a.2 ∧ a.2 < (ks.length : Int) from fun a ha => ⟨(HGB.out a ha).2.1, by rw [HKS.out]; exact (HGB.out a ha).2.2⟩)
             go_wp2_with fail
             go_loopw [206] (fun i wr => ∃ k : Nat, k <= 2 ∧ i = .int .i64 (k : Int) ∧ Below W5.heap.size W5 wr) (fun i _ => 2 - (intOf i).toNat)
             case atStart => exact ⟨0, by omega, rfl, Ql _ _⟩
             case round =>
              obtain ⟨k, hk, rfl, hb⟩ := hrel
              have HBk := hid hb
              clear hb
              by_cases hltk : k < 2
              ·obtain ⟨g, hgc, hgr⟩ : ∃ g : Int, (g = -1 ∨ (0 <= g ∧ g < (ks.length : Int))) ∧ (k = 0 ∧ g = -1 ∨ k = 1 ∧ g = c) := by
                rcases (show k = 0 ∨ k = 1 by omega) with h | h
                ·exact ⟨-1, .inl rfl, .inl ⟨h, rfl⟩⟩
                ·exact ⟨c, .inr ⟨hc0, by rw [HKS.out]; exact hcm⟩, .inr ⟨h, rfl⟩⟩
               have HGC := hid hgc
               have ck : wr.cell? ⟨IB, k, none⟩ = some (.int .i64 g) := by
                have h := HIC.out _ HBk.out
                rcases hgr with ⟨h1, h2⟩ | ⟨h1, h2⟩
                ·rw [h1, h2]; exact h.1
                ·rw [h1, h2]; exact h.2
               have hkti : (k : Int) < 2 := by omega
               have hk0 : (0 : Int) <= (k : Int) := by omega
               have hk1 : IntKind.i64.wrap ((k : Int) + 1) = (k : Int) + 1 := Qq _ (by omega)
               have hx5 := HXE2.out _ (HBB.out _ HBk.out)
               have HG1 := hid (zM1 E g HGC.out ags (by have := HGL.out; omega) (fun a ha => (HGB.out a ha).1) _ (.slice aa gl ac) wr hx5 (HAV2.out _ (HBB.out _ HBk.out)))
               clear hgc hgr hx5
               go_wp2_with fail
               refine HG1.out.mono ?_
               rintro e1 W6 ⟨hout, hb6⟩
               have HOUT := hid hout
               have HB6 := hid (zAa HBk.out hb6)
               have HB66 := hid hb6
               have hx6 := HXE2.out _ (HBB.out _ HB6.out)
               have HG2 := hid (zJ9 ks hx6.k12 E hx6.kinds ags (by have := hx6.le; omega) (by have := HGL.out; omega) g (by rcases HGC.out with h | h; exact .inl h; exact .inr ⟨g.toNat, by omega, by omega⟩) _ (.slice aa gl ac) W6 hx6.rd (fun x hx => ⟨hx6.el x hx, by have := hx6.len hx; have := hx6.wd; omega⟩) (HAV2.out _ (HBB.out _ HB6.out)) fun a ha => hx6.agOK (HGB.out a ha).1 (HGA.out a ha).1 (HGA.out a ha).2)
               have HX6 := hid hx6
               clear hout hb6 hx6 ck HG1
               have HU := hid (show ∀ (T U : List El), T.map El.row = U.map El.row -> (∀ x ∈ T, x.2.length <= 2000) -> ∀ x ∈ U, x.2.length <= 1000000 from fun T U h h2 x hx => by
                have h3 : x.row ∈ T.map El.row := by rw [h]; exact List.mem_map_of_mem hx
                obtain ⟨y, hy, he⟩ := Qv.1 h3
                have h4 := congrArg Jb he
                unfold El.row at h4
                rw [Qi, Qi] at h4
                have := h2 y hy
                omega)
               obtain ⟨Ps, hPs, hcase⟩ := HOUT.out
               rcases hcase with ⟨v0, rfl, hrest⟩ | ⟨rfl, hrest⟩
               ·clear hPs hrest
                go_wp2_with fail
                refine HG2.out.mono ?_
                rintro e2 W7 ⟨hret, hb7⟩
                rcases zJl HX6.out HGC.out HGA.out HOUT.out hret (by have := HGL.out; omega) with ⟨v, T, v2, U, he1, rfl, hT, hU1, hU2, hTU, hTl, hTx⟩ | ⟨he1, _⟩
                ·obtain rfl : v0 = v := by simpa using he1
                 have HSM5 := hid (zDf T U v0 v2 W7 (by omega) (Rd.of_owns (hT.kept hb7).1) hU1 (fun x hx => ⟨((hT.kept hb7).2 x hx).rd, by have := hTx x hx; omega⟩) (fun x hx => ⟨hU2 x hx, HU.out T U hTU hTx x hx⟩) hTU)
                 have HB7 := hid (zAa HB6.out hb7)
                 clear hret hb7 hT hU1 hU2 hTU hTl hTx he1 HG2
                 go_wp2_with fail
                 refine HSM5.out.mono ?_
                 rintro e W8 ⟨rfl, hb8⟩
                 go_wp2_with fail
                 go_roundw
                 case rel => exact ⟨k + 1, by omega, by go_num, zAa HB7.out hb8⟩
                 case measure => simp [intOf]; omega
                ·simp at he1
               ·clear hPs hrest
                go_wp2_with fail
                refine HG2.out.mono ?_
                rintro e2 W7 ⟨hret, hb7⟩
                rcases zJl HX6.out HGC.out HGA.out HOUT.out hret (by have := HGL.out; omega) with ⟨v, T, v2, U, he1, _⟩ | ⟨_, rfl⟩
                ·simp at he1
                ·have HSM5 := hid (zDf [] [] (.slice none 0 0) (.slice none 0 0) W7 (by simp) (Rd.nil _) (Rd.nil _) (fun x hx => by cases hx) (fun x hx => by cases hx) rfl)
                 have HB7 := hid (zAa HB6.out hb7)
                 clear hret hb7 HG2
                 go_wp2_with fail
                 refine HSM5.out.mono ?_
                 rintro e W8 ⟨rfl, hb8⟩
                 go_wp2_with fail
                 go_roundw
                 case rel => exact ⟨k + 1, by omega, by go_num, zAa HB7.out hb8⟩
                 case measure => simp [intOf]; omega
              ·have hkti : ¬ (k : Int) < 2 := by omega
               obtain ⟨W38, rfl⟩ : ∃ W38 : World, W38 = wr := ⟨_, rfl⟩
               have HB38 := hid (HBB.out _ HBk.out)
               have hnr : nr = (E.map Prod.fst).length := (zA4 (HXE2.out _ HB38.out).rd).1
               rw [Qi] at hnr
               have HNR := hid hnr
               have hnr40 : nr <= 40 := by rw [hnr]; exact (HXE2.out _ HB38.out).le
               clear hnr
               go_wp2_with fail
               go_loopw [236] (fun i wr => ∃ p : Nat, p <= nr ∧ i = .int .i64 (p : Int) ∧ Below W23.heap.size W23 wr) (fun i _ => nr - (intOf i).toNat)
               case atStart => exact ⟨0, by omega, rfl, HB38.out⟩
               case round =>
                obtain ⟨p, hp, rfl, hb⟩ := hrel
                have HBp := hid hb
                clear hb
                by_cases hltp : p < nr
                ·obtain ⟨x, hx⟩ : ∃ x, E[p]? = some x := ⟨_, Qx (by rw [<- HNR.out]; exact hltp)⟩
                 have hxm := Jc hx
                 have hx7 := HXE2.out _ HBp.out
                 obtain ⟨rb, ro, hra, hrc⟩ := (zA4 hx7.rd).2 (by omega)
                 subst hra
                 obtain ⟨xa5, xc5, hxs⟩ := zAl (hx7.el x hxm).1
                 obtain ⟨xm5, hxn⟩ : ∃ xm, xm = (x.2.map cellsV).length := ⟨_, rfl⟩
                 rw [<- hxn] at hxs
                 have cx5 : wr.cell? ⟨rb, ro + p, none⟩ = some (.slice xa5 xm5 xc5) := hrc p _ hltp (by rw [Ja, hx, <- hxs]; rfl)
                 have hl5 : x.2.length <= 6 := by rw [hx7.len hxm]; exact hx7.wd
                 have HSE1 := hid (zO4 x xs (by rw [HXL.out]; omega) wr (hx7.el x hxm) (by omega) (fun t ht => ⟨(hx7.small x hxm t ht).1, by have := (hx7.small x hxm t ht).2; omega⟩) (.slice xa nx xcc) (HXS.out _ HBp.out) fun y hy => ⟨HXV.out _ HBp.out y hy, (HXB.out y hy).1, by have := (HXB.out y hy).2.1; omega⟩)
                 have HSE2 := hid (show ∀ w', Below W23.heap.size W23 w' -> _ from fun w' h => zN7 x xs (by rw [HXL.out]; omega) w' ((HXE2.out _ h).el x hxm) (by omega) (fun t ht => (hx7.small x hxm t ht).1) (.slice xa nx xcc) (HXS.out _ h) fun y hy => ⟨HXV.out _ h y hy, (HXB.out y hy).1, ⟨(HXB.out y hy).2.2.1, by rw [hx7.len hxm, HKS.out]; exact (HXB.out y hy).2.2.2.1⟩, (HXB.out y hy).2.2.2.2⟩)
                 rw [hxs] at HSE1 HSE2
                 have hpi : (p : Int) < (nr : Int) := by omega
                 have hp0 : (0 : Int) <= (p : Int) := by omega
                 have hp1 : IntKind.i64.wrap ((p : Int) + 1) = (p : Int) + 1 := Qq _ (by omega)
                 have HRL5 := hid (show x.row.length <= 6 from by unfold El.row; rw [Qi]; exact hl5)
                 clear hx hxm hx7 hrc hxs hxn hl5
                 cases hst : setsT x.row xs with
                 | none =>
                  rw [hst] at HSE1 HSE2
                  clear hst
                  go_wp2_with fail
                  refine HSE1.out.mono ?_
                  rintro e Wg ⟨hret, hbg⟩
                  obtain rfl : e = .returned (.tuple #[.slice none 0 0, .bool false]) := hret
                  have HBg := hid (zAa HBp.out hbg)
                  clear hbg cx5 HSE1
                  go_wp2_with fail
                  refine (HSE2.out _ HBg.out).mono ?_
                  rintro e Wh ⟨hret, hbh⟩
                  obtain rfl : e = .returned (.tuple #[.slice none 0 0, .bool false]) := hret
                  have HBh := hid (zAa HBg.out hbh)
                  have HSR := hid (zEo (.slice none 0 0) (.slice none 0 0) [] [] Wh ⟨[], rfl, ⟨RdS.nil _ _, fun t ht => by cases ht⟩⟩ ⟨[], rfl, ⟨RdS.nil _ _, fun t ht => by cases ht⟩⟩ (by simp) (by simp))
                  rw [show sameR [] [] = true from rfl] at HSR
                  clear hbh HSE2
                  go_wp2_with fail
                  refine HSR.out.mono ?_
                  rintro e Wi ⟨rfl, hbi⟩
                  go_wp2_with fail
                  go_roundw
                  case rel => exact ⟨p + 1, by omega, by go_num, zAa HBh.out hbi⟩
                  case measure => simp [intOf]; omega
                 | some r =>
                  have hrl : r.length <= 1000000 := by rw [zIj _ _ _ hst]; have := HRL5.out; omega
                  rw [hst] at HSE1 HSE2
                  clear hst
                  go_wp2_with fail
                  refine HSE1.out.mono ?_
                  rintro e Wg ⟨⟨v1, l1, rfl, hra1, hl1, _⟩, hbg⟩
                  have HBg := hid (zAa HBp.out hbg)
                  have HRA1 := hid hra1
                  have HL1 := hid hl1
                  clear hbg cx5 HSE1 hra1 hl1
                  go_wp2_with fail
                  refine (HSE2.out _ HBg.out).mono ?_
                  rintro e Wh ⟨⟨v2, l2, rfl, hr2, hl2⟩, hbh⟩
                  have HBh := hid (zAa HBg.out hbh)
                  have HSR := hid (zEo v1 v2 r r Wh ⟨l1, HL1.out, (HRA1.out.above (zAc hbh) (Qg _)).rd⟩ ⟨l2, hl2, hr2⟩ hrl hrl)
                  rw [(zFr r r).2 rfl] at HSR
                  clear hbh HSE2 hr2 hl2
                  go_wp2_with fail
                  refine HSR.out.mono ?_
                  rintro e Wi ⟨rfl, hbi⟩
                  go_wp2_with fail
                  go_roundw
                  case rel => exact ⟨p + 1, by omega, by go_num, zAa HBh.out hbi⟩
                  case measure => simp [intOf]; omega
                ·have hpi : ¬ (p : Int) < (nr : Int) := by omega
                 go_wp2_with fail
                 refine (HAW.out _).mono ?_
                 rintro e Wh ⟨rfl, hbh⟩
                 go_wp2_with fail
                 go_ret
                 exact ⟨rfl, zAa (HBW.out _ (HB0.out _ HBp.out)) hbh⟩
end Go.Proofs.Ytnfjdoeemnhkbaa
