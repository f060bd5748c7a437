import Derived.Test.YtmpgnjhgegbdkaaGreatBcola
import Derived.Test.YtmpgnjhgegbdkaaGreatIcole
import Derived.Test.YtmpgnjhgegbdkaaGreatIcoli
set_option linter.unusedVariables false
set_option linter.unusedSimpArgs false
set_option maxRecDepth 100000
set_option maxHeartbeats 8000000
open Go.Lib (hid)
namespace Go.Proofs.YtmpgnjhgegbdkaaGreat.Bc
open Go.RowKit
open Go.RowKit.Below renaming refl -> Qa
open _root_.List renaming length -> Qb, length_map -> Qc, mem_of_getElem? -> Qe, replicate -> Qf, length_append -> Qh, length_eq_zero_iff -> Qk, length_take -> Ql, map_set -> Qm, getElem?_eq_getElem -> Qn, mem_cons_self -> Qo, getElem?_cons_succ -> Qp, mem_replicate -> Qr, getD_eq_getElem?_getD -> Qs, length_cons -> Qt
open _root_.Nat renaming le_refl -> Qd, zero_le -> Qj
open Go.IntWalk renaming i64_in -> Qg
open _root_.Array renaming getElem?_eq_some_iff -> Qi
open _root_.Int renaming toNat_natCast -> Qq
open Go renaming heap_setCell_same -> Qu, heap_alloc_new -> Qv
theorem zCp {left : List Nat} {bad : Bool} : ∀ (q n : Nat), q <= n -> rdWords q left bad = none -> rdWords n left bad = none
 | q, 0, h, hq => by
   have : q = 0 := by omega
   subst this; exact hq
 | q, n + 1, h, hq => by
  by_cases e : q = n + 1
  ·subst e; exact hq
  ·rw [rdWords, zCp q n (by omega) hq]
def RetW (base r : Nat) (o : Option (List By × List Nat × Bool)) (e : Ending) (w' : World) : Prop := match o with
 | some p => ∃ v ps, e = .returned (.tuple #[v, .bool (!p.2.2)]) ∧ OwnE base w' v ps ∧ xs ps = p.1 ∧ (∀ x ∈ p.1, Fit x) ∧ IsR w' r p.2.1 p.2.2 ∧ (∀ x ∈ p.2.1, x < 256) ∧ p.2.1.length <= 1000000
 | none => e = .returned (.tuple #[.slice none 0 0, .bool false])
def wordNo (ws : List By) (z : By) (bad : Bool) : Bool := bad || match ws.getLast? with
 | some y => decide (¬ ltB y z)
 | none => false
theorem zDm (ws : List By) (z : By) (bad : Bool) : wordNo ws z bad = true ↔ (bad = true ∨ ∃ y, ws.getLast? = some y ∧ ¬ ltB y z) := by
 unfold wordNo
 cases h : ws.getLast? with
 | none => simp
 | some y => simp
theorem zGf (r : Nat) (left : List Nat) (bad : Bool) (c : Nat) (w : World) (h : IsR w r left bad) (h256 : ∀ x ∈ left, x < 256) (hbig : left.length <= 1000000) (hc : c <= 65535) :
  Calls Tryz.prog 185 #[.agg #[.func (.func 168) #[] #[], .func (.func 169) #[] #[], .func (.func 152) #[] #[], .func (.func 77) #[] #[]], .pointer (some ⟨r, 0, none⟩), .int .i64 (c : Int)] w fun e w' => RetW w.heap.size r (rdWords c left bad) e w' ∧ w.grownBy w' (some r) := by
 have hrl := h.lt
 have H := hid h
 have H256 := hid h256
 clear h h256
 go_enter Tryz.func185, Tryz.ntmps185
 go_upto_region 1 with (fail)
 obtain ⟨W1, hW1⟩ : ∃ W1 : World, W1 = w.alloc (.cells #[.func (.func 168) #[] #[], .func (.func 169) #[] #[], .func (.func 152) #[] #[], .func (.func 77) #[] #[]] 192) := ⟨_, rfl⟩
 obtain ⟨X, hX⟩ : ∃ X, X = w.heap.size := ⟨_, rfl⟩
 have hxb : W1.heap[X]? = some (.cells #[.func (.func 168) #[] #[], .func (.func 169) #[] #[], .func (.func 152) #[] #[], .func (.func 77) #[] #[]] 192 (0, 0)) := by rw [hW1, hX]; exact Qv w _
 have HB1 := hid (show Below w.heap.size w W1 by rw [hW1]; exact zAd w _)
 rw [<- hW1, <- hX]
 have HXX := hid (show X = w.heap.size ∧ X < W1.heap.size from ⟨hX, (Qi.1 hxb).1⟩)
 have HX := hid fun (w' : World) (h : Below W1.heap.size W1 w') => zAv ((h.block X HXX.out.2).trans hxb)
 clear hW1 hX hxb
 have HRB := hid (IsRB.mono (zEl (H.out.kept HB1.out)) (Qd _))
 have HX2 := hid (show ∀ wr : World, W1.grownBy wr (some r) -> wr.cell? ⟨X, 1, none⟩ = some (.func (.func 169) #[] #[]) ∧ wr.cell? ⟨X, 2, none⟩ = some (.func (.func 152) #[] #[]) ∧ wr.cell? ⟨X, 3, none⟩ = some (.func (.func 77) #[] #[]) from fun wr hg => by
  have hne : ∀ i, some ((⟨X, i, none⟩ : Addr)).block ≠ some r := fun i => by rw [HXX.out.1]; simp; omega
  have h := HX.out W1 (Qa _ _)
  exact ⟨hg.cell h.2.1 (hne 1), hg.cell h.2.2.1 (hne 2), hg.cell h.2.2.2 (hne 3)⟩)
 have hrW : r < W1.heap.size := Nat.lt_of_lt_of_le hrl HB1.out.size
 have hc0 : (0 : Int) <= (c : Int) := by omega
 obtain ⟨ei, he1, he2, he3, he4⟩ := zC4
 obtain ⟨W2, hmk, hown2, hg2⟩ := run_make_own (P := Tryz.prog) W1 W1.heap.size 41 29 ei (.slice none 0 0) 1 Tryz.underlying41 he1 he2 he3 .i64 .i64 c (by rw [he4]; omega) (by unfold maxLen; omega) (Qd _)
 obtain ⟨mv, hmv⟩ : ∃ mv, mv = Value.slice (some ⟨W1.heap.size, 0, none⟩) 0 c := ⟨_, rfl⟩
 rw [<- hmv] at hmk hown2
 have HO2 := hid (zHg (show OwnR W1.heap.size W2 mv [] from hown2))
 have HG2 := hid (show W1.grownBy W2 (some r) from zB1 hg2)
 have HRB2 := hid (HRB.out.own hg2 (fun k e => by cases e) hrW)
 clear hown2 hg2 he1 he2 he3 he4 hmv
 go_upto_region 2 with (fail)
 clear hmk
 go_wp2_with fail
 go_loopw [8, 14] (fun v i wr => ∃ q : Nat, q <= c ∧ i = .int .i64 (q : Int) ∧ ∃ (ps : Row) (left1 : List Nat) (bad1 : Bool), rdWords q left bad = some (xs ps, left1, bad1) ∧ ps.length = q ∧ (∀ y ∈ xs ps, Fit y) ∧ OwnE W1.heap.size wr v ps ∧ IsRB W1.heap.size wr r left1 bad1 ∧ (∀ x ∈ left1, x < 256) ∧ left1.length <= 1000000 ∧ W1.grownBy wr (some r)) (fun _ i _ => c - (intOf i).toNat)
 case atStart => exact ⟨0, Qj _, rfl, [], left, bad, rfl, rfl, (fun y hy => by simp [xs] at hy), HO2.out, HRB2.out, H256.out, hbig, HG2.out⟩
 case round =>
  obtain ⟨q, hqc, rfl, ps, left1, bad1, hrd, hq, hfit, hown, hrb, hm1, hbl1, hgr⟩ := hrel
  obtain ⟨ao, cap, rfl⟩ := hown.row.shape
  rw [hq] at hown ⊢
  obtain ⟨l1, hl1x⟩ : ∃ l1, l1 = xs ps := ⟨_, rfl⟩
  rw [<- hl1x] at hrd hfit
  have HL1 := hid hl1x
  have HFIT := hid hfit
  have HQL := hid (show l1.length = q by rw [hl1x, zAt, hq])
  have HO := hid hown
  have HQ := hid hq
  have HRD := hid hrd
  have HRBQ := hid hrb
  have HG := hid hgr
  have HM1 := hid hm1
  have hszr : W1.heap.size <= wr.heap.size := hgr.size
  have hHW := HB1.out.size
  clear hown hrb hgr hm1 hrd hq hl1x hfit
  by_cases hlt : q < c
  ·have hlti : (q : Int) < (c : Int) := by omega
   have hq0 : (0 : Int) <= (q : Int) := by omega
   have hm3 := zB4 (bad := bad1) HM1.out
   have hbl3 := zB5 left1 bad1
   have hzf := zJt left1 bad1 HM1.out
   have HTK := hid (zHf W1.heap.size r left1 bad1 wr HRBQ.out HM1.out hbl1)
   obtain ⟨z, hz⟩ : ∃ z, z = (takeR left1 bad1).1 := ⟨_, rfl⟩
   obtain ⟨left3, hleft3⟩ : ∃ left3, left3 = (takeR left1 bad1).2.1 := ⟨_, rfl⟩
   obtain ⟨bad3, hbad3⟩ : ∃ bad3, bad3 = (takeR left1 bad1).2.2 := ⟨_, rfl⟩
   rw [<- hleft3] at hm3 hbl3
   rw [<- hz] at hzf
   have HZF := hid hzf
   rw [<- hz, <- hleft3, <- hbad3] at HTK
   have HM3 := hid hm3
   have hbig3 : left3.length <= 1000000 := by omega
   have hstep : rdWords (q + 1) left bad = if wordNo l1 z bad3 = true then none else some (l1 ++ [z], left3, bad3) := by
    rw [rdWords, HRD.out]
    simp only
    rw [<- hz, <- hbad3]
    have e3 : (takeR left1 bad1).2 = (left3, bad3) := by rw [hleft3, hbad3]
    rw [e3]
    by_cases hw : wordNo l1 z bad3 = true
    ·rw [if_pos hw, if_pos ((zDm _ _ _).1 hw)]
    ·rw [if_neg hw, if_neg (fun h => hw ((zDm _ _ _).2 h))]
   have HST := hid hstep
   have cf := (HX2.out wr HG.out).1
   clear hz hleft3 hbad3 hstep hm3 hbl3 HM1 hzf
   go_wp2_with fail
   refine HTK.out.mono ?_
   rintro e w4 ⟨zv, rfl, hu4, hrb4, hg4⟩
   obtain ⟨za, zc, rfl⟩ := hu4.shape
   have HU4 := hid hu4
   have HF4 := hid (fun a ha g hg => (HO.out.blocks a ha g hg).2)
   have HRB4 := hid hrb4
   have HO4 := hid (HO.out.keptR hg4 hrW)
   have HG4 := hid (show W1.grownBy w4 (some r) from zAc HG.out hg4)
   have cf2 := (HX2.out w4 HG4.out).2.1
   have hsz4 : W1.heap.size <= w4.heap.size := HG4.out.size
   have HOK := hid (show ∀ nq, Calls Tryz.prog 179 #[.pointer (some ⟨r, 0, none⟩)] (w4.drewN nq) fun e w' => e = .returned (.bool (!bad3)) ∧ w' = w4.drewN nq from fun nq => by
    refine (zDh r left3 bad3 _ (HRB4.out.kept (below_draws (Qa _ _) nq) hrW).isR).mono ?_
    rintro e w' ⟨rfl, rfl⟩
    exact ⟨rfl, rfl⟩)
   clear hrb4 hg4 cf HTK HRBQ HG HO hu4
   go_upto_region 6 with (fail)
   go_cut [39] (fun s wx => s = .bool (wordNo l1 z bad3) ∧ Below w4.heap.size w4 wx)
   case first =>
    cases bad3
    ·by_cases hq0' : q = 0
     ·have hgt : decide ((q : Int) > 0) = false := by rw [decide_eq_false_iff_not]; omega
      have hgt2 : decide (0 < q) = false := by rw [decide_eq_false_iff_not]; omega
      have hl0 : wordNo l1 z false = false := by
       have : l1 = [] := Qk.1 (by rw [HQL.out]; exact hq0')
       rw [this]; rfl
      have HL0 := hid hl0
      clear hl0
      go_quiet ((go_at_call 179; exact Calls.quiet_of_same (HOK.out _)))
      go_wp2_with fail
      go_meet
      exact ⟨by rw [HL0.out], below_draws (Qa _ _) _⟩
     ·have hgt : decide ((q : Int) > 0) = true := by rw [decide_eq_true_iff]; omega
      have hgt2 : decide (0 < q) = true := by rw [decide_eq_true_iff]; omega
      have hqp : (0 : Int) < (q : Int) := by omega
      have hqm : IntKind.i64.wrap ((q : Int) - 1) = ((q - 1 : Nat) : Int) := by rw [Qg _ (by omega)]; omega
      have hqm2 : (((q - 1 : Nat) : Int)).toNat = q - 1 := by omega
      have hqm3 : (0 : Int) <= ((q - 1 : Nat) : Int) := by omega
      have hqm4 : ((q - 1 : Nat) : Int) < (q : Int) := by omega
      have hqm5 : (q : Int) - 1 = ((q - 1 : Nat) : Int) := by omega
      obtain ⟨B, off, rfl, hcell⟩ := (zBo (by have h := HO4.out.row.rd; exact h)).2 (by omega)
      obtain ⟨va, vc, a, hat0, hel⟩ := zBp HO4.out.Els (q := q - 1) (by rw [HQ.out]; omega)
      have hx : w4.cell? ⟨B, off + (q - 1), none⟩ = some (.slice va (Qb a) vc) := hcell (q - 1) _ hat0
      have hat := zA8 hat0
      rw [<- HL1.out] at hat
      have HEL := hid hel
      have HFA := hid (HFIT.out a (Qe hat))
      have hlast : wordNo l1 z false = decide (¬ ltB a z) := by
       unfold wordNo
       rw [List.getLast?_eq_getElem?, HQL.out, hat]
       rfl
      have HL0 := hid hlast
      clear hcell hat hat0 hel hlast
      obtain ⟨cc, hcc⟩ : ∃ cc, cc = cmpB a z := ⟨_, rfl⟩
      have HCC := hid hcc
      have HC := hid fun w' (h : Below w4.heap.size w4 w') => zCd _ _ a z cc w' HCC.out.symm (HEL.out.kept h) (HU4.out.rd.kept h) HFA.out HZF.out
      by_cases haz : ¬ ltB a z
      ·have hge : (0 : Int) <= cc := by rw [hcc]; unfold ltB at haz; omega
       have hgeb : decide (cc ≥ 0) = true := by rw [decide_eq_true_iff]; exact hge
       have HAZ := hid haz
       clear hcc haz
       go_quiet ((first | (go_at_call 152; exact Calls.quiet_of_same (HC.out _ (by first | exact Qa _ _ | exact zAj (Qa _ _) _ | exact zAn (Qa _ _)))) | (go_at_call 179; exact Calls.quiet_of_same (HOK.out _))))
       go_wp2_with fail
       go_meet
       exact ⟨by rw [HL0.out]; congr 1; exact (decide_eq_true HAZ.out).symm, below_draws (Qa _ _) _⟩
      ·have hge : ¬ (0 : Int) <= cc := by rw [hcc]; unfold ltB at haz; omega
       have hgeb : decide (cc ≥ 0) = false := by rw [decide_eq_false_iff_not]; exact hge
       have HAZ := hid haz
       clear hcc haz
       go_quiet ((first | (go_at_call 152; exact Calls.quiet_of_same (HC.out _ (by first | exact Qa _ _ | exact zAj (Qa _ _) _ | exact zAn (Qa _ _)))) | (go_at_call 179; exact Calls.quiet_of_same (HOK.out _))))
       go_wp2_with fail
       go_meet
       exact ⟨by rw [HL0.out]; congr 1; exact (decide_eq_false HAZ.out).symm, below_draws (Qa _ _) _⟩
    ·go_quiet ((go_at_call 179; exact Calls.quiet_of_same (HOK.out _)))
     go_wp2_with fail
     go_meet
     exact ⟨rfl, below_draws (Qa _ _) _⟩
   case rest =>
    obtain ⟨rfl, hb5⟩ := hcut
    have HB5 := hid hb5
    obtain ⟨w5, hw5⟩ := zEm (zAb hb5 none)
    clear hb5
    rw [<- hw5] at HB5 ⊢
    have HO5 := hid (HO4.out.keptB HB5.out)
    have HU5 := hid (zBm HU4.out HB5.out)
    have HRB5 := hid (HRB4.out.kept HB5.out hrW)
    have HG5 := hid (show W1.grownBy w5 (some r) from zAc HG4.out (zAb HB5.out _))
    obtain ⟨S, hS⟩ : ∃ S, S = wordNo l1 z bad3 := ⟨_, rfl⟩
    have HSS := hid hS
    rw [<- hS] at HST ⊢
    have hszA : W1.heap.size <= w5.heap.size := HG5.out.size
    clear hS hw5 cf2 HO4 HRB4 HG4 HB5 hsz4 HOK HU4
    cases S
    ·have HST2 := hid (show rdWords (q + 1) left bad = some (l1 ++ [z], left3, bad3) from by rw [HST.out]; rfl)
     have HLEN := hid HQ.out
     have HOA := hid (show (w5.alloc (.cells #[.slice za (Qb z) zc] 29)).ownsRow W1.heap.size 29 1 (.slice ao q cap) q (vs ps) from by have h := World.ownsRow.alloc HO5.out.row (.cells #[.slice za (Qb z) zc] 29); rw [HQ.out] at h; exact h)
     have HLT := hid (zBa w5 #[.slice za (Qb z) zc] 29 1 rfl)
     have hszB : W1.heap.size <= (w5.alloc (.cells #[.slice za (Qb z) zc] 29)).heap.size := zA7 hszA _
     have HONE := hid (zEz (.slice za (Qb z) zc) rfl)
     go_wp2_with (at_builtin; go_must (refine zAf elmR rfl _ _ rfl W1.heap.size _ _ _ rfl HOA.out _ [[.slice za (Qb z) zc]] rfl HLT.out HONE.out (by simp; omega) hszB (q + 1) rfl ?_); intro ao9 cap9 w9 hown9 hgrow9 hnew9; have HO9 := hid hown9; have HG9 := hid hgrow9; have HN9 := hid hnew9; clear hown9 hgrow9 hnew9)
     go_roundw
     case rel =>
      have hg9 : w5.grownBy w9 (Value.slice ao q cap).ownBlock := zAc (zBz (World.grownBy_alloc w5 _ none)) HG9.out
      have hk9 : ∀ k, (Value.slice ao q cap).ownBlock = some k -> W1.heap.size <= k := zBw HO5.out.row
      refine ⟨q + 1, by omega, by go_num, ps ++ [(.slice za (Qb z) zc, z)], left3, bad3, by rw [zDv, <- HL1.out]; exact HST2.out, by rw [Qh, HQ.out]; rfl, ?_, ?_, HRB5.out.own hg9 hk9 hrW, HM3.out, hbig3, zDe (base := 0) HG5.out hg9 hk9⟩
      ·intro y hy
       rw [zDv, <- HL1.out] at hy
       rcases List.mem_append.1 hy with h | h
       ·exact HFIT.out y h
       ·rw [List.mem_singleton.1 h]; exact HZF.out
      ·refine HO5.out.snoc HU5.out hszr HF4.out ?_ hg9 ?_
       ·rw [HQ.out]
        have h := HO9.out
        simpa using h
       ·intro g hg
        rcases HN9.out g hg with h | h
        ·exact .inl h
        ·right; rw [h]; simp
     case measure => simp [intOf]; omega
    ·have HST2 := hid (zCp (q + 1) c (by omega) (show rdWords (q + 1) left bad = none from by rw [HST.out]; rfl))
     have HGW := hid (show w.grownBy w5 (some r) from zAc (zAb HB1.out _) HG5.out)
     go_wp2_with fail
     go_ret2
     rw [HST2.out]
     exact ⟨rfl, HGW.out⟩
  ·have hqc : q = c := by omega
   subst hqc
   have hlti : ¬ (q : Int) < (q : Int) := by omega
   have HGW := hid (show w.grownBy wr (some r) from zAc (zAb HB1.out _) HG.out)
   have HOK := hid (zDh r left1 bad1 wr HRBQ.out.isR)
   go_wp2_with fail
   refine HOK.out.mono ?_
   rintro e w5 ⟨rfl, rfl⟩
   go_wp2_with fail
   go_ret2
   rw [HRD.out]
   exact ⟨⟨_, ps, rfl, HO.out.mono hHW, HL1.out.symm, HFIT.out, HRBQ.out.isR, HM1.out, hbl1⟩, HGW.out⟩
def dictU (ws : List By) (o : Option (List Nat)) : Option (List By) := match o with
 | none => none
 | some ps => if allUsedT ps ws.length = true then some (ps.map fun p => ws.getD p []) else none
def dictW (c : Nat) (o : Option (List By × List Nat × Bool)) : Option (List By) := match o with
 | none => none
 | some p => if p.2.2 = true then none else dictU p.1 (unpackB p.2.1 (Lib.bitLen (p.1.length - 1) : Nat) (c : Int))
theorem zHa (c : Nat) (left : List Nat) (bad : Bool) : rdDict c left bad = if c < (numR left bad).1 then none else dictW c (rdWords (numR left bad).1 (numR left bad).2.1 (numR left bad).2.2) := by
 unfold rdDict
 split
 ·rfl
 ·cases rdWords (numR left bad).1 (numR left bad).2.1 (numR left bad).2.2 with
  | none => rfl
  | some p =>
   obtain ⟨ws, l2, b2⟩ := p
   show _ = if b2 = true then none else dictU ws (unpackB l2 (Lib.bitLen (ws.length - 1) : Nat) (c : Int))
   simp only
   split
   ·rfl
   ·cases unpackB l2 (Lib.bitLen (ws.length - 1) : Nat) (c : Int) with
    | none => rfl
    | some ps => rfl
def dictTo (ws : List By) (ps : List Nat) (c q : Nat) : List By := (ps.take q).map (fun p => ws.getD p []) ++ Qf (c - q) []
theorem zGh (ws : List By) {ps : List Nat} {c : Nat} (hc : ps.length = c) {q : Nat} (hq : q <= c) : (dictTo ws ps c q).length = c := by
 unfold dictTo
 rw [Qh, Qc, Ql, List.length_replicate]
 omega
theorem zFn (ws : List By) {ps : List Nat} {c : Nat} (hc : ps.length = c) {q p : Nat} (hq : q < c) (hp : ps[q]? = some p) : dictTo ws ps c (q + 1) = (dictTo ws ps c q).set q (ws.getD p []) := by
 unfold dictTo
 rw [List.take_add_one, hp, List.set_append, Qc, Ql, if_neg (by omega), show q - min q ps.length = 0 by omega, show c - q = (c - (q + 1)) + 1 by omega, List.replicate_succ, List.set_cons_zero]
 simp
theorem zC3 {left : List Nat} {bad : Bool} : ∀ (k : Nat) (ws : List By) (l1 : List Nat) (b1 : Bool), rdWords k left bad = some (ws, l1, b1) -> ws.length = k
 | 0, ws, l1, b1, h => by rw [rdWords] at h; simp only [Option.some.injEq, Prod.mk.injEq] at h; rw [<- h.1]; rfl
 | k + 1, ws, l1, b1, h => by
  rw [rdWords] at h
  cases hk : rdWords k left bad with
  | none => rw [hk] at h; cases h
  | some p =>
   obtain ⟨ws0, l0, b0⟩ := p
   rw [hk] at h
   simp only at h
   split at h
   ·cases h
   ·simp only [Option.some.injEq, Prod.mk.injEq] at h
    rw [<- h.1, Qh, zC3 k ws0 l0 b0 hk]
    rfl
theorem zIv (ps : Row) (k : Nat) (u : Value) (x : By) : vs (ps.set k (u, x)) = (vs ps).set k u := by unfold vs; rw [Qm]
theorem zSz (ps : Row) (k : Nat) (u : Value) (x : By) : xs (ps.set k (u, x)) = (xs ps).set k x := by unfold xs; rw [Qm]
theorem zPt {base g n cap k : Nat} {w : World} {ps : Row} (h : OwnR base w (.slice (some ⟨g, 0, none⟩) n cap) ps) (hk : k < ps.length) : ∃ u, w.cell? ⟨g, k, none⟩ = some u := by
 obtain ⟨_, _, hv⟩ := h.shape
 have hn : n = ps.length := by simp only [Value.slice.injEq] at hv; exact hv.2.1
 subst hn
 rw [World.ownsRow.cellAt h k (by omega)]
 exact ⟨_, Qn (by rw [zA1]; exact hk)⟩
theorem zHy {base g n cap : Nat} {w : World} {ps : Row} (h : OwnR base w (.slice (some ⟨g, 0, none⟩) n cap) ps) (k : Nat) : w.frozen? ⟨g, k, none⟩ = false := by
 obtain ⟨_, _, hv⟩ := h.shape
 have hn : n = ps.length := by simp only [Value.slice.injEq] at hv; exact hv.2.1
 subst hn
 exact World.ownsRow.frozenAt h k
theorem OwnE.set {base B g n cap k : Nat} {w : World} {u : Value} {ps : Row} {x : By} (h : OwnE base w (.slice (some ⟨g, 0, none⟩) n cap) ps) (hk : k < ps.length) (hu : OwnB B w u x) (hB : base <= B) (hf : ∀ a ∈ Value.slice (some ⟨g, 0, none⟩) n cap :: vs ps, ∀ b, a.ownBlock = some b -> b < B) :
  OwnE base (w.setCell ⟨g, k, none⟩ u) (.slice (some ⟨g, 0, none⟩) n cap) (ps.set k (u, x)) := by
 have hg : w.grownBy (w.setCell ⟨g, k, none⟩ u) (some g) := zAi _ _ _
 have hap := h.apart
 obtain ⟨_, _, hv⟩ := h.row.shape
 have hn : n = ps.length := by simp only [Value.slice.injEq] at hv; exact hv.2.1
 subst hn
 clear hv
 have hst := World.ownsRow.stored h.row k u
 refine ⟨OwnR.of (n := ps.length) (by rw [zIv]; exact hst.1), fun p hp => ?_, ?_⟩
 ·obtain ⟨i, hi⟩ := List.getElem?_of_mem hp
  rw [List.getElem?_set] at hi
  by_cases hki : k = i
  ·rw [if_pos hki] at hi
   split at hi
   ·cases hi
    refine World.ownsRow.kept (zAo hu hB) hg ?_
    cases e : u.ownBlock with
    | none => exact .inl rfl
    | some b =>
     right
     intro e2
     have h1 := hf _ Qo g rfl
     have h2 := zBd hu b e
     simp only [Option.some.injEq] at e2
     omega
   ·exact absurd hk (by assumption)
  ·rw [if_neg hki] at hi
   refine World.ownsRow.kept (h.els p (Qe hi)) hg ?_
   cases e : p.1.ownBlock with
   | none => exact .inl rfl
   | some b =>
    right
    intro e2
    simp only [Option.some.injEq] at e2
    subst e2
    have := hap 0 (i + 1) _ p.1 b rfl (by rw [Qp]; unfold vs; rw [List.getElem?_map, hi]; rfl) rfl e
    omega
 ·rw [zIv]
  have h1 := hap.set (k := k + 1) (u := u) (fun b hb i a hi ha e => by
   have h2 := hf a (Qe ha) b e
   have h3 := zBd hu b hb
   omega)
  exact h1
theorem zHb (r : Nat) (left : List Nat) (bad : Bool) (c : Nat) (w : World) (h : IsR w r left bad) (h256 : ∀ x ∈ left, x < 256) (hbig : left.length <= 1000000) (hc : c <= 65535) :
  Calls Tryz.prog 142 #[.agg #[.func (.func 168) #[] #[], .func (.func 169) #[] #[], .func (.func 152) #[] #[], .func (.func 77) #[] #[]], .pointer (some ⟨r, 0, none⟩), .int .i64 (c : Int)] w fun e w' => RetOpt w.heap.size (rdDict c left bad) e w' ∧ w.grownBy w' (some r) := by
 have hrl := h.lt
 have H := hid h
 have H256 := hid h256
 obtain ⟨O, hO⟩ : ∃ O, O = rdDict c left bad := ⟨_, rfl⟩
 rw [<- hO]
 have HOO := hid hO
 have hult := zDs left bad
 have hm2 := zEs (bad := bad) h256
 have hbl2 := zEt left bad
 obtain ⟨U, hU⟩ : ∃ U, U = (numR left bad).1 := ⟨_, rfl⟩
 obtain ⟨left2, hleft2⟩ : ∃ left2, left2 = (numR left bad).2.1 := ⟨_, rfl⟩
 obtain ⟨bad2, hbad2⟩ : ∃ bad2, bad2 = (numR left bad).2.2 := ⟨_, rfl⟩
 rw [<- hU] at hult
 rw [<- hleft2] at hm2 hbl2
 have HST := hid (show O = (if c < U then none else dictW c (rdWords U left2 bad2)) from by rw [hO, zHa, <- hU, <- hleft2, <- hbad2])
 have HNU := hid fun (w' : World) (h' : IsR w' r left bad) => (show Calls Tryz.prog 50 #[.pointer (some ⟨r, 0, none⟩)] w' fun e w'' => e = .returned (.int .u64 (U : Nat)) ∧ IsR w'' r left2 bad2 ∧ w'.grownBy w'' (some r) from by
  have h1 := zG3 r left bad w' h' h256 hbig
  rw [<- hU, <- hleft2, <- hbad2] at h1
  exact h1)
 have HM2 := hid hm2
 have hbig2 : left2.length <= 1000000 := by omega
 clear h h256 hO hU hleft2 hbad2 hm2 hbl2
 go_enter Tryz.func142, Tryz.ntmps142
 go_upto_region 1 with (fail)
 obtain ⟨W1, hW1⟩ : ∃ W1 : World, W1 = w.alloc (.cells #[.func (.func 168) #[] #[], .func (.func 169) #[] #[], .func (.func 152) #[] #[], .func (.func 77) #[] #[]] 192) := ⟨_, rfl⟩
 obtain ⟨X, hX⟩ : ∃ X, X = w.heap.size := ⟨_, rfl⟩
 have hxb : W1.heap[X]? = some (.cells #[.func (.func 168) #[] #[], .func (.func 169) #[] #[], .func (.func 152) #[] #[], .func (.func 77) #[] #[]] 192 (0, 0)) := by rw [hW1, hX]; exact Qv w _
 have HB1 := hid (show Below w.heap.size w W1 by rw [hW1]; exact zAd w _)
 rw [<- hW1, <- hX]
 have HXX := hid (show X = w.heap.size ∧ X < W1.heap.size from ⟨hX, (Qi.1 hxb).1⟩)
 have HX := hid fun (w' : World) (h : Below W1.heap.size W1 w') => zAv ((h.block X HXX.out.2).trans hxb)
 clear hW1 hX hxb
 have HX2 := hid (show ∀ wr : World, W1.grownBy wr (some r) -> wr.cell? ⟨X, 0, none⟩ = some (.func (.func 168) #[] #[]) ∧ wr.cell? ⟨X, 1, none⟩ = some (.func (.func 169) #[] #[]) ∧ wr.cell? ⟨X, 2, none⟩ = some (.func (.func 152) #[] #[]) ∧ wr.cell? ⟨X, 3, none⟩ = some (.func (.func 77) #[] #[]) from fun wr hg => by
  have hne : ∀ i, some ((⟨X, i, none⟩ : Addr)).block ≠ some r := fun i => by rw [HXX.out.1]; simp; omega
  have h := HX.out W1 (Qa _ _)
  exact ⟨hg.cell h.1 (hne 0), hg.cell h.2.1 (hne 1), hg.cell h.2.2.1 (hne 2), hg.cell h.2.2.2 (hne 3)⟩)
 have HR1 := hid (H.out.kept HB1.out)
 have hc0 : (0 : Int) <= (c : Int) := by omega
 have hwc : IntKind.u64.wrap (c : Int) = (c : Int) := IntWalk.u64_in _ (by omega)
 have hHW := HB1.out.size
 go_wp2_with fail
 refine (HNU.out W1 HR1.out).mono ?_
 rintro e w2 ⟨rfl, hr2, hg2⟩
 have HR2 := hid hr2
 have HG2 := hid hg2
 clear hr2 hg2 HNU
 by_cases hcU : c < U
 ·have hcb : decide ((U : Int) > (c : Int)) = true := by rw [decide_eq_true_iff]; omega
  have hcb2 : (c : Int) < (U : Int) := by omega
  have HON := hid (show O = none by rw [HST.out, if_pos hcU])
  have HGW := hid (show w.grownBy w2 (some r) from zAc (zAb HB1.out _) HG2.out)
  go_wp2_with fail
  go_ret2
  rw [HON.out]
  exact ⟨rfl, HGW.out⟩
 ·have hcb : decide ((U : Int) > (c : Int)) = false := by rw [decide_eq_false_iff_not]; omega
  have hcb2 : ¬ (c : Int) < (U : Int) := by omega
  have hwU : IntKind.i64.wrap (U : Int) = (U : Int) := Qg _ (by omega)
  have HST2 := hid (show O = dictW c (rdWords U left2 bad2) by rw [HST.out, if_neg hcU])
  have HRW := hid (zGf r left2 bad2 U w2 HR2.out HM2.out hbig2 (by omega))
  obtain ⟨OW, hOW⟩ : ∃ OW, OW = rdWords U left2 bad2 := ⟨_, rfl⟩
  have hlenW := fun ws l1 b1 => zC3 (left := left2) (bad := bad2) U ws l1 b1
  rw [<- hOW] at HRW HST2 hlenW
  have HLW := hid hlenW
  obtain ⟨cf0, cf1, cf2, cf3⟩ := HX2.out w2 HG2.out
  clear hOW HST hlenW
  go_wp2_with fail
  refine HRW.out.mono ?_
  rintro e w3 ⟨hret, hg3⟩
  have HG3 := hid (show W1.grownBy w3 (some r) from zAc HG2.out hg3)
  have HGW3 := hid (show w.grownBy w3 (some r) from zAc (zAb HB1.out _) HG3.out)
  have hsz23 : W1.heap.size <= w2.heap.size := HG2.out.size
  clear hg3 HRW cf0 cf1 cf2 cf3
  cases OW with
  | none =>
   obtain rfl : e = .returned (.tuple #[.slice none 0 0, .bool false]) := hret
   have HON := hid (show O = none from HST2.out)
   go_wp2_with fail
   go_ret2
   rw [HON.out]
   exact ⟨rfl, HGW3.out⟩
  | some p =>
   obtain ⟨ws, l2, b2⟩ := p
   obtain ⟨v3, pw, rfl, hown3, hxw, hfw, hr3, hm3, hbl3⟩ := hret
   have hwl := HLW.out ws l2 b2 rfl
   simp only at hown3 hr3 hm3 hbl3 hxw hfw
   have HW3 := hid (hown3.mono hsz23)
   have HPX := hid hxw
   have HFW := hid hfw
   have hwl2 : pw.length = U := by rw [<- zAt, hxw]; exact hwl
   have HR3 := hid hr3
   have HM3 := hid hm3
   obtain ⟨ao, cap, rfl⟩ := HW3.out.row.shape
   have HWL := hid hwl
   have HWL2 := hid hwl2
   rw [hwl2] at HW3 ⊢
   clear hown3 hr3 hm3 hwl HLW hxw hfw hwl2
   cases b2
   ·have HST3 := hid (show O = dictU ws (unpackB l2 (Lib.bitLen (U - 1) : Nat) (c : Int)) from by
      rw [HST2.out, <- HWL.out]
      rfl)
    have HRE := hid (zCj r l2 false w3 HR3.out (by omega))
    have hb64 := (bitLen_le (U - 1) (by omega)).1
    clear HST2
    go_wp2_with fail
    refine HRE.out.mono ?_
    rintro e w4 ⟨ao4, cap4, rfl, hown4, hb4⟩
    have HR4 := hid (show Rd w4 (.slice ao4 l2.length cap4) (l2.map u8v) from by have h := Rd.of_owns hown4; rw [Qc] at h; exact h)
    have HB4 := hid (show Below w3.heap.size w3 w4 from hb4)
    have HW4 := hid (HW3.out.keptB hb4)
    have HPW := hid (zEd U (by omega) w4)
    rw [Qc]
    clear hown4 hb4 HRE HW3
    go_wp2_with fail
    refine HPW.out.mono ?_
    rintro e w5 ⟨rfl, rfl⟩
    obtain ⟨wd, hwd⟩ : ∃ wd, wd = Lib.bitLen (U - 1) := ⟨_, rfl⟩
    rw [<- hwd] at HST3 hb64 ⊢
    obtain ⟨OU, hOU⟩ : ∃ OU, OU = unpackB l2 (wd : Nat) (c : Int) := ⟨_, rfl⟩
    have HOU := hid hOU.symm
    have HGW4 := hid (show w.grownBy w4 (some r) from zAc HGW3.out (zAb HB4.out _))
    rw [<- hOU] at HST3
    clear hwd hOU HPW
    cases OU with
    | none =>
     have HON := hid (show O = none from HST3.out)
     have HUN := hid (zE2 (wd : Int) (c : Int) ao4 l2.length cap4 l2 w4 HR4.out (zDt HM3.out) (by omega) HOU.out)
     go_wp2_with fail
     refine HUN.out.mono ?_
     rintro e w6 ⟨rfl, k6, rfl⟩
     have HGW6 := hid (show w.grownBy (w4.drewN k6) (some r) from zAc HGW4.out (zA2 _ _ _))
     go_wp2_with fail
     go_ret2
     rw [HON.out]
     exact ⟨rfl, HGW6.out⟩
    | some ps =>
     obtain ⟨hpl, hp64⟩ := zDy HOU.out
     rw [Qq] at hpl
     have HPL := hid hpl
     have HP64 := hid hp64
     have HUN := hid (zEc (wd : Int) c ao4 l2.length cap4 l2 ps w4 HR4.out (zDt HM3.out) (by omega) HOU.out)
     clear hpl hp64
     go_wp2_with fail
     refine HUN.out.mono ?_
     rintro e w6 ⟨ao6, cap6, rfl, hown6, hb6⟩
     have HP6 := hid (show Rd w6 (.slice ao6 c cap6) (ps.map u64v) from by have h := Rd.of_owns hown6; rw [Qc, HPL.out] at h; exact h)
     have HW6 := hid (HW4.out.keptB hb6)
     have HGW6 := hid (show w.grownBy w6 (some r) from zAc HGW4.out (zAb hb6 _))
     have HG6 := hid (show W1.grownBy w6 (some r) from zAc (zAc HG3.out (zAb HB4.out _)) (zAb hb6 _))
     rw [Qc, HPL.out]
     have HAU := hid (zHx ps (.slice ao6 c cap6) U w6 HP6.out HP64.out (by rw [HPL.out]; exact hc) (by omega))
     obtain ⟨A, hA⟩ : ∃ A, A = allUsedT ps U := ⟨_, rfl⟩
     have HA := hid hA.symm
     have HST4 := hid (show O = if A = true then some (ps.map fun p => ws.getD p []) else none from by rw [HST3.out, hA, <- HWL.out]; rfl)
     rw [<- hA] at HAU
     clear hown6 hb6 hA HUN HST3 HR4 HB4 HW4 HGW4
     go_wp2_with fail
     refine HAU.out.mono ?_
     rintro e w7 ⟨rfl, hb7⟩
     have HP7 := hid (HP6.out.kept hb7)
     have HW7 := hid (HW6.out.keptB hb7)
     have HGW7 := hid (show w.grownBy w7 (some r) from zAc HGW6.out (zAb hb7 _))
     have HG7 := hid (show W1.grownBy w7 (some r) from zAc HG6.out (zAb hb7 _))
     clear hb7 HAU HP6 HW6 HGW6 HG6
     cases A
     ·have HON := hid (show O = none from HST4.out)
      go_wp2_with fail
      go_ret2
      rw [HON.out]
      exact ⟨rfl, HGW7.out⟩
     ·have HON := hid (show O = some (ps.map fun p => ws.getD p []) from HST4.out)
      have HLTU := hid (show ∀ p ∈ ps, p < U from by
       have h := HA.out
       unfold allUsedT at h
       rw [Bool.and_eq_true, List.all_eq_true] at h
       intro p hp
       have := h.1 p hp
       rw [decide_eq_true_iff] at this
       exact this)
      obtain ⟨ei, he1, he2, he3, he4⟩ := zC4
      obtain ⟨W8, hmk, hown8, hg8⟩ := run_make_full (P := Tryz.prog) w7 w7.heap.size 41 29 ei (.slice none 0 0) 1 Tryz.underlying41 he1 he2 he3 .i64 .i64 c (by rw [he4]; omega) (by unfold maxLen; omega) (Qd _)
      obtain ⟨G, hG⟩ : ∃ G, G = w7.heap.size := ⟨_, rfl⟩
      rw [<- hG] at hmk hown8
      have HO8 := hid (show OwnE G W8 (.slice (some ⟨G, 0, none⟩) c c) (Qf c (.slice none 0 0, [])) from by
       refine ⟨OwnR.of (n := c) ?_, fun p hp => ?_, ?_⟩
       ·rw [show (Value.slice none 0 0).cells = #[Value.slice none 0 0] from rfl, Nat.mul_one, toList_madeCells_one] at hown8
        have e : vs (Qf c ((Value.slice none 0 0, []) : Value × By)) = Qf c (Value.slice none 0 0) := by unfold vs; rw [List.map_replicate]
        rw [e]
        exact hown8
       ·rw [(Qr.1 hp).2]; exact zA6 _ _
       ·intro i j a b g hi hj ha hb
        have h0 : ∀ (k : Nat) (d : Value), (Value.slice (some ⟨G, 0, none⟩) c c :: vs (Qf c ((Value.slice none 0 0, []) : Value × By)))[k]? = some d -> d.ownBlock = some g -> k = 0 := fun k d hk hd => by
         cases k with
         | zero => rfl
         | succ k =>
          rw [Qp] at hk
          obtain ⟨q, hq, hq2⟩ := List.mem_map.1 (Qe hk)
          rw [(Qr.1 hq).2] at hq2
          rw [<- hq2] at hd
          cases hd
        rw [h0 i a hi ha, h0 j b hj hb])
      have HB8 := hid (show Below w7.heap.size w7 W8 from ⟨hg8.os, hg8.tape, hg8.output, hg8.size, fun i hi => hg8.block i hi (by simp)⟩)
      have HGG := hid hG
      have hsz7 : W1.heap.size <= w7.heap.size := HG7.out.size
      clear hown8 hg8 he1 he2 he3 he4 hG HST4 HA HOU
      go_upto_region 11 with (fail)
      clear hmk
      go_wp2_with fail
      go_loopw [54] (fun i wr => ∃ (q : Nat) (pj : Row), q <= c ∧ i = .int .i64 (q : Int) ∧ xs pj = dictTo ws ps c q ∧ OwnE G wr (.slice (some ⟨G, 0, none⟩) c c) pj ∧ Below w7.heap.size w7 wr) (fun i _ => c - (intOf i).toNat)
      case atStart => exact ⟨0, _, Qj _, rfl, by unfold xs dictTo; simp, HO8.out, HB8.out⟩
      case round =>
       obtain ⟨q, pj, hq, rfl, hxj, hown, hbel⟩ := hrel
       have HPJ := hid (show pj.length = c by rw [<- zAt, hxj, zGh ws HPL.out hq])
       have HXJ := hid hxj
       have HO := hid hown
       have HBL := hid hbel
       clear hown hbel hxj
       by_cases hlt : q < c
       ·have hlti : (q : Int) < (c : Int) := by omega
        have hq0 : (0 : Int) <= (q : Int) := by omega
        have hcp := (zBq (HP7.out.kept HBL.out)).2
        obtain ⟨b, off, rfl, hcell⟩ := hcp (by omega)
        have hx := hcell q hlt
        obtain ⟨p, hp⟩ : ∃ p, p = ps.getD q 0 := ⟨_, rfl⟩
        rw [<- hp] at hx
        have hat : ps[q]? = some p := by rw [hp, Qs, Qn (by rw [HPL.out]; exact hlt)]; rfl
        have hpU := HLTU.out p (Qe hat)
        have hpi : (p : Int) < (U : Int) := by omega
        have hp0 : (0 : Int) <= (p : Int) := by omega
        obtain ⟨b3, off3, rfl, hcell3⟩ := (zBo (HW7.out.row.rd.kept HBL.out)).2 (by omega)
        obtain ⟨va, vc, z, hat0, hel⟩ := zBp HW7.out.Els (q := p) (by rw [HWL2.out]; exact hpU)
        have hx3 : wr.cell? ⟨b3, off3 + p, none⟩ = some (.slice va (Qb z) vc) := hcell3 p _ hat0
        have hz : z = ws.getD p [] := by rw [Qs, <- HPX.out, zA8 hat0]; rfl
        have HFZ := hid (HFW.out z (by rw [<- HPX.out]; exact Qe (zA8 hat0)))
        have HCO := hid (zCu (.slice va (Qb z) vc) z wr.drew ((hel.kept HBL.out).kept (zAm _ _)) (by have := HFZ.out.2; omega))
        have HD := hid (show dictTo ws ps c (q + 1) = (dictTo ws ps c q).set q z from by rw [hz]; exact zFn ws HPL.out hlt hat)
        have cf := (HX2.out wr (show W1.grownBy wr (some r) from zAc HG7.out (zAb HBL.out _))).2.2.2
        have HQJ := hid (show q < pj.length by rw [HPJ.out]; exact hlt)
        clear hcp hcell hcell3 hp hat hz hat0 hel
        go_wp2_with fail
        go_region_law
         (first
          | (go_simp; go_at_call 77; refine HCO.out.mono ?_; rintro e w10 ⟨ca, cc, rfl, hown10, hb10⟩; rw [Qc] at hown10 ⊢; have HC10 := hid (show OwnB wr.heap.size w10 (.slice ca (Qb z) cc) z from OwnB.of hown10); have HB10 := hid (show Below wr.heap.size wr w10 from zAa (zAm _ _) hb10); have HO10 := hid (HO.out.keptB HB10.out); have hcG := zPt HO10.out.row HQJ.out; obtain ⟨uG, hcG3⟩ := hcG; have hfG := zHy HO10.out.row q; clear hown10 hb10)
          | fail)
        all_goals
         go_wp2_with fail
         go_roundw
         case rel =>
          refine ⟨q + 1, pj.set q (.slice ca (Qb z) cc, z), by omega, by go_num, ?_, ?_, ?_⟩
          ·rw [HD.out, zSz, HXJ.out]
          ·exact HO10.out.set HQJ.out HC10.out (by rw [HGG.out]; exact HBL.out.size) (fun a ha g hg => (HO.out.blocks a ha g hg).2)
          ·exact (zAa HBL.out HB10.out).setCell (p := ⟨G, q, none⟩) (by show _ <= G; rw [HGG.out]; exact Qd _) _
         case measure => simp [intOf]; omega
       ·have hqc : q = c := by omega
        subst hqc
        have hlti : ¬ (q : Int) < (q : Int) := by omega
        have HGW8 := hid (show w.grownBy wr (some r) from zAc HGW7.out (zAb HBL.out _))
        have HRES := hid (show OwnE w.heap.size wr (.slice (some ⟨G, 0, none⟩) q q) pj from HO.out.mono (by rw [HGG.out]; exact Nat.le_trans hHW hsz7))
        have HXE := hid (show xs pj = ps.map (fun p => ws.getD p []) from by
         rw [HXJ.out]
         unfold dictTo
         rw [Nat.sub_self, List.replicate_zero, List.append_nil, List.take_of_length_le (by rw [HPL.out]; exact Qd _)])
        go_wp2_with fail
        go_ret2
        rw [HON.out]
        exact ⟨⟨_, pj, rfl, HRES.out, HXE.out⟩, HGW8.out⟩
   ·have HON := hid (show O = none from HST2.out)
    go_wp2_with fail
    go_ret2
    rw [HON.out]
    exact ⟨rfl, HGW3.out⟩
theorem zHc : (Tryz.prog.info? 192).map (·.size) = some 4 := by kernel_rfl
theorem zEh (w : World) : Calls Tryz.prog 131 #[] w fun e w' => e = .returned (.agg #[.func (.func 168) #[] #[], .func (.func 169) #[] #[], .func (.func 152) #[] #[], .func (.func 77) #[] #[]]) ∧ Below w.heap.size w w' := by
 go_enter Tryz.func131, Tryz.ntmps131
 have hz := Qv w (.cells #[.nilFunc, .nilFunc, .nilFunc, .nilFunc] 192)
 have hb1 := zAd w (.cells #[.nilFunc, .nilFunc, .nilFunc, .nilFunc] 192)
 obtain ⟨W1, hW1⟩ : ∃ W1 : World, W1 = w.alloc (.cells #[.nilFunc, .nilFunc, .nilFunc, .nilFunc] 192) := ⟨_, rfl⟩
 obtain ⟨X, hX⟩ : ∃ X, X = w.heap.size := ⟨_, rfl⟩
 rw [<- hW1] at hz hb1
 rw [<- hX] at hz
 obtain ⟨W2, hW2⟩ : ∃ W2 : World, W2 = W1.setCell ⟨X, 0, none⟩ (.func (.func 168) #[] #[]) := ⟨_, rfl⟩
 have e1 := zBu W1 X 0 hz rfl (.func (.func 168) #[] #[]) rfl
 rw [<- hW2] at e1
 have hz2 : W2.heap[X]? = some (.cells #[.func (.func 168) #[] #[], .nilFunc, .nilFunc, .nilFunc] 192 (0, 0)) := by rw [hW2]; simpa using Qu W1 X 0 _ _ (.func (.func 168) #[] #[]) hz
 obtain ⟨W3, hW3⟩ : ∃ W3 : World, W3 = W2.setCell ⟨X, 1, none⟩ (.func (.func 169) #[] #[]) := ⟨_, rfl⟩
 have e2 := zBu W2 X 1 hz2 rfl (.func (.func 169) #[] #[]) rfl
 rw [<- hW3] at e2
 have hz3 : W3.heap[X]? = some (.cells #[.func (.func 168) #[] #[], .func (.func 169) #[] #[], .nilFunc, .nilFunc] 192 (0, 0)) := by rw [hW3]; simpa using Qu W2 X 1 _ _ (.func (.func 169) #[] #[]) hz2
 obtain ⟨W4, hW4⟩ : ∃ W4 : World, W4 = W3.setCell ⟨X, 2, none⟩ (.func (.func 152) #[] #[]) := ⟨_, rfl⟩
 have e3 := zBu W3 X 2 hz3 rfl (.func (.func 152) #[] #[]) rfl
 rw [<- hW4] at e3
 have hz4 : W4.heap[X]? = some (.cells #[.func (.func 168) #[] #[], .func (.func 169) #[] #[], .func (.func 152) #[] #[], .nilFunc] 192 (0, 0)) := by rw [hW4]; simpa using Qu W3 X 2 _ _ (.func (.func 152) #[] #[]) hz3
 obtain ⟨W5, hW5⟩ : ∃ W5 : World, W5 = W4.setCell ⟨X, 3, none⟩ (.func (.func 77) #[] #[]) := ⟨_, rfl⟩
 have e4 := zBu W4 X 3 hz4 rfl (.func (.func 77) #[] #[]) rfl
 rw [<- hW5] at e4
 have hz5 : W5.heap[X]? = some (.cells #[.func (.func 168) #[] #[], .func (.func 169) #[] #[], .func (.func 152) #[] #[], .func (.func 77) #[] #[]] 192 (0, 0)) := by rw [hW5]; simpa using Qu W4 X 3 _ _ (.func (.func 77) #[] #[]) hz4
 have hxb : w.heap.size <= X := by rw [hX]; exact Qd _
 have HB5 := hid (show Below w.heap.size w W5 from by
  rw [hW5, hW4, hW3, hW2]
  exact (((hb1.setCell (p := ⟨X, 0, none⟩) hxb _).setCell (p := ⟨X, 1, none⟩) hxb _).setCell (p := ⟨X, 2, none⟩) hxb _).setCell (p := ⟨X, 3, none⟩) hxb _)
 have HZ5 := hid hz5
 clear hz hb1 hW2 hW3 hW4 hW5 hz2 hz3 hz4 hz5 hxb
 go_upto_region 1 with (fail)
 rw [<- hW1, <- hX]
 clear hW1 hX
 go_wp2_with fail
 refine bodyPost_ret (results_cell_row rfl _ _ X _ _ (0, 0) _ rfl HZ5.out Tryz.underlying192 rfl zHc) rfl ?_
 exact ⟨rfl, HB5.out⟩
theorem zBv {base : Nat} {o : Option (List By)} {e : Ending} {w : World} (h : RetOpt base o e w) : ∃ a b, e = .returned (.tuple #[a, b]) ∧ RetOpt base o (.returned (.tuple #[a, b])) w := by
 cases o with
 | none => exact ⟨_, _, h, rfl⟩
 | some l =>
  obtain ⟨v, ps, h1, h2⟩ := h
  exact ⟨_, _, h1, v, ps, rfl, h2⟩
theorem zBn {base base' : Nat} {o : Option (List By)} {e : Ending} {w : World} (h : RetOpt base o e w) (hb : base' <= base) : RetOpt base' o e w := by
 cases o with
 | none => exact h
 | some l =>
  obtain ⟨v, ps, h1, h2, h3⟩ := h
  exact ⟨v, ps, h1, h2.mono hb, h3⟩
theorem zQ1 (bs : List Nat) (bv : Value) (count : Int) (w : World) (hr : Rd w bv (bs.map u8v)) (h256 : ∀ x ∈ bs, x < 256) (hbig : bs.length <= 1000000) :
  Calls Tryz.prog 108 #[bv, .int .i64 count] w fun e w' => RetOpt w.heap.size (decT bs count) e w' ∧ Below w.heap.size w w' := by
 obtain ⟨ao, cap, rfl⟩ := zAh hr
 rw [Qc] at hr ⊢
 cases bs with
 | nil =>
  clear hr h256
  go_enter Tryz.func108, Tryz.ntmps108
  go_wp2_with fail
  go_ret2
  exact ⟨rfl, Qa _ _⟩
 | cons k rest =>
  obtain ⟨n, hn⟩ : ∃ n, n = (k :: rest).length := ⟨_, rfl⟩
  have hrl2 : rest.length = n - 1 := by rw [hn, Qt]; omega
  have hn1 : 1 <= n := by rw [hn, Qt]; omega
  rw [<- hn] at hr hbig ⊢
  have hk : k < 256 := h256 k Qo
  have HM4 := hid (show ∀ x ∈ rest, x < 256 from fun x hx => h256 x (List.mem_cons_of_mem _ hx))
  have HRL := hid hrl2
  have HR := hid hr
  have hnb : ((n : Int) == 0) = false := by rw [beq_eq_false_iff_ne]; omega
  have hnb2 : ¬ ((n : Int) = 0) := by omega
  have hnp : (0 : Int) < (n : Int) := by omega
  have hn1i : (1 : Int) <= (n : Int) := by omega
  have hcp := (zA0 HR.out).2 (by omega)
  obtain ⟨b, off, rfl, hcell⟩ := hcp
  have hx0 := hcell 0 (by omega)
  rw [Nat.add_zero] at hx0
  have HX0 := hid (show w.cell? ⟨b, off, none⟩ = some (.int .u8 (k : Int)) from hx0)
  have hcapn := zBr HR.out
  clear hr h256 hn hrl2 hcell hx0
  by_cases hneg : count < 0
  ·have h1 : decide (count < 0) = true := decide_eq_true hneg
   have HD := hid (show decT (k :: rest) count = none by unfold decT; simp only; rw [if_pos (.inl hneg)])
   go_enter Tryz.func108, Tryz.ntmps108
   go_wp2_with fail
   go_ret2
   rw [HD.out]
   exact ⟨rfl, Qa _ _⟩
  ·have h1 : decide (count < 0) = false := decide_eq_false hneg
   by_cases hbigc : 65535 < count
   ·have h2 : decide (count > 65535) = true := decide_eq_true hbigc
    have HD := hid (show decT (k :: rest) count = none by unfold decT; simp only; rw [if_pos (.inr hbigc)])
    go_enter Tryz.func108, Tryz.ntmps108
    go_wp2_with fail
    go_ret2
    rw [HD.out]
    exact ⟨rfl, Qa _ _⟩
   ·have h2 : decide (count > 65535) = false := decide_eq_false hbigc
    obtain ⟨c, rfl⟩ : ∃ c : Nat, count = (c : Int) := ⟨count.toNat, by omega⟩
    have hc : c <= 65535 := by omega
    have HD := hid (show decT (k :: rest) (c : Int) = (if k = 1 then wholeT (rdPlain c rest false).1 (rdPlain c rest false).2.1 (rdPlain c rest false).2.2 else if k = 2 then rdRuns c c [] rest false else if k = 4 then rdDict c rest false else none) from by
     unfold decT
     simp only
     rw [if_neg (by omega), Qq])
    go_enter Tryz.func108, Tryz.ntmps108
    go_upto_region 3 with (fail)
    go_cut [6] (fun p wx => ∃ r, p = .pointer (some ⟨r, 0, none⟩) ∧ w.heap.size <= r ∧ IsR wx r rest false ∧ Below w.heap.size w wx)
    case first =>
     by_cases hck : cap = 1
     ·have hn2 : n = 1 := by omega
      subst hck
      subst hn2
      have HR4 := hid (show Rd w (.slice (some ⟨b, off, none⟩) 0 0) (rest.map u8v) from by
       have : rest = [] := Qk.1 HRL.out
       rw [this]
       exact zBx w _ 0)
      have HU := hid (zDr _ rest w HR4.out (by have := HRL.out; omega))
      go_wp2_with fail
      refine HU.out.mono ?_
      rintro e w6 ⟨r, rfl, h1, h2, h3⟩
      have H2 := hid h2
      clear h2
      go_wp2_with fail
      go_meet
      exact ⟨r, rfl, h1, H2.out, h3⟩
     ·have hck2 : (cap == 1) = false := by rw [beq_eq_false_iff_ne]; exact hck
      have HR4 := hid (show Rd w (.slice (some ⟨b, off + 1, none⟩) (n - 1) (cap - 1)) (rest.map u8v) from by
       have h := zCe HR.out hn1
       simpa using h)
      have HU := hid (zDr _ rest w HR4.out (by have := HRL.out; omega))
      go_wp2_with fail
      refine HU.out.mono ?_
      rintro e w6 ⟨r, rfl, h1, h2, h3⟩
      have H2 := hid h2
      clear h2
      go_wp2_with fail
      go_meet
      exact ⟨r, rfl, h1, H2.out, h3⟩
    case rest =>
     obtain ⟨r, rfl, hwr, hisr, hb6⟩ := hcut
     obtain ⟨w6, hw6⟩ := zI8 hb6
     rw [<- hw6] at hisr hb6 ⊢
     have HIR := hid hisr
     have HB6 := hid hb6
     have hx6 : w6.cell? ⟨b, off, none⟩ = some (.int .u8 (k : Int)) := (hb6.cell (World.block_lt_of_cell? _ _ HX0.out)).trans HX0.out
     have hwk : IntKind.i64.wrap (k : Int) = (k : Int) := Qg _ (by omega)
     have hrest : rest.length <= 1000000 := by have := HRL.out; omega
     clear hisr hb6 hw6 HR
     have HNB := hid (zEh w6)
     by_cases hk1 : k = 1
     ·subst hk1
      go_wp2_with fail
      refine HNB.out.mono ?_
      rintro e w7 ⟨rfl, hb7⟩
      have HB7 := hid (HB6.out.trans (hb7.mono HB6.out.size))
      have HP := hid (zGe r rest false c w7 (HIR.out.kept hb7) HM4.out hrest hc)
      clear hb7 hx6
      go_wp2_with fail
      refine HP.out.mono ?_
      rintro e w8 ⟨hret, hg8⟩
      obtain ⟨a, bb, rfl, hret⟩ := zBv hret
      have HRT := hid (zBn hret HB7.out.size)
      have HB8 := hid (zCq HB7.out HB7.out.size hg8 hwr)
      clear hret hg8 HP
      go_wp2_with fail
      go_ret2
      rw [HD.out]
      exact ⟨HRT.out, HB8.out⟩
     ·have hk1i : ((k : Int) == 1) = false := by rw [beq_eq_false_iff_ne]; omega
      have hk1j : ¬ ((k : Int) = 1) := by omega
      by_cases hk2 : k = 2
      ·subst hk2
       go_wp2_with fail
       refine HNB.out.mono ?_
       rintro e w7 ⟨rfl, hb7⟩
       have HB7 := hid (HB6.out.trans (hb7.mono HB6.out.size))
       have HP := hid (zG9 r rest false c w7 (HIR.out.kept hb7) HM4.out hrest hc)
       clear hb7 hx6
       go_wp2_with fail
       refine HP.out.mono ?_
       rintro e w8 ⟨hret, hg8⟩
       obtain ⟨a, bb, rfl, hret⟩ := zBv hret
       have HRT := hid (zBn hret HB7.out.size)
       have HB8 := hid (zCq HB7.out HB7.out.size hg8 hwr)
       clear hret hg8 HP
       go_wp2_with fail
       go_ret2
       rw [HD.out]
       exact ⟨HRT.out, HB8.out⟩
      ·have hk2i : ((k : Int) == 2) = false := by rw [beq_eq_false_iff_ne]; omega
       have hk2j : ¬ ((k : Int) = 2) := by omega
       by_cases hk4 : k = 4
       ·subst hk4
        go_wp2_with fail
        refine HNB.out.mono ?_
        rintro e w7 ⟨rfl, hb7⟩
        have HB7 := hid (HB6.out.trans (hb7.mono HB6.out.size))
        have HP := hid (zHb r rest false c w7 (HIR.out.kept hb7) HM4.out hrest hc)
        clear hb7 hx6
        go_wp2_with fail
        refine HP.out.mono ?_
        rintro e w8 ⟨hret, hg8⟩
        obtain ⟨a, bb, rfl, hret⟩ := zBv hret
        have HRT := hid (zBn hret HB7.out.size)
        have HB8 := hid (zCq HB7.out HB7.out.size hg8 hwr)
        clear hret hg8 HP
        go_wp2_with fail
        go_ret2
        rw [HD.out]
        exact ⟨HRT.out, HB8.out⟩
       ·have hk4i : ((k : Int) == 4) = false := by rw [beq_eq_false_iff_ne]; omega
        have hk4j : ¬ ((k : Int) = 4) := by omega
        have HD2 := hid (show decT (k :: rest) (c : Int) = none by rw [HD.out, if_neg hk1, if_neg hk2, if_neg hk4])
        go_wp2_with fail
        go_ret2
        rw [HD2.out]
        exact ⟨rfl, HB6.out⟩
end Go.Proofs.YtmpgnjhgegbdkaaGreat.Bc
