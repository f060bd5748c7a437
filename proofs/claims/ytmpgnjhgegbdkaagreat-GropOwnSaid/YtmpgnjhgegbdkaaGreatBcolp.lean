import Derived.Test.YtmpgnjhgegbdkaaGreatBcoli
import Derived.Test.YtmpgnjhgegbdkaaGreatIcolu
import Derived.Lib.ConvBytes
set_option linter.unusedVariables false
set_option linter.unusedSimpArgs false
set_option maxRecDepth 100000
set_option maxHeartbeats 8000000
open Go.Lib (hid)
namespace Go.Proofs.YtmpgnjhgegbdkaaGreat.Bc
open Go.RowKit
open _root_.Nat renaming lt_or_ge -> Qa, le_refl -> Qd
open _root_.List renaming mem_append -> Qb, length -> Qc, length_append -> Qe, getElem?_cons_zero -> Qg, any_eq_false -> Qh, mem_of_getElem? -> Qi, length_map -> Qj, length_eq_zero_iff -> Qk, length_drop -> Ql
open Go.RowKit.Below renaming refl -> Qf
open Go.World renaming block_lt_of_cell? -> Qm
def longB (x : By) : Bool := decide (64 < x.length)
def anyLong (l : List By) : Bool := l.any longB
theorem zB0 {l : List By} (h : ∀ x ∈ l, Fit x) : anyLong l = false := by
 unfold anyLong
 rw [Qh]
 intro x hx
 have := (h x hx).2
 unfold longB
 simp
 omega
theorem zQ2 {l : List By} (h8 : ∀ x ∈ l, ∀ a ∈ x, a < 256) (h : anyLong l = false) : ∀ x ∈ l, Fit x := fun x hx => by
 unfold anyLong at h
 rw [Qh] at h
 have := h x hx
 unfold longB at this
 simp at this
 exact ⟨h8 x hx, by omega⟩
theorem zOc (x : By) (v : Value) (w : World) (h : Rd w v (x.map u8v)) : Calls Tryz.prog 130 #[v] w fun e w' => e = .returned (.bool (longB x)) ∧ w' = w := by
 obtain ⟨a, c, e1⟩ := zD6 (p := (v, x)) h
 change v = .slice a (Qc x) c at e1
 subst e1
 obtain ⟨n, hn⟩ : ∃ n, n = Qc x := ⟨_, rfl⟩
 have HL := hid (show longB x = decide (64 < n) by rw [hn]; rfl)
 rw [<- hn]
 clear h hn
 by_cases hq : 64 < n
 ·have h1 : decide ((n : Int) > 64) = true := decide_eq_true (by omega)
  have h2 : (64 : Int) < (n : Int) := by omega
  have HD := hid (decide_eq_true hq)
  clear hq
  go_enter Tryz.func130, Tryz.ntmps130
  go_wp2_with fail
  go_ret
  exact ⟨by rw [HL.out, HD.out]; rfl, rfl⟩
 ·have h1 : decide ((n : Int) > 64) = false := decide_eq_false (by omega)
  have h2 : ¬ (64 : Int) < (n : Int) := by omega
  have HD := hid (decide_eq_false hq)
  clear hq
  go_enter Tryz.func130, Tryz.ntmps130
  go_wp2_with fail
  go_ret
  exact ⟨by rw [HL.out, HD.out]; rfl, rfl⟩
theorem zKh (ps : Row) (lv : Value) (w : World) (hl : ps.length <= 1000000) (hr : Rd w lv (vs ps)) (he : Els w ps) :
  Calls Tryz.prog 167 #[lv, .func (.func 130) #[] #[]] w fun e w' => (∃ k : Int, e = .returned (.int .i64 k) ∧ (decide (0 <= k) = anyLong (xs ps)) ∧ -1 <= k ∧ k <= 1000000) ∧ Below w.heap.size w w' := by
 obtain ⟨ao, cap, rfl⟩ := zAh hr
 obtain ⟨n, hn⟩ : ∃ n, n = ps.length := ⟨_, rfl⟩
 rw [zA1, <- hn] at hr ⊢
 rw [<- hn] at hl
 have HR := hid hr
 have HE := hid he
 have HN := hid hn
 clear hr hn he
 go_enter Tryz.func167, Tryz.ntmps167
 go_wp2_with fail
 go_loopw [8] (fun i wr => ∃ q : Nat, q <= n ∧ i = .int .i64 (q : Int) ∧ anyLong ((xs ps).take q) = false ∧ Below w.heap.size w wr) (fun i _ => n - (intOf i).toNat)
 case atStart => exact ⟨0, Nat.zero_le _, rfl, rfl, Qf _ _⟩
 case round =>
  obtain ⟨q, hq, rfl, hno, hbel⟩ := hrel
  have HNO := hid hno
  have HBL := hid hbel
  clear hno hbel
  by_cases hlt : q < n
  ·have hlti : (q : Int) < (n : Int) := by omega
   have hq0 : (0 : Int) <= (q : Int) := by omega
   obtain ⟨b, off, rfl, hcell⟩ := (zBo (HR.out.kept HBL.out)).2 (by omega)
   obtain ⟨za, zc, z, hat0, hze⟩ := zBp HE.out (q := q) (by rw [<- HN.out]; exact hlt)
   have hx : wr.cell? ⟨b, off + q, none⟩ = some (.slice za (Qc z) zc) := hcell q _ hat0
   have HAT := hid (zA8 hat0)
   have HTK := hid (zM7 hat0)
   have HLO := hid (zOc z (.slice za (Qc z) zc) wr (hze.kept HBL.out))
   obtain ⟨B, hB⟩ : ∃ B, B = longB z := ⟨_, rfl⟩
   rw [<- hB] at HLO
   have HBB := hid hB.symm
   clear hcell hat0 hze hB
   go_wp2_with fail
   refine HLO.out.mono ?_
   rintro e w2 ⟨rfl, rfl⟩
   cases B
   ·go_wp2_with fail
    go_roundw
    case rel =>
     refine ⟨q + 1, by omega, by go_num, ?_, HBL.out⟩
     rw [HTK.out]
     unfold anyLong
     rw [List.any_append]
     have h := HNO.out
     unfold anyLong at h
     rw [h]
     show (longB z || false) = false
     rw [HBB.out]
     rfl
    case measure => simp [intOf]; omega
   ·go_wp2_with fail
    go_ret
    refine ⟨⟨(q : Int), rfl, ?_, by omega, by omega⟩, HBL.out⟩
    rw [decide_eq_true hq0]
    symm
    unfold anyLong
    rw [List.any_eq_true]
    exact ⟨z, Qi HAT.out, HBB.out⟩
  ·have hqn : q = n := by omega
   subst hqn
   have hlti : ¬ (q : Int) < (q : Int) := by omega
   have HAL := hid (show anyLong (xs ps) = false from by
    have h := HNO.out
    rw [List.take_of_length_le (by rw [zAt, <- HN.out]; exact Qd _)] at h
    exact h)
   go_wp2_with fail
   go_ret
   exact ⟨⟨-1, rfl, by rw [HAL.out]; rfl, by decide, by decide⟩, HBL.out⟩
theorem zDz (ps : Row) (lv : Value) (w : World) (hl : ps.length <= 1000000) (hr : Rd w lv (vs ps)) (he : Els w ps) :
  Calls Tryz.prog 129 #[lv, .func (.func 130) #[] #[]] w fun e w' => e = .returned (.bool (anyLong (xs ps))) ∧ Below w.heap.size w w' := by
 have HI := hid (zKh ps lv w hl hr he)
 obtain ⟨ao, cap, rfl⟩ := zAh hr
 clear hr he
 go_enter Tryz.func129, Tryz.ntmps129
 go_wp2_with fail
 refine HI.out.mono ?_
 rintro e w2 ⟨⟨k, rfl, hk, hk1, hk2⟩, hb⟩
 have HK := hid hk
 have HB := hid hb
 clear hk hb
 go_wp2_with fail
 go_ret
 exact ⟨by rw [<- HK.out]; rfl, HB.out⟩
theorem zB6 (k : Int) (l : List By) (hI : ∀ n ∈ l, Fit n) (h : l.length <= 65535) : (kindT k l).length <= 6000000 := by
 unfold kindT
 split
 ·have := zA3 l hI; omega
 ·split
  ·have := zD1 l hI; omega
  ·unfold dictT
   have h0 := zA9 l
   have h1 := zA3 (wordsT l) (fun x hx => hI x ((zAx l x).1 hx))
   have h2 := zGi (Lib.bitLen ((wordsT l).length - 1)) (l.map (placeT (wordsT l))) (bitLen_le _ (by omega)).1 (by rw [Qj]; exact h)
   have h3 : (numC (wordsT l).length).length <= 10 := (zA5 9 _).1
   rw [Qe, Qe]
   omega
theorem zLi (ps : Row) (lv : Value) (w : World) (hI : ∀ x ∈ xs ps, Fit x) (hl : ps.length <= 65535) (hr : Rd w lv (vs ps)) (he : Els w ps) :
  Calls Tryz.prog 103 #[.int .i64 1, lv] w fun e w' => RetTell w.heap.size (tellT 1 (xs ps)) e w' ∧ Below w.heap.size w w' := by
 have HT := hid (show tellT 1 (xs ps) = some (1 :: kindT 1 (xs ps)) from by
  unfold tellT
  have h0 := zB0 hI
  unfold anyLong longB at h0
  rw [if_neg (by rw [h0, zAt]; simp; omega)]
  rfl)
 have HKL := hid (zB6 1 (xs ps) hI (by rw [zAt]; exact hl))
 obtain ⟨ao, cap, rfl⟩ := zAh hr
 obtain ⟨n, hn⟩ : ∃ n, n = ps.length := ⟨_, rfl⟩
 rw [zA1, <- hn] at hr ⊢
 rw [<- hn] at hl
 have HR := hid hr
 have HN := hid hn
 have HI := hid hI
 have HE := hid he
 have HLG := hid (zDz ps (.slice ao n cap) w (by rw [<- hn]; omega) hr he)
 rw [zB0 hI] at HLG
 have h1 : decide ((n : Int) > 65535) = false := decide_eq_false (by omega)
 have h2 : ¬ ((n : Int) > 65535) := by omega
 clear hr hn hI he
 go_enter Tryz.func103, Tryz.ntmps103
 have HC := hid fun w' (h : Below w.heap.size w w') => zDl ps (.slice ao n cap) w' HI.out (by rw [<- HN.out]; omega) (HR.out.kept h) (HE.out.kept h)
 go_wp2_with fail
 refine HLG.out.mono ?_
 rintro e w0 ⟨rfl, hb0⟩
 have HB0 := hid hb0
 have HNB := hid (zEh w0)
 clear hb0 HLG
 go_wp2_with fail
 refine HNB.out.mono ?_
 rintro e w1 ⟨rfl, hb1⟩
 have HB1 := hid (zAa HB0.out hb1)
 clear hb1
 go_wp2_with fail
 refine (HC.out w1 HB1.out).mono ?_
 rintro e w2 ⟨v2, rfl, hown20, hb20⟩
 have hown2 : OwnB w.heap.size w2 v2 (kindT 1 (xs ps)) := zAo hown20 HB1.out.size
 have hb2 : Below w.heap.size w w2 := zAa HB1.out hb20
 clear hown20 hb20 HC HNB
 obtain ⟨bs, hbs⟩ : ∃ bs, bs = kindT 1 (xs ps) := ⟨_, rfl⟩
 rw [<- hbs] at hown2 HT HKL
 obtain ⟨ao2, cap2, rfl⟩ := hown2.shape
 obtain ⟨m, hm⟩ : ∃ m, m = bs.length := ⟨_, rfl⟩
 have HM := hid hm
 rw [<- hm] at hown2 HKL ⊢
 have HB2 := hid hb2
 have HOE := hid (show (w2.alloc (.cells #[.int .u8 (1 : Int)] 5)).ownsRow w.heap.size 5 1 (.slice (some ⟨w2.heap.size, 0, none⟩) 1 1) 1 [.int .u8 (1 : Int)] from World.ownsRow_lit w2 #[.int .u8 (1 : Int)] 1 HB2.out.size (by unfold maxLen; omega) rfl)
 have HRL := hid (zAs (show Rd (w2.alloc (.cells #[.int .u8 (1 : Int)] 5)) (.slice ao2 m cap2) (bs.map u8v) from (show Rd w2 (.slice ao2 m cap2) (bs.map u8v) from by subst hm; exact OwnB.rd hown2).kept (zAd w2 _)))
 have HON := hid (zAr (zAq bs))
 have hszB : w.heap.size <= (w2.alloc (.cells #[.int .u8 (1 : Int)] 5)).heap.size := zA7 HB2.out.size _
 have hkl := HKL.out
 clear hown2 hb2 hbs hm
 go_wp2_with (at_builtin; go_must (refine zAf zBf rfl _ _ rfl w.heap.size _ _ _ rfl HOE.out _ ((bs.map u8v).map fun u => [u]) rfl HRL.out HON.out (by simp; have := HM.out; omega) hszB (1 + m) (by have := HM.out; simp; omega) ?_); intro ao4 cap4 w4 hown4 hgrow4 hnew4; have HO4 := hid hown4; have HG4 := hid hgrow4; clear hown4 hgrow4 hnew4)
 go_ret2
 have hba : Below w.heap.size w (w2.alloc (.cells #[.int .u8 (1 : Int)] 5)) := HB2.out.trans ((zAd w2 _).mono HB2.out.size)
 refine ⟨?_, zAk hba hszB (show (w2.alloc (.cells #[.int .u8 (1 : Int)] 5)).grownBy w4 (Value.slice (some ⟨w2.heap.size, 0, none⟩) 1 1).ownBlock from HG4.out) (zAg HOE.out)⟩
 rw [HT.out]
 have h := HO4.out
 rw [zAp] at h
 exact ⟨_, rfl, OwnB.of h⟩
theorem zLj (ps : Row) (lv : Value) (w : World) (hI : ∀ x ∈ xs ps, Fit x) (hl : ps.length <= 65535) (hr : Rd w lv (vs ps)) (he : Els w ps) :
  Calls Tryz.prog 103 #[.int .i64 2, lv] w fun e w' => RetTell w.heap.size (tellT 2 (xs ps)) e w' ∧ Below w.heap.size w w' := by
 have HT := hid (show tellT 2 (xs ps) = some (2 :: kindT 2 (xs ps)) from by
  unfold tellT
  have h0 := zB0 hI
  unfold anyLong longB at h0
  rw [if_neg (by rw [h0, zAt]; simp; omega)]
  rfl)
 have HKL := hid (zB6 2 (xs ps) hI (by rw [zAt]; exact hl))
 obtain ⟨ao, cap, rfl⟩ := zAh hr
 obtain ⟨n, hn⟩ : ∃ n, n = ps.length := ⟨_, rfl⟩
 rw [zA1, <- hn] at hr ⊢
 rw [<- hn] at hl
 have HR := hid hr
 have HN := hid hn
 have HI := hid hI
 have HE := hid he
 have HLG := hid (zDz ps (.slice ao n cap) w (by rw [<- hn]; omega) hr he)
 rw [zB0 hI] at HLG
 have h1 : decide ((n : Int) > 65535) = false := decide_eq_false (by omega)
 have h2 : ¬ ((n : Int) > 65535) := by omega
 clear hr hn hI he
 go_enter Tryz.func103, Tryz.ntmps103
 have HC := hid fun w' (h : Below w.heap.size w w') => zG6 ps (.slice ao n cap) w' HI.out (by rw [<- HN.out]; omega) (HR.out.kept h) (HE.out.kept h)
 go_wp2_with fail
 refine HLG.out.mono ?_
 rintro e w0 ⟨rfl, hb0⟩
 have HB0 := hid hb0
 have HNB := hid (zEh w0)
 clear hb0 HLG
 go_wp2_with fail
 refine HNB.out.mono ?_
 rintro e w1 ⟨rfl, hb1⟩
 have HB1 := hid (zAa HB0.out hb1)
 clear hb1
 go_wp2_with fail
 refine (HC.out w1 HB1.out).mono ?_
 rintro e w2 ⟨v2, rfl, hown20, hb20⟩
 have hown2 : OwnB w.heap.size w2 v2 (kindT 2 (xs ps)) := zAo hown20 HB1.out.size
 have hb2 : Below w.heap.size w w2 := zAa HB1.out hb20
 clear hown20 hb20 HC HNB
 obtain ⟨bs, hbs⟩ : ∃ bs, bs = kindT 2 (xs ps) := ⟨_, rfl⟩
 rw [<- hbs] at hown2 HT HKL
 obtain ⟨ao2, cap2, rfl⟩ := hown2.shape
 obtain ⟨m, hm⟩ : ∃ m, m = bs.length := ⟨_, rfl⟩
 have HM := hid hm
 rw [<- hm] at hown2 HKL ⊢
 have HB2 := hid hb2
 have HOE := hid (show (w2.alloc (.cells #[.int .u8 (2 : Int)] 5)).ownsRow w.heap.size 5 1 (.slice (some ⟨w2.heap.size, 0, none⟩) 1 1) 1 [.int .u8 (2 : Int)] from World.ownsRow_lit w2 #[.int .u8 (2 : Int)] 1 HB2.out.size (by unfold maxLen; omega) rfl)
 have HRL := hid (zAs (show Rd (w2.alloc (.cells #[.int .u8 (2 : Int)] 5)) (.slice ao2 m cap2) (bs.map u8v) from (show Rd w2 (.slice ao2 m cap2) (bs.map u8v) from by subst hm; exact OwnB.rd hown2).kept (zAd w2 _)))
 have HON := hid (zAr (zAq bs))
 have hszB : w.heap.size <= (w2.alloc (.cells #[.int .u8 (2 : Int)] 5)).heap.size := zA7 HB2.out.size _
 have hkl := HKL.out
 clear hown2 hb2 hbs hm
 go_wp2_with (at_builtin; go_must (refine zAf zBf rfl _ _ rfl w.heap.size _ _ _ rfl HOE.out _ ((bs.map u8v).map fun u => [u]) rfl HRL.out HON.out (by simp; have := HM.out; omega) hszB (1 + m) (by have := HM.out; simp; omega) ?_); intro ao4 cap4 w4 hown4 hgrow4 hnew4; have HO4 := hid hown4; have HG4 := hid hgrow4; clear hown4 hgrow4 hnew4)
 go_ret2
 have hba : Below w.heap.size w (w2.alloc (.cells #[.int .u8 (2 : Int)] 5)) := HB2.out.trans ((zAd w2 _).mono HB2.out.size)
 refine ⟨?_, zAk hba hszB (show (w2.alloc (.cells #[.int .u8 (2 : Int)] 5)).grownBy w4 (Value.slice (some ⟨w2.heap.size, 0, none⟩) 1 1).ownBlock from HG4.out) (zAg HOE.out)⟩
 rw [HT.out]
 have h := HO4.out
 rw [zAp] at h
 exact ⟨_, rfl, OwnB.of h⟩
theorem zLk (ps : Row) (lv : Value) (w : World) (hI : ∀ x ∈ xs ps, Fit x) (hl : ps.length <= 65535) (hr : Rd w lv (vs ps)) (he : Els w ps) :
  Calls Tryz.prog 103 #[.int .i64 4, lv] w fun e w' => RetTell w.heap.size (tellT 4 (xs ps)) e w' ∧ Below w.heap.size w w' := by
 have HT := hid (show tellT 4 (xs ps) = some (4 :: kindT 4 (xs ps)) from by
  unfold tellT
  have h0 := zB0 hI
  unfold anyLong longB at h0
  rw [if_neg (by rw [h0, zAt]; simp; omega)]
  rfl)
 have HKL := hid (zB6 4 (xs ps) hI (by rw [zAt]; exact hl))
 obtain ⟨ao, cap, rfl⟩ := zAh hr
 obtain ⟨n, hn⟩ : ∃ n, n = ps.length := ⟨_, rfl⟩
 rw [zA1, <- hn] at hr ⊢
 rw [<- hn] at hl
 have HR := hid hr
 have HN := hid hn
 have HI := hid hI
 have HE := hid he
 have HLG := hid (zDz ps (.slice ao n cap) w (by rw [<- hn]; omega) hr he)
 rw [zB0 hI] at HLG
 have h1 : decide ((n : Int) > 65535) = false := decide_eq_false (by omega)
 have h2 : ¬ ((n : Int) > 65535) := by omega
 clear hr hn hI he
 go_enter Tryz.func103, Tryz.ntmps103
 have HC := hid fun w' (h : Below w.heap.size w w') => zHd ps (.slice ao n cap) w' HI.out (by rw [<- HN.out]; omega) (HR.out.kept h) (HE.out.kept h)
 go_wp2_with fail
 refine HLG.out.mono ?_
 rintro e w0 ⟨rfl, hb0⟩
 have HB0 := hid hb0
 have HNB := hid (zEh w0)
 clear hb0 HLG
 go_wp2_with fail
 refine HNB.out.mono ?_
 rintro e w1 ⟨rfl, hb1⟩
 have HB1 := hid (zAa HB0.out hb1)
 clear hb1
 go_wp2_with fail
 refine (HC.out w1 HB1.out).mono ?_
 rintro e w2 ⟨v2, rfl, hown20, hb20⟩
 have hown2 : OwnB w.heap.size w2 v2 (kindT 4 (xs ps)) := zAo hown20 HB1.out.size
 have hb2 : Below w.heap.size w w2 := zAa HB1.out hb20
 clear hown20 hb20 HC HNB
 obtain ⟨bs, hbs⟩ : ∃ bs, bs = kindT 4 (xs ps) := ⟨_, rfl⟩
 rw [<- hbs] at hown2 HT HKL
 obtain ⟨ao2, cap2, rfl⟩ := hown2.shape
 obtain ⟨m, hm⟩ : ∃ m, m = bs.length := ⟨_, rfl⟩
 have HM := hid hm
 rw [<- hm] at hown2 HKL ⊢
 have HB2 := hid hb2
 have HOE := hid (show (w2.alloc (.cells #[.int .u8 (4 : Int)] 5)).ownsRow w.heap.size 5 1 (.slice (some ⟨w2.heap.size, 0, none⟩) 1 1) 1 [.int .u8 (4 : Int)] from World.ownsRow_lit w2 #[.int .u8 (4 : Int)] 1 HB2.out.size (by unfold maxLen; omega) rfl)
 have HRL := hid (zAs (show Rd (w2.alloc (.cells #[.int .u8 (4 : Int)] 5)) (.slice ao2 m cap2) (bs.map u8v) from (show Rd w2 (.slice ao2 m cap2) (bs.map u8v) from by subst hm; exact OwnB.rd hown2).kept (zAd w2 _)))
 have HON := hid (zAr (zAq bs))
 have hszB : w.heap.size <= (w2.alloc (.cells #[.int .u8 (4 : Int)] 5)).heap.size := zA7 HB2.out.size _
 have hkl := HKL.out
 clear hown2 hb2 hbs hm
 go_wp2_with (at_builtin; go_must (refine zAf zBf rfl _ _ rfl w.heap.size _ _ _ rfl HOE.out _ ((bs.map u8v).map fun u => [u]) rfl HRL.out HON.out (by simp; have := HM.out; omega) hszB (1 + m) (by have := HM.out; simp; omega) ?_); intro ao4 cap4 w4 hown4 hgrow4 hnew4; have HO4 := hid hown4; have HG4 := hid hgrow4; clear hown4 hgrow4 hnew4)
 go_ret2
 have hba : Below w.heap.size w (w2.alloc (.cells #[.int .u8 (4 : Int)] 5)) := HB2.out.trans ((zAd w2 _).mono HB2.out.size)
 refine ⟨?_, zAk hba hszB (show (w2.alloc (.cells #[.int .u8 (4 : Int)] 5)).grownBy w4 (Value.slice (some ⟨w2.heap.size, 0, none⟩) 1 1).ownBlock from HG4.out) (zAg HOE.out)⟩
 rw [HT.out]
 have h := HO4.out
 rw [zAp] at h
 exact ⟨_, rfl, OwnB.of h⟩
theorem zJa (k : Int) (ps : Row) (lv : Value) (w : World) (hl : ps.length <= 100000) (hk : ps.length <= 65535 -> anyLong (xs ps) = false -> k ≠ 1 ∧ k ≠ 2 ∧ k ≠ 4) (hr : Rd w lv (vs ps)) (he : Els w ps) :
  Calls Tryz.prog 103 #[.int .i64 k, lv] w fun e w' => RetTell w.heap.size (tellT k (xs ps)) e w' ∧ Below w.heap.size w w' := by
 have HT := hid (show tellT k (xs ps) = none from by
  unfold tellT
  rw [if_pos]
  rw [zAt]
  by_cases h1 : 65535 < ps.length
  ·exact .inl h1
  ·cases h2 : anyLong (xs ps) with
   | true => exact .inr (.inr (.inr (.inr h2)))
   | false =>
    have := hk (by omega) h2
    omega)
 obtain ⟨ao, cap, rfl⟩ := zAh hr
 obtain ⟨n, hn⟩ : ∃ n, n = ps.length := ⟨_, rfl⟩
 rw [zA1, <- hn] at hr ⊢
 have HLG := hid (zDz ps (.slice ao n cap) w (by omega) hr he)
 rw [<- hn] at hl hk
 clear hr hn he
 by_cases hb : 65535 < n
 ·have h1 : decide ((n : Int) > 65535) = true := decide_eq_true (by omega)
  have h2 : (n : Int) > 65535 := by omega
  clear hk
  go_enter Tryz.func103, Tryz.ntmps103
  go_wp2_with fail
  go_ret2
  refine ⟨?_, Qf _ _⟩
  rw [HT.out]
  rfl
 ·have h1 : decide ((n : Int) > 65535) = false := decide_eq_false (by omega)
  have h2 : ¬ ((n : Int) > 65535) := by omega
  obtain ⟨B, hB⟩ : ∃ B, B = anyLong (xs ps) := ⟨_, rfl⟩
  rw [<- hB] at HLG hk
  cases B
  ·obtain ⟨b1, b2, b4⟩ := hk (by omega) rfl
   have c1 : (k == 1) = false := beq_eq_false_iff_ne.2 b1
   have c2 : (k == 2) = false := beq_eq_false_iff_ne.2 b2
   have c4 : (k == 4) = false := beq_eq_false_iff_ne.2 b4
   have d1 : ¬ (k = 1) := b1
   have d2 : ¬ (k = 2) := b2
   have d4 : ¬ (k = 4) := b4
   clear hk hB b1 b2 b4
   go_enter Tryz.func103, Tryz.ntmps103
   go_wp2_with fail
   refine HLG.out.mono ?_
   rintro e w0 ⟨rfl, hb0⟩
   have HB0 := hid hb0
   clear hb0
   go_wp2_with fail
   go_ret2
   refine ⟨?_, HB0.out⟩
   rw [HT.out]
   rfl
  ·clear hk hB
   go_enter Tryz.func103, Tryz.ntmps103
   go_wp2_with fail
   refine HLG.out.mono ?_
   rintro e w0 ⟨rfl, hb0⟩
   have HB0 := hid hb0
   clear hb0
   go_wp2_with fail
   go_ret2
   refine ⟨?_, HB0.out⟩
   rw [HT.out]
   rfl
theorem zGj (k : Int) (ps : Row) (lv : Value) (w : World) (h8 : ∀ x ∈ xs ps, ∀ a ∈ x, a < 256) (hl : ps.length <= 100000) (hr : Rd w lv (vs ps)) (he : Els w ps) :
  Calls Tryz.prog 103 #[.int .i64 k, lv] w fun e w' => RetTell w.heap.size (tellT k (xs ps)) e w' ∧ Below w.heap.size w w' := by
 by_cases hn : ps.length <= 65535 -> anyLong (xs ps) = false -> k ≠ 1 ∧ k ≠ 2 ∧ k ≠ 4
 ·exact zJa k ps lv w hl hn hr he
 ·have h1 : ps.length <= 65535 := by
   rcases Qa 65535 ps.length with h | h
   ·exact absurd (fun h2 => by omega) hn
   ·exact h
  have h2 : anyLong (xs ps) = false := by
   cases h2 : anyLong (xs ps) with
   | false => rfl
   | true => exact absurd (fun _ h3 => by rw [h2] at h3; cases h3) hn
  have hI := zQ2 h8 h2
  have h3 : k = 1 ∨ k = 2 ∨ k = 4 := by
   by_cases a1 : k = 1
   ·exact .inl a1
   ·by_cases a2 : k = 2
    ·exact .inr (.inl a2)
    ·by_cases a4 : k = 4
     ·exact .inr (.inr a4)
     ·exact absurd (fun _ _ => ⟨a1, a2, a4⟩) hn
  rcases h3 with rfl | rfl | rfl
  ·exact zLi ps lv w hI h1 hr he
  ·exact zLj ps lv w hI h1 hr he
  ·exact zLk ps lv w hI h1 hr he
theorem zEv : ∀ (m : Nat) (l : List By), l.length <= m -> l.length <= 100000 -> (∀ n ∈ l, Fit n) -> ∀ x ∈ runsT l, x < 256
 | 0, l, h0, _, _, x, hx => by
  have : l = [] := Qk.1 (by omega)
  subst this
  simp [runsT, grp] at hx
 | m + 1, l, h0, hl, hI, x, hx => by
  by_cases hp : 0 < l.length
  ·obtain ⟨n, a, h1, h2, h3, h4, h5, h6, h7, h8⟩ := zB9 l hp
   rw [h7, Qb, Qb] at hx
   rcases hx with (hx | hx) | hx
   ·exact zCt n (by omega) x hx
   ·exact zEk (hI a (Qi h4)) x hx
   ·exact zEv m (l.drop n) (by rw [Ql]; omega) (by rw [Ql]; omega) (fun z hz => hI z (List.mem_of_mem_drop hz)) x hx
  ·have : l = [] := Qk.1 (by omega)
   subst this
   simp [runsT, grp] at hx
theorem zIc (k : Int) (l : List By) (hI : ∀ n ∈ l, Fit n) (h : l.length <= 65535) : ∀ x ∈ kindT k l, x < 256 := by
 intro x hx
 unfold kindT at hx
 split at hx
 ·exact zD0 hI x hx
 ·split at hx
  ·exact zEv _ l (Qd _) (by omega) hI x hx
  ·unfold dictT at hx
   have h0 := zA9 l
   rw [Qb, Qb] at hx
   rcases hx with (hx | hx) | hx
   ·exact zCt _ (by omega) x hx
   ·exact zD0 (fun z hz => hI z ((zAx l z).1 hz)) x hx
   ·exact zEw _ _ x hx
theorem zEg (wd : Nat) (us : List Nat) (h : wd <= 64) (hl : us.length <= 300) : (packB wd us).length <= 3000 := by
 rw [zAy]
 have h2 : wd * us.length <= 64 * 300 := Nat.mul_le_mul h hl
 omega
theorem zFq (k : Int) (l : List By) (hI : ∀ n ∈ l, Fit n) (h : l.length <= 300) : (kindT k l).length <= 40000 := by
 unfold kindT
 split
 ·have := zA3 l hI; omega
 ·split
  ·have := zD1 l hI; omega
  ·unfold dictT
   have h0 := zA9 l
   have h1 := zA3 (wordsT l) (fun x hx => hI x ((zAx l x).1 hx))
   have h2 := zEg (Lib.bitLen ((wordsT l).length - 1)) (l.map (placeT (wordsT l))) (bitLen_le _ (by omega)).1 (by rw [Qj]; exact h)
   have h3 : (numC (wordsT l).length).length <= 10 := (zA5 9 _).1
   rw [Qe, Qe]
   omega
theorem zHe (k : Int) (hk : k = 1 ∨ k = 2 ∨ k = 4) (l : List By) (hI : ∀ n ∈ l, Fit n) (hl : l.length <= 300) : tellT k l = some (k.toNat :: kindT k l) := by
 unfold tellT
 have h0 := zB0 hI
 unfold anyLong longB at h0
 rw [if_neg (by rw [h0]; simp; omega)]
theorem zJb (k : Int) (hk : k = 1 ∨ k = 2 ∨ k = 4) (l : List By) (hI : ∀ n ∈ l, Fit n) (hl : l.length <= 300) : (∀ x ∈ k.toNat :: kindT k l, x < 256) ∧ (k.toNat :: kindT k l).length <= 40001 := by
 refine ⟨fun x hx => ?_, by rw [List.length_cons]; have := zFq k l hI hl; omega⟩
 rcases List.mem_cons.1 hx with rfl | hx
 ·omega
 ·exact zIc k l hI (by omega) x hx
def bestN (l : List By) : Nat -> List Nat
 | 0 => []
 | q + 1 => if q = 2 then bestN l q else if q = 0 ∨ ((q + 1) :: kindT ((q : Int) + 1) l).length < (bestN l q).length then (q + 1) :: kindT ((q : Int) + 1) l else bestN l q
theorem zCs (l : List By) : ∀ q, 0 < q -> (∃ k : Nat, 1 <= k ∧ k <= q ∧ k ≠ 3 ∧ bestN l q = k :: kindT (k : Int) l) ∧ (∀ k : Nat, 1 <= k -> k <= q -> k ≠ 3 -> (bestN l q).length <= (k :: kindT (k : Int) l).length) ∧ (∀ k : Nat, 1 <= k -> k <= q -> k ≠ 3 -> (bestN l q).length = (k :: kindT (k : Int) l).length -> ∀ x, (bestN l q)[0]? = some x -> x <= k)
 | 0, h => by omega
 | q + 1, _ => by
  by_cases h0 : q = 0
  ·subst h0
   have e : bestN l (0 + 1) = 1 :: kindT (((1 : Nat) : Int)) l := by rw [bestN, if_neg (by omega), if_pos (.inl rfl)]; rfl
   rw [e]
   refine ⟨⟨1, by omega, by omega, by omega, rfl⟩, fun k h1 h2 _ => ?_, fun k h1 h2 _ _ x hx => ?_⟩
   ·rw [show k = 1 by omega]; exact Qd _
   ·rw [Qg] at hx
    have := Option.some.inj hx
    omega
  ·obtain ⟨⟨k, hk1, hk2, hk5, hk3⟩, hall, hlow⟩ := zCs l q (by omega)
   have en : (((q + 1 : Nat)) : Int) = (q : Int) + 1 := by omega
   by_cases hq2 : q = 2
   ·have e : bestN l (q + 1) = bestN l q := by rw [bestN, if_pos hq2]
    rw [e]
    exact ⟨⟨k, hk1, by omega, hk5, hk3⟩, fun j h1 h2 h3 => hall j h1 (by omega) h3, fun j h1 h2 h3 h4 x hx => hlow j h1 (by omega) h3 h4 x hx⟩
   ·by_cases hlt : ((q + 1) :: kindT ((q : Int) + 1) l).length < (bestN l q).length
    ·have e : bestN l (q + 1) = (q + 1) :: kindT (((q + 1 : Nat) : Int)) l := by rw [bestN, if_neg hq2, if_pos (.inr hlt), en]
     rw [e]
     refine ⟨⟨q + 1, by omega, by omega, by omega, rfl⟩, fun k h1 h2 h5 => ?_, fun k h1 h2 h5 h3 x hx => ?_⟩
     ·rcases Qa k (q + 1) with h | h
      ·have := hall k h1 (by omega) h5
       rw [en]
       omega
      ·rw [show k = q + 1 by omega]; exact Qd _
     ·rcases Qa k (q + 1) with h | h
      ·have := hall k h1 (by omega) h5
       rw [en] at h3
       omega
      ·rw [Qg] at hx
       have := Option.some.inj hx
       omega
    ·have e : bestN l (q + 1) = bestN l q := by rw [bestN, if_neg hq2, if_neg (by rintro (h | h) <;> omega)]
     rw [e]
     refine ⟨⟨k, hk1, by omega, hk5, hk3⟩, fun j h1 h2 h5 => ?_, fun j h1 h2 h5 h3 x hx => ?_⟩
     ·rcases Qa j (q + 1) with h | h
      ·exact hall j h1 (by omega) h5
      ·rw [show j = q + 1 by omega, en]; omega
     ·rcases Qa j (q + 1) with h | h
      ·exact hlow j h1 (by omega) h5 h3 x hx
      ·rw [hk3, Qg] at hx
       have := Option.some.inj hx
       omega
theorem zId (k : Int) (hk : k = 1 ∨ k = 2 ∨ k = 4) (X : Nat) (ps : Row) (lv : Value) (w : World) (hI : ∀ x ∈ xs ps, Fit x) (hl : ps.length <= 300) (hr : Rd w lv (vs ps)) (he : Els w ps) (hx : w.cell? ⟨X, 0, none⟩ = some lv) :
  Calls Tryz.prog 102 #[.int .i64 k, .pointer (some ⟨X, 0, none⟩)] w fun e w' => ∃ v, e = .returned (.tuple #[v, .bool true]) ∧ OwnB w.heap.size w' v (k.toNat :: kindT k (xs ps)) ∧ Below w.heap.size w w' := by
 obtain ⟨ao, cap, rfl⟩ := zAh hr
 rw [zA1] at hr hx
 have hT := zGj k ps (.slice ao ps.length cap) w (fun x hx => (hI x hx).1) (by omega) hr he
 rw [zHe k hk (xs ps) hI (by rw [zAt]; exact hl)] at hT
 obtain ⟨bs, hbs⟩ : ∃ bs, bs = k.toNat :: kindT k (xs ps) := ⟨_, rfl⟩
 rw [<- hbs] at hT ⊢
 obtain ⟨n, hn⟩ : ∃ n, n = ps.length := ⟨_, rfl⟩
 rw [<- hn] at hT hx
 have HT := hid hT
 clear hT hr hk hl hn hI he hbs
 go_enter Tryz.func102, Tryz.ntmps102
 go_wp2_with fail
 refine HT.out.mono ?_
 rintro e w2 ⟨⟨v, rfl, hown⟩, hb⟩
 have HO := hid hown
 have HB := hid hb
 clear hown hb
 go_wp2_with fail
 go_ret2
 exact ⟨v, rfl, HO.out, HB.out⟩
theorem zSh (k : Int) (hk : k = 3) (X : Nat) (ps : Row) (lv : Value) (w : World) (hI : ∀ x ∈ xs ps, Fit x) (hl : ps.length <= 300) (hr : Rd w lv (vs ps)) (he : Els w ps) (hx : w.cell? ⟨X, 0, none⟩ = some lv) :
  Calls Tryz.prog 102 #[.int .i64 k, .pointer (some ⟨X, 0, none⟩)] w fun e w' => e = .returned (.tuple #[.slice none 0 0, .bool false]) ∧ Below w.heap.size w w' := by
 obtain ⟨ao, cap, rfl⟩ := zAh hr
 rw [zA1] at hr hx
 have hT := zGj k ps (.slice ao ps.length cap) w (fun x hx => (hI x hx).1) (by omega) hr he
 have ht : tellT k (xs ps) = none := by unfold tellT; rw [if_pos (.inr (.inr (.inr (.inl hk))))]
 rw [ht] at hT
 obtain ⟨n, hn⟩ : ∃ n, n = ps.length := ⟨_, rfl⟩
 rw [<- hn] at hT hx
 have HT := hid hT
 clear hT hr hk hl hn hI he ht
 go_enter Tryz.func102, Tryz.ntmps102
 go_wp2_with fail
 refine HT.out.mono ?_
 rintro e w2 ⟨hret, hb⟩
 obtain rfl : e = .returned (.tuple #[.slice none 0 0, .bool false]) := hret
 have HB := hid hb
 clear hb
 go_wp2_with fail
 go_ret2
 exact ⟨rfl, HB.out⟩
theorem zEx (X : Nat) (ps : Row) (lv : Value) (w : World) (hI : ∀ x ∈ xs ps, Fit x) (hl : ps.length <= 300) (hr : Rd w lv (vs ps)) (he : Els w ps) (hx : w.cell? ⟨X, 0, none⟩ = some lv) :
  Calls Tryz.prog 99 #[.int .i64 4, .func (.func 102) #[] #[.pointer (some ⟨X, 0, none⟩)]] w fun e w' => ∃ v, e = .returned v ∧ OwnB w.heap.size w' v (bestN (xs ps) 4) ∧ Below w.heap.size w w' := by
 have HE := hid (show ∀ (k : Int) w', k = 1 ∨ k = 2 ∨ k = 4 -> Below w.heap.size w w' -> Calls Tryz.prog 102 #[.int .i64 k, .pointer (some ⟨X, 0, none⟩)] w' fun e w'' => ∃ ao n cap, e = .returned (.tuple #[.slice ao n cap, .bool true]) ∧ OwnB w.heap.size w'' (.slice ao n cap) (k.toNat :: kindT k (xs ps)) ∧ n = (k.toNat :: kindT k (xs ps)).length ∧ Below w'.heap.size w' w'' from fun k w' hk hb => by
  refine (zId k hk X ps lv w' hI hl (hr.kept hb) (he.kept hb) ((hb.cell (Qm _ _ hx)).trans hx)).mono ?_
  rintro e w'' ⟨v, he, ho, hb2⟩
  obtain ⟨ao, cap, rfl⟩ := ho.shape
  exact ⟨ao, _, cap, he, zAo ho hb.size, rfl, hb2⟩)
 have HE3 := hid (show ∀ w', Below w.heap.size w w' -> Calls Tryz.prog 102 #[.int .i64 3, .pointer (some ⟨X, 0, none⟩)] w' fun e w'' => e = .returned (.tuple #[.slice none 0 0, .bool false]) ∧ Below w'.heap.size w' w'' from fun w' hb => zSh 3 rfl X ps lv w' hI hl (hr.kept hb) (he.kept hb) ((hb.cell (Qm _ _ hx)).trans hx))
 clear hI hl hr hx he
 go_enter Tryz.func99, Tryz.ntmps99
 go_wp2_with fail
 go_loopw [5, 6] (fun b k wr => ∃ q : Nat, q <= 4 ∧ k = .int .i64 ((q : Int) + 1) ∧ OwnB w.heap.size wr b (bestN (xs ps) q) ∧ Below w.heap.size w wr ∧ (q = 0 -> b = .slice none 0 0)) (fun _ k _ => 5 - (intOf k).toNat)
 case atStart => exact ⟨0, by omega, rfl, zA6 _ _, Qf _ _, fun _ => rfl⟩
 case round =>
  obtain ⟨q, hq, rfl, hown, hbel, hnone⟩ := hrel
  obtain ⟨ao, cap, rfl⟩ := hown.shape
  obtain ⟨n, hn⟩ : ∃ n, n = (bestN (xs ps) q).length := ⟨_, rfl⟩
  rw [<- hn] at hown hnone ⊢
  have HO := hid (show wr.ownsRow w.heap.size 5 1 (.slice ao n cap) n ((bestN (xs ps) q).map u8v) from by subst hn; exact hown)
  have HN := hid hn
  have HB := hid hbel
  have HNONE := hid (show q = 0 -> ao = none ∧ n = 0 ∧ cap = 0 from fun h => by have := hnone h; simp only [Value.slice.injEq] at this; exact ⟨this.1, by omega, this.2.2⟩)
  clear hown hn hbel hnone
  by_cases hq4 : q < 4
  ·have hk1 : (q : Int) + 1 <= 4 := by omega
   by_cases hq2 : q = 2
   ·subst hq2
    have hbl := (zCs (xs ps) 2 (by omega)).1
    have HC := hid (HE3.out wr HB.out)
    have hk2 : (((2 : Nat) : Int) + 1) = 3 := rfl
    clear hbl
    rw [hk2]
    go_wp2_with fail
    refine HC.out.mono ?_
    rintro e w2 ⟨rfl, hb2⟩
    have HB2 := hid (zAa HB.out hb2)
    have HOK := hid (show OwnB w.heap.size w2 (.slice ao n cap) (bestN (xs ps) 2) from OwnB.of <| HO.out.kept (zAb hb2 none) (by cases h : (Value.slice ao n cap).ownBlock with | none => exact .inl rfl | some g => exact .inr (by simp)))
    clear hb2
    go_wp2_with fail
    go_roundw
    case rel => exact ⟨2 + 1, by omega, by go_num, by rw [bestN, if_pos rfl]; exact HOK.out, HB2.out, fun h => by omega⟩
    case measure => simp [intOf]
   ·have HC := hid (HE.out ((q : Int) + 1) wr (by omega) HB.out)
    go_wp2_with fail
    refine HC.out.mono ?_
    rintro e w2 ⟨ao2, n2, cap2, rfl, hown2, hn2, hb2⟩
    rw [show ((q : Int) + 1).toNat = q + 1 by omega] at hown2 hn2
    have HO2 := hid hown2
    have HB2 := hid (zAa HB.out hb2)
    have HN2 := hid hn2
    have HOK := hid (show OwnB w.heap.size w2 (.slice ao n cap) (bestN (xs ps) q) from OwnB.of <| HO.out.kept (zAb hb2 none) (by cases h : (Value.slice ao n cap).ownBlock with | none => exact .inl rfl | some g => exact .inr (by simp)))
    clear hown2 hn2 hb2
    by_cases h0 : q = 0
    ·subst h0
     obtain ⟨rfl, rfl, rfl⟩ := HNONE.out rfl
     have heq := fun (w' : World) => Lib.run_eql_slice_nil (P := Tryz.prog) w' 29 5 none 0 0 0 0 Tryz.underlying29
     go_wp2_with fail
     go_roundw
     case rel =>
      refine ⟨0 + 1, by omega, rfl, ?_, HB2.out, fun h => by omega⟩
      rw [bestN, if_neg (by omega), if_pos (.inl rfl)]
      exact HO2.out
     case measure => simp [intOf]
    ·have hbl := (zCs (xs ps) q (by omega)).1
     have hnp : 0 < n := by
      obtain ⟨k, _, _, _, e⟩ := hbl
      rw [HN.out, e]; simp
     obtain ⟨g, rfl⟩ : ∃ g, ao = some ⟨g, 0, none⟩ := by
      rcases HO.out.2 with ⟨hv, _⟩ | ⟨g, c, cur, h1, _⟩
      ·simp only [Value.slice.injEq] at hv; omega
      ·simp only [Value.slice.injEq] at h1; exact ⟨g, h1.1⟩
     have heq := fun (w' : World) => Lib.run_eql_slice_nil (P := Tryz.prog) w' 29 5 (some ⟨g, 0, none⟩) n cap 0 0 Tryz.underlying29
     clear hbl
     by_cases hlt : n2 < n
     ·have hlti : (n2 : Int) < (n : Int) := by omega
      go_wp2_with fail
      go_roundw
      case rel =>
       refine ⟨q + 1, by omega, by go_num, ?_, HB2.out, fun h => by omega⟩
       rw [bestN, if_neg hq2, if_pos (.inr (by rw [<- HN2.out, <- HN.out]; exact hlt))]
       exact HO2.out
      case measure => simp [intOf]; omega
     ·have hlti : ¬ (n2 : Int) < (n : Int) := by omega
      go_wp2_with fail
      go_roundw
      case rel =>
       refine ⟨q + 1, by omega, by go_num, ?_, HB2.out, fun h => by omega⟩
       rw [bestN, if_neg hq2, if_neg (by rw [<- HN2.out, <- HN.out]; omega)]
       exact HOK.out
      case measure => simp [intOf]; omega
  ·have hq4e : q = 4 := by omega
   subst hq4e
   have hk1 : ¬ ((4 : Nat) : Int) + 1 <= 4 := by omega
   go_wp2_with fail
   go_ret
   exact ⟨_, rfl, OwnB.of HO.out, HB.out⟩
theorem zQ3 (ps : Row) (lv : Value) (w : World) (hI : ∀ x ∈ xs ps, Fit x) (hl : ps.length <= 300) (hr : Rd w lv (vs ps)) (he : Els w ps) :
  Calls Tryz.prog 74 #[lv] w fun e w' => ∃ v, e = .returned v ∧ OwnB w.heap.size w' v (bestN (xs ps) 4) ∧ Below w.heap.size w w' := by
 obtain ⟨ao, cap, rfl⟩ := zAh hr
 obtain ⟨n, hn⟩ : ∃ n, n = ps.length := ⟨_, rfl⟩
 rw [zA1, <- hn] at hr ⊢
 obtain ⟨W1, hW1⟩ : ∃ W1 : World, W1 = w.alloc (.cells #[.slice ao n cap] 41) := ⟨_, rfl⟩
 have hb1 : Below w.heap.size w W1 := by rw [hW1]; exact zAd w _
 have hx : W1.cell? ⟨w.heap.size, 0, none⟩ = some (.slice ao n cap) := by rw [hW1, cell_of_row _ w.heap.size 0 _ _ _ (heap_alloc_new w _)]; rfl
 have HS := hid (zEx w.heap.size ps (.slice ao n cap) W1 hI (by omega) (hr.kept hb1) (he.kept hb1) hx)
 have HB1 := hid hb1
 have HW1 := hid hW1
 clear hr hn hb1 hx hW1 he
 go_enter Tryz.func74, Tryz.ntmps74
 go_upto_region 1 with (fail)
 rw [<- HW1.out]
 go_wp2_with fail
 refine HS.out.mono ?_
 rintro e w2 ⟨v, rfl, hown, hb⟩
 have HO := hid hown
 have HB := hid hb
 clear hown hb
 go_wp2_with fail
 go_ret
 exact ⟨v, rfl, zAo HO.out HB1.out.size, zAa HB1.out HB.out⟩
theorem zEy (l : List By) (hI : ∀ n ∈ l, Fit n) (hl : l.length <= 300) : decT (bestN l 4) (l.length : Int) = some l ∧ (∀ x ∈ bestN l 4, x < 256) ∧ (bestN l 4).length <= 40001 := by
 obtain ⟨⟨k, hk1, hk2, hk4, hk3⟩, _, _⟩ := zCs l 4 (by omega)
 have e : (k : Int).toNat = k := by omega
 have h1 := zH3 (k : Int) (by omega) l (by omega) hI
 have h2 := zJb (k : Int) (by omega) l hI hl
 rw [e] at h1 h2
 rw [hk3]
 exact ⟨h1, h2.1, h2.2⟩
theorem zOd {a b c : World} {r r' : Option Nat} (h : a.grownBy b r) (k : b.grownBy c r') (hr : ∀ g, r' = some g -> r = some g ∨ a.heap.size <= g) : a.grownBy c r :=
 ⟨k.os.trans h.os, k.tape.trans h.tape, k.output.trans h.output, Nat.le_trans h.size k.size, fun i hi hne => (k.block i (Nat.lt_of_lt_of_le hi h.size) (fun e => by
  rcases hr i e.symm with h1 | h1
  ·exact hne h1.symm
  ·omega)).trans (h.block i hi hne)⟩
structure Far (base : Nat) (w : World) (v : Value) (ps : Row) : Prop where
 row : OwnR base w v ps
 far : ∀ w', w.grownBy w' v.ownBlock -> Els w' ps
theorem Far.els {base : Nat} {w : World} {v : Value} {ps : Row} (h : Far base w v ps) : Els w ps := h.far w (World.grownBy.refl _ _)
theorem Far.kept {base : Nat} {w w' : World} {v : Value} {ps : Row} (h : Far base w v ps) (hb : Below w.heap.size w w') : Far base w' v ps :=
 ⟨zPs h.row hb, fun w2 hg => h.far w2 (zAc (zAb hb _) hg)⟩
theorem Far.snoc {base : Nat} {w w2 w9 : World} {v v' u : Value} {ps : Row} {x : By} (h : Far base w v ps) (hb : Below w.heap.size w w2) (hu : ∀ w'', w2.grownBy w'' v.ownBlock -> Rd w'' u (x.map u8v))
  (h9 : w9.ownsRow base 29 1 v' (ps.length + 1) (vs ps ++ [u])) (hg : w2.grownBy w9 v.ownBlock) (hn : ∀ g, v'.ownBlock = some g -> v.ownBlock = some g ∨ w2.heap.size <= g) : Far base w9 v' (ps ++ [(u, x)]) := by
 refine ⟨OwnR.of (n := ps.length + 1) (by rw [zEn]; exact h9), fun w'' hw p hp => ?_⟩
 have h1 := zOd hg hw hn
 rcases Qb.1 hp with hp | hp
 ·exact h.far w'' (zAc (zAb hb _) h1) p hp
 ·obtain rfl := List.mem_singleton.1 hp
  exact hu w'' h1
end Go.Proofs.YtmpgnjhgegbdkaaGreat.Bc
