import Derived.Test.YtmpgnjhgegbdkaaGreatIcolp
set_option linter.unusedVariables false
set_option linter.unusedSimpArgs false
set_option maxRecDepth 100000
set_option maxHeartbeats 8000000
open Go.Lib (hid)
namespace Go.Proofs.YtmpgnjhgegbdkaaGreat
open Go.RowKit
open _root_.List renaming length_map -> Qa, length_append -> Qb, mem_append -> Qc, length_eq_zero_iff -> Qe, getElem?_cons_zero -> Qh, length_singleton -> Qj, length_drop -> Qk, getD_eq_getElem?_getD -> Ql
open _root_.Nat renaming lt_or_ge -> Qd, le_refl -> Qg, mul_le_mul -> Qi
open Go.RowKit.Below renaming refl -> Qf
def RetTell (base : Nat) (o : Option (List Nat)) (e : Ending) (w' : World) : Prop := match o with
 | none => e = .returned (.tuple #[.slice none 0 0, .bool false])
 | some bs => ∃ v, e = .returned (.tuple #[v, .bool true]) ∧ OwnB base w' v bs
theorem zIt (n : Int) : (putT n).length <= 10 := (zBy n).1
theorem zI9 {l : List Int} (hI : ∀ n ∈ l, I64 n) : widT l <= 64 := by
 unfold widT
 by_cases h0 : 0 < l.length
 ·obtain ⟨_, g2, g3⟩ := zKj h0
  have h1 := hI _ g2
  have h2 := hI _ g3
  unfold I64 at h1 h2
  exact (bitLen_le _ (by omega)).1
 ·have : l = [] := Qe.1 (by omega)
  subst this
  exact (bitLen_le _ (by decide)).1
theorem zGi (wd : Nat) (us : List Nat) (h : wd <= 64) (hl : us.length <= 65535) : (packB wd us).length <= 600000 := by
 rw [zAy]
 have h2 : wd * us.length <= 64 * 65535 := Qi h hl
 omega
theorem zB6 (k : Int) (l : List Int) (hI : ∀ n ∈ l, I64 n) (h : l.length <= 65535) : (kindT k l).length <= 5000000 := by
 unfold kindT
 split
 ·have := zA3 l; omega
 ·split
  ·have := zD1 l; omega
  ·split
   ·unfold frameT
    split
    ·simp
    ·have h1 := zIt (loT l)
     have h2 := zGi (widT l) (diffT l) (zI9 hI) (by rw [diffT, Qa]; exact h)
     rw [Qb, Qb, Qj]
     omega
   ·unfold dictT
    have h0 := zA9 l
    have h1 := zA3 (wordsT l)
    have h2 := zGi (Lib.bitLen ((wordsT l).length - 1)) (l.map (placeT (wordsT l))) (bitLen_le _ (by omega)).1 (by rw [Qa]; exact h)
    have h3 : (numC (wordsT l).length).length <= 10 := (zA5 9 _).1
    rw [Qb, Qb]
    omega
theorem zLi (l : List Int) (lv : Value) (w : World) (hI : ∀ n ∈ l, I64 n) (hl : l.length <= 65535) (hr : Rd w lv (l.map (.int .i64))) :
  Calls Tryz.prog 101 #[.int .i64 1, lv] w fun e w' => RetTell w.heap.size (tellT 1 l) e w' ∧ Below w.heap.size w w' := by
 have HT := hid (show tellT 1 l = some (1 :: kindT 1 l) from by unfold tellT; rw [if_neg (by omega)]; rfl)
 have HKL := hid (zB6 1 l hI hl)
 obtain ⟨ao, cap, rfl⟩ := zAh hr
 obtain ⟨n, hn⟩ : ∃ n, n = l.length := ⟨_, rfl⟩
 rw [Qa, <- hn] at hr ⊢
 rw [<- hn] at hl
 have HR := hid hr
 have HN := hid hn
 have HI := hid hI
 have h1 : decide ((n : Int) > 65535) = false := decide_eq_false (by omega)
 have h2 : ¬ ((n : Int) > 65535) := by omega
 clear hr hn hI
 go_enter Tryz.func101, Tryz.ntmps101
 have HC := hid fun w' (h : Below w.heap.size w w') => zDl l (.slice ao n cap) w' HI.out (by rw [<- HN.out]; omega) (HR.out.kept h)
 have HNB := hid (zDn w)
 go_wp2_with fail
 refine HNB.out.mono ?_
 rintro e w1 ⟨rfl, hb1⟩
 have HB1 := hid hb1
 clear hb1
 go_wp2_with fail
 refine (HC.out w1 HB1.out).mono ?_
 rintro e w2 ⟨v2, rfl, hown20, hb20⟩
 have hown2 : OwnB w.heap.size w2 v2 (kindT 1 l) := zAo hown20 HB1.out.size
 have hb2 : Below w.heap.size w w2 := zAa HB1.out hb20
 clear hown20 hb20 HC HNB
 obtain ⟨bs, hbs⟩ : ∃ bs, bs = kindT 1 l := ⟨_, rfl⟩
 rw [<- hbs] at hown2 HT HKL
 obtain ⟨ao2, cap2, rfl⟩ := hown2.shape
 obtain ⟨m, hm⟩ : ∃ m, m = bs.length := ⟨_, rfl⟩
 have HM := hid hm
 rw [<- hm] at hown2 HKL ⊢
 have HB2 := hid hb2
 have HOE := hid (show (w2.alloc (.cells #[.int .u8 (1 : Int)] 5)).ownsRow w.heap.size 5 1 (.slice (some ⟨w2.heap.size, 0, none⟩) 1 1) 1 [.int .u8 (1 : Int)] from World.ownsRow_lit w2 #[.int .u8 (1 : Int)] 1 HB2.out.size (by unfold maxLen; omega) rfl)
 have HRL := hid (zAs (show Rd (w2.alloc (.cells #[.int .u8 (1 : Int)] 5)) (.slice ao2 m cap2) (bs.map u8v) from (show Rd w2 (.slice ao2 m cap2) (bs.map u8v) from by subst hm; exact OwnB.rd hown2).kept (zAd w2 _)))
 have HON := hid (zAr (zAq bs))
 have hszB : w.heap.size <= (w2.alloc (.cells #[.int .u8 (1 : Int)] 5)).heap.size := zA7 HB2.out.size _
 have hkl := HKL.out
 clear hown2 hb2 hbs hm
 go_wp2_with (at_builtin; go_must (refine zAf zBf rfl _ _ rfl w.heap.size _ _ _ rfl HOE.out _ ((bs.map u8v).map fun u => [u]) rfl HRL.out HON.out (by simp; have := HM.out; omega) hszB (1 + m) (by have := HM.out; simp; omega) ?_); intro ao4 cap4 w4 hown4 hgrow4 hnew4; have HO4 := hid hown4; have HG4 := hid hgrow4; clear hown4 hgrow4 hnew4)
 go_ret2
 have hba : Below w.heap.size w (w2.alloc (.cells #[.int .u8 (1 : Int)] 5)) := HB2.out.trans ((zAd w2 _).mono HB2.out.size)
 refine ⟨?_, zAk hba hszB (show (w2.alloc (.cells #[.int .u8 (1 : Int)] 5)).grownBy w4 (Value.slice (some ⟨w2.heap.size, 0, none⟩) 1 1).ownBlock from HG4.out) (zAg HOE.out)⟩
 rw [HT.out]
 have h := HO4.out
 rw [zAp] at h
 exact ⟨_, rfl, OwnB.of h⟩
theorem zLj (l : List Int) (lv : Value) (w : World) (hI : ∀ n ∈ l, I64 n) (hl : l.length <= 65535) (hr : Rd w lv (l.map (.int .i64))) :
  Calls Tryz.prog 101 #[.int .i64 2, lv] w fun e w' => RetTell w.heap.size (tellT 2 l) e w' ∧ Below w.heap.size w w' := by
 have HT := hid (show tellT 2 l = some (2 :: kindT 2 l) from by unfold tellT; rw [if_neg (by omega)]; rfl)
 have HKL := hid (zB6 2 l hI hl)
 obtain ⟨ao, cap, rfl⟩ := zAh hr
 obtain ⟨n, hn⟩ : ∃ n, n = l.length := ⟨_, rfl⟩
 rw [Qa, <- hn] at hr ⊢
 rw [<- hn] at hl
 have HR := hid hr
 have HN := hid hn
 have HI := hid hI
 have h1 : decide ((n : Int) > 65535) = false := decide_eq_false (by omega)
 have h2 : ¬ ((n : Int) > 65535) := by omega
 clear hr hn hI
 go_enter Tryz.func101, Tryz.ntmps101
 have HC := hid fun w' (h : Below w.heap.size w w') => zG6 l (.slice ao n cap) w' HI.out (by rw [<- HN.out]; omega) (HR.out.kept h)
 have HNB := hid (zDn w)
 go_wp2_with fail
 refine HNB.out.mono ?_
 rintro e w1 ⟨rfl, hb1⟩
 have HB1 := hid hb1
 clear hb1
 go_wp2_with fail
 refine (HC.out w1 HB1.out).mono ?_
 rintro e w2 ⟨v2, rfl, hown20, hb20⟩
 have hown2 : OwnB w.heap.size w2 v2 (kindT 2 l) := zAo hown20 HB1.out.size
 have hb2 : Below w.heap.size w w2 := zAa HB1.out hb20
 clear hown20 hb20 HC HNB
 obtain ⟨bs, hbs⟩ : ∃ bs, bs = kindT 2 l := ⟨_, rfl⟩
 rw [<- hbs] at hown2 HT HKL
 obtain ⟨ao2, cap2, rfl⟩ := hown2.shape
 obtain ⟨m, hm⟩ : ∃ m, m = bs.length := ⟨_, rfl⟩
 have HM := hid hm
 rw [<- hm] at hown2 HKL ⊢
 have HB2 := hid hb2
 have HOE := hid (show (w2.alloc (.cells #[.int .u8 (2 : Int)] 5)).ownsRow w.heap.size 5 1 (.slice (some ⟨w2.heap.size, 0, none⟩) 1 1) 1 [.int .u8 (2 : Int)] from World.ownsRow_lit w2 #[.int .u8 (2 : Int)] 1 HB2.out.size (by unfold maxLen; omega) rfl)
 have HRL := hid (zAs (show Rd (w2.alloc (.cells #[.int .u8 (2 : Int)] 5)) (.slice ao2 m cap2) (bs.map u8v) from (show Rd w2 (.slice ao2 m cap2) (bs.map u8v) from by subst hm; exact OwnB.rd hown2).kept (zAd w2 _)))
 have HON := hid (zAr (zAq bs))
 have hszB : w.heap.size <= (w2.alloc (.cells #[.int .u8 (2 : Int)] 5)).heap.size := zA7 HB2.out.size _
 have hkl := HKL.out
 clear hown2 hb2 hbs hm
 go_wp2_with (at_builtin; go_must (refine zAf zBf rfl _ _ rfl w.heap.size _ _ _ rfl HOE.out _ ((bs.map u8v).map fun u => [u]) rfl HRL.out HON.out (by simp; have := HM.out; omega) hszB (1 + m) (by have := HM.out; simp; omega) ?_); intro ao4 cap4 w4 hown4 hgrow4 hnew4; have HO4 := hid hown4; have HG4 := hid hgrow4; clear hown4 hgrow4 hnew4)
 go_ret2
 have hba : Below w.heap.size w (w2.alloc (.cells #[.int .u8 (2 : Int)] 5)) := HB2.out.trans ((zAd w2 _).mono HB2.out.size)
 refine ⟨?_, zAk hba hszB (show (w2.alloc (.cells #[.int .u8 (2 : Int)] 5)).grownBy w4 (Value.slice (some ⟨w2.heap.size, 0, none⟩) 1 1).ownBlock from HG4.out) (zAg HOE.out)⟩
 rw [HT.out]
 have h := HO4.out
 rw [zAp] at h
 exact ⟨_, rfl, OwnB.of h⟩
theorem zSy (l : List Int) (lv : Value) (w : World) (hI : ∀ n ∈ l, I64 n) (hl : l.length <= 65535) (hr : Rd w lv (l.map (.int .i64))) :
  Calls Tryz.prog 101 #[.int .i64 3, lv] w fun e w' => RetTell w.heap.size (tellT 3 l) e w' ∧ Below w.heap.size w w' := by
 have HT := hid (show tellT 3 l = some (3 :: kindT 3 l) from by unfold tellT; rw [if_neg (by omega)]; rfl)
 have HKL := hid (zB6 3 l hI hl)
 obtain ⟨ao, cap, rfl⟩ := zAh hr
 obtain ⟨n, hn⟩ : ∃ n, n = l.length := ⟨_, rfl⟩
 rw [Qa, <- hn] at hr ⊢
 rw [<- hn] at hl
 have HR := hid hr
 have HN := hid hn
 have HI := hid hI
 have h1 : decide ((n : Int) > 65535) = false := decide_eq_false (by omega)
 have h2 : ¬ ((n : Int) > 65535) := by omega
 clear hr hn hI
 go_enter Tryz.func101, Tryz.ntmps101
 have HC := hid (zPo l (.slice ao n cap) w HI.out (by rw [<- HN.out]; omega) HR.out)
 go_wp2_with fail
 refine HC.out.mono ?_
 rintro e w2 ⟨v2, rfl, hown20, hb2⟩
 have hown2 : OwnB w.heap.size w2 v2 (kindT 3 l) := hown20
 clear hown20 HC
 obtain ⟨bs, hbs⟩ : ∃ bs, bs = kindT 3 l := ⟨_, rfl⟩
 rw [<- hbs] at hown2 HT HKL
 obtain ⟨ao2, cap2, rfl⟩ := hown2.shape
 obtain ⟨m, hm⟩ : ∃ m, m = bs.length := ⟨_, rfl⟩
 have HM := hid hm
 rw [<- hm] at hown2 HKL ⊢
 have HB2 := hid hb2
 have HOE := hid (show (w2.alloc (.cells #[.int .u8 (3 : Int)] 5)).ownsRow w.heap.size 5 1 (.slice (some ⟨w2.heap.size, 0, none⟩) 1 1) 1 [.int .u8 (3 : Int)] from World.ownsRow_lit w2 #[.int .u8 (3 : Int)] 1 HB2.out.size (by unfold maxLen; omega) rfl)
 have HRL := hid (zAs (show Rd (w2.alloc (.cells #[.int .u8 (3 : Int)] 5)) (.slice ao2 m cap2) (bs.map u8v) from (show Rd w2 (.slice ao2 m cap2) (bs.map u8v) from by subst hm; exact OwnB.rd hown2).kept (zAd w2 _)))
 have HON := hid (zAr (zAq bs))
 have hszB : w.heap.size <= (w2.alloc (.cells #[.int .u8 (3 : Int)] 5)).heap.size := zA7 HB2.out.size _
 have hkl := HKL.out
 clear hown2 hb2 hbs hm
 go_wp2_with (at_builtin; go_must (refine zAf zBf rfl _ _ rfl w.heap.size _ _ _ rfl HOE.out _ ((bs.map u8v).map fun u => [u]) rfl HRL.out HON.out (by simp; have := HM.out; omega) hszB (1 + m) (by have := HM.out; simp; omega) ?_); intro ao4 cap4 w4 hown4 hgrow4 hnew4; have HO4 := hid hown4; have HG4 := hid hgrow4; clear hown4 hgrow4 hnew4)
 go_ret2
 have hba : Below w.heap.size w (w2.alloc (.cells #[.int .u8 (3 : Int)] 5)) := HB2.out.trans ((zAd w2 _).mono HB2.out.size)
 refine ⟨?_, zAk hba hszB (show (w2.alloc (.cells #[.int .u8 (3 : Int)] 5)).grownBy w4 (Value.slice (some ⟨w2.heap.size, 0, none⟩) 1 1).ownBlock from HG4.out) (zAg HOE.out)⟩
 rw [HT.out]
 have h := HO4.out
 rw [zAp] at h
 exact ⟨_, rfl, OwnB.of h⟩
theorem zLk (l : List Int) (lv : Value) (w : World) (hI : ∀ n ∈ l, I64 n) (hl : l.length <= 65535) (hr : Rd w lv (l.map (.int .i64))) :
  Calls Tryz.prog 101 #[.int .i64 4, lv] w fun e w' => RetTell w.heap.size (tellT 4 l) e w' ∧ Below w.heap.size w w' := by
 have HT := hid (show tellT 4 l = some (4 :: kindT 4 l) from by unfold tellT; rw [if_neg (by omega)]; rfl)
 have HKL := hid (zB6 4 l hI hl)
 obtain ⟨ao, cap, rfl⟩ := zAh hr
 obtain ⟨n, hn⟩ : ∃ n, n = l.length := ⟨_, rfl⟩
 rw [Qa, <- hn] at hr ⊢
 rw [<- hn] at hl
 have HR := hid hr
 have HN := hid hn
 have HI := hid hI
 have h1 : decide ((n : Int) > 65535) = false := decide_eq_false (by omega)
 have h2 : ¬ ((n : Int) > 65535) := by omega
 clear hr hn hI
 go_enter Tryz.func101, Tryz.ntmps101
 have HC := hid fun w' (h : Below w.heap.size w w') => zHd l (.slice ao n cap) w' HI.out (by rw [<- HN.out]; omega) (HR.out.kept h)
 have HNB := hid (zDn w)
 go_wp2_with fail
 refine HNB.out.mono ?_
 rintro e w1 ⟨rfl, hb1⟩
 have HB1 := hid hb1
 clear hb1
 go_wp2_with fail
 refine (HC.out w1 HB1.out).mono ?_
 rintro e w2 ⟨v2, rfl, hown20, hb20⟩
 have hown2 : OwnB w.heap.size w2 v2 (kindT 4 l) := zAo hown20 HB1.out.size
 have hb2 : Below w.heap.size w w2 := zAa HB1.out hb20
 clear hown20 hb20 HC HNB
 obtain ⟨bs, hbs⟩ : ∃ bs, bs = kindT 4 l := ⟨_, rfl⟩
 rw [<- hbs] at hown2 HT HKL
 obtain ⟨ao2, cap2, rfl⟩ := hown2.shape
 obtain ⟨m, hm⟩ : ∃ m, m = bs.length := ⟨_, rfl⟩
 have HM := hid hm
 rw [<- hm] at hown2 HKL ⊢
 have HB2 := hid hb2
 have HOE := hid (show (w2.alloc (.cells #[.int .u8 (4 : Int)] 5)).ownsRow w.heap.size 5 1 (.slice (some ⟨w2.heap.size, 0, none⟩) 1 1) 1 [.int .u8 (4 : Int)] from World.ownsRow_lit w2 #[.int .u8 (4 : Int)] 1 HB2.out.size (by unfold maxLen; omega) rfl)
 have HRL := hid (zAs (show Rd (w2.alloc (.cells #[.int .u8 (4 : Int)] 5)) (.slice ao2 m cap2) (bs.map u8v) from (show Rd w2 (.slice ao2 m cap2) (bs.map u8v) from by subst hm; exact OwnB.rd hown2).kept (zAd w2 _)))
 have HON := hid (zAr (zAq bs))
 have hszB : w.heap.size <= (w2.alloc (.cells #[.int .u8 (4 : Int)] 5)).heap.size := zA7 HB2.out.size _
 have hkl := HKL.out
 clear hown2 hb2 hbs hm
 go_wp2_with (at_builtin; go_must (refine zAf zBf rfl _ _ rfl w.heap.size _ _ _ rfl HOE.out _ ((bs.map u8v).map fun u => [u]) rfl HRL.out HON.out (by simp; have := HM.out; omega) hszB (1 + m) (by have := HM.out; simp; omega) ?_); intro ao4 cap4 w4 hown4 hgrow4 hnew4; have HO4 := hid hown4; have HG4 := hid hgrow4; clear hown4 hgrow4 hnew4)
 go_ret2
 have hba : Below w.heap.size w (w2.alloc (.cells #[.int .u8 (4 : Int)] 5)) := HB2.out.trans ((zAd w2 _).mono HB2.out.size)
 refine ⟨?_, zAk hba hszB (show (w2.alloc (.cells #[.int .u8 (4 : Int)] 5)).grownBy w4 (Value.slice (some ⟨w2.heap.size, 0, none⟩) 1 1).ownBlock from HG4.out) (zAg HOE.out)⟩
 rw [HT.out]
 have h := HO4.out
 rw [zAp] at h
 exact ⟨_, rfl, OwnB.of h⟩
theorem zJa (k : Int) (l : List Int) (lv : Value) (w : World) (hl : l.length <= 100000) (hk : l.length <= 65535 -> k < 1 ∨ 4 < k) (hr : Rd w lv (l.map (.int .i64))) :
  Calls Tryz.prog 101 #[.int .i64 k, lv] w fun e w' => RetTell w.heap.size (tellT k l) e w' ∧ Below w.heap.size w w' := by
 have HT := hid (show tellT k l = none from by unfold tellT; rw [if_pos (by omega)])
 obtain ⟨ao, cap, rfl⟩ := zAh hr
 obtain ⟨n, hn⟩ : ∃ n, n = l.length := ⟨_, rfl⟩
 rw [Qa, <- hn] at hr ⊢
 rw [<- hn] at hl hk
 clear hr hn
 by_cases hb : 65535 < n
 ·have h1 : decide ((n : Int) > 65535) = true := decide_eq_true (by omega)
  have h2 : (n : Int) > 65535 := by omega
  clear hk
  go_enter Tryz.func101, Tryz.ntmps101
  go_wp2_with fail
  go_ret2
  refine ⟨?_, Qf _ _⟩
  rw [HT.out]
  rfl
 ·have hk2 := hk (by omega)
  have h1 : decide ((n : Int) > 65535) = false := decide_eq_false (by omega)
  have h2 : ¬ ((n : Int) > 65535) := by omega
  have b1 : ¬ (k = 1) := by omega
  have b2 : ¬ (k = 2) := by omega
  have b3 : ¬ (k = 3) := by omega
  have b4 : ¬ (k = 4) := by omega
  have c1 : (k == 1) = false := beq_eq_false_iff_ne.2 b1
  have c2 : (k == 2) = false := beq_eq_false_iff_ne.2 b2
  have c3 : (k == 3) = false := beq_eq_false_iff_ne.2 b3
  have c4 : (k == 4) = false := beq_eq_false_iff_ne.2 b4
  clear hk hk2
  go_enter Tryz.func101, Tryz.ntmps101
  go_wp2_with fail
  go_ret2
  refine ⟨?_, Qf _ _⟩
  rw [HT.out]
  rfl
theorem zGj (k : Int) (l : List Int) (lv : Value) (w : World) (hI : ∀ n ∈ l, I64 n) (hl : l.length <= 100000) (hr : Rd w lv (l.map (.int .i64))) :
  Calls Tryz.prog 101 #[.int .i64 k, lv] w fun e w' => RetTell w.heap.size (tellT k l) e w' ∧ Below w.heap.size w w' := by
 by_cases hn : l.length <= 65535 -> k < 1 ∨ 4 < k
 ·exact zJa k l lv w hl hn hr
 ·have h1 : l.length <= 65535 := by omega
  rcases (by omega : k = 1 ∨ k = 2 ∨ k = 3 ∨ k = 4) with rfl | rfl | rfl | rfl
  ·exact zLi l lv w hI h1 hr
  ·exact zLj l lv w hI h1 hr
  ·exact zSy l lv w hI h1 hr
  ·exact zLk l lv w hI h1 hr
theorem zEv : ∀ (m : Nat) (l : List Int), l.length <= m -> l.length <= 100000 -> (∀ n ∈ l, I64 n) -> ∀ x ∈ runsT l, x < 256
 | 0, l, h0, _, _, x, hx => by
  have : l = [] := Qe.1 (by omega)
  subst this
  simp [runsT, grp] at hx
 | m + 1, l, h0, hl, hI, x, hx => by
  by_cases hp : 0 < l.length
  ·obtain ⟨n, a, h1, h2, h3, h4, h5, h6, h7, h8⟩ := zB9 l hp
   rw [h7, Qc, Qc] at hx
   rcases hx with (hx | hx) | hx
   ·exact zCt n (by omega) x hx
   ·exact zEk (hI a (List.mem_of_getElem? h4)) x hx
   ·exact zEv m (l.drop n) (by rw [Qk]; omega) (by rw [Qk]; omega) (fun z hz => hI z (List.mem_of_mem_drop hz)) x hx
  ·have : l = [] := Qe.1 (by omega)
   subst this
   simp [runsT, grp] at hx
theorem zEw (n : Nat) (us : List Nat) : ∀ x ∈ packB n us, x < 256 := fun x hx => by
 obtain ⟨i, hi⟩ := List.getElem?_of_mem hx
 have h := zKn n us i
 rw [Ql, hi] at h
 exact h
theorem zIc (k : Int) (l : List Int) (hI : ∀ n ∈ l, I64 n) (h : l.length <= 65535) : ∀ x ∈ kindT k l, x < 256 := by
 intro x hx
 unfold kindT at hx
 split at hx
 ·exact zD0 hI x hx
 ·split at hx
  ·exact zEv _ l (Qg _) (by omega) hI x hx
  ·split at hx
   ·unfold frameT at hx
    split at hx
    ·simp at hx
    ·rename_i h0
     obtain ⟨_, g2, _⟩ := zKj (l := l) (by omega)
     rw [Qc, Qc, List.mem_singleton] at hx
     rcases hx with (hx | hx) | hx
     ·exact zEk (hI _ g2) x hx
     ·have := zI9 hI; omega
     ·exact zEw _ _ x hx
   ·unfold dictT at hx
    have h0 := zA9 l
    rw [Qc, Qc] at hx
    rcases hx with (hx | hx) | hx
    ·exact zCt _ (by omega) x hx
    ·exact zD0 (fun z hz => hI z ((zAx l z).1 hz)) x hx
    ·exact zEw _ _ x hx
theorem zEg (wd : Nat) (us : List Nat) (h : wd <= 64) (hl : us.length <= 100) : (packB wd us).length <= 1000 := by
 rw [zAy]
 have h2 : wd * us.length <= 64 * 100 := Qi h hl
 omega
theorem zFq (k : Int) (l : List Int) (hI : ∀ n ∈ l, I64 n) (h : l.length <= 100) : (kindT k l).length <= 10000 := by
 unfold kindT
 split
 ·have := zA3 l; omega
 ·split
  ·have := zD1 l; omega
  ·split
   ·unfold frameT
    split
    ·simp
    ·have h1 := zIt (loT l)
     have h2 := zEg (widT l) (diffT l) (zI9 hI) (by rw [diffT, Qa]; exact h)
     rw [Qb, Qb, Qj]
     omega
   ·unfold dictT
    have h0 := zA9 l
    have h1 := zA3 (wordsT l)
    have h2 := zEg (Lib.bitLen ((wordsT l).length - 1)) (l.map (placeT (wordsT l))) (bitLen_le _ (by omega)).1 (by rw [Qa]; exact h)
    have h3 : (numC (wordsT l).length).length <= 10 := (zA5 9 _).1
    rw [Qb, Qb]
    omega
theorem zHe (k : Int) (hk : 1 <= k ∧ k <= 4) (l : List Int) (hl : l.length <= 100) : tellT k l = some (k.toNat :: kindT k l) := by
 unfold tellT
 rw [if_neg (by omega)]
theorem zJb (k : Int) (hk : 1 <= k ∧ k <= 4) (l : List Int) (hI : ∀ n ∈ l, I64 n) (hl : l.length <= 100) : (∀ x ∈ k.toNat :: kindT k l, x < 256) ∧ (k.toNat :: kindT k l).length <= 10001 := by
 refine ⟨fun x hx => ?_, by rw [List.length_cons]; have := zFq k l hI hl; omega⟩
 rcases List.mem_cons.1 hx with rfl | hx
 ·omega
 ·exact zIc k l hI (by omega) x hx
def bestN (l : List Int) : Nat -> List Nat
 | 0 => []
 | q + 1 => if q = 0 ∨ ((q + 1) :: kindT ((q : Int) + 1) l).length < (bestN l q).length then (q + 1) :: kindT ((q : Int) + 1) l else bestN l q
theorem zCs (l : List Int) : ∀ q, 0 < q -> (∃ k : Nat, 1 <= k ∧ k <= q ∧ bestN l q = k :: kindT (k : Int) l) ∧ (∀ k : Nat, 1 <= k -> k <= q -> (bestN l q).length <= (k :: kindT (k : Int) l).length) ∧ (∀ k : Nat, 1 <= k -> k <= q -> (bestN l q).length = (k :: kindT (k : Int) l).length -> ∀ x, (bestN l q)[0]? = some x -> x <= k)
 | 0, h => by omega
 | q + 1, _ => by
  by_cases h0 : q = 0
  ·subst h0
   have e : bestN l (0 + 1) = 1 :: kindT (((1 : Nat) : Int)) l := by rw [bestN, if_pos (.inl rfl)]; rfl
   rw [e]
   refine ⟨⟨1, by omega, by omega, rfl⟩, fun k h1 h2 => ?_, fun k h1 h2 _ x hx => ?_⟩
   ·rw [show k = 1 by omega]; exact Qg _
   ·rw [Qh] at hx
    have := Option.some.inj hx
    omega
  ·obtain ⟨⟨k, hk1, hk2, hk3⟩, hall, hlow⟩ := zCs l q (by omega)
   have en : (((q + 1 : Nat)) : Int) = (q : Int) + 1 := by omega
   by_cases hlt : ((q + 1) :: kindT ((q : Int) + 1) l).length < (bestN l q).length
   ·have e : bestN l (q + 1) = (q + 1) :: kindT (((q + 1 : Nat) : Int)) l := by rw [bestN, if_pos (.inr hlt), en]
    rw [e]
    refine ⟨⟨q + 1, by omega, by omega, rfl⟩, fun k h1 h2 => ?_, fun k h1 h2 h3 x hx => ?_⟩
    ·rcases Qd k (q + 1) with h | h
     ·have := hall k h1 (by omega)
      rw [en]
      omega
     ·rw [show k = q + 1 by omega]; exact Qg _
    ·rcases Qd k (q + 1) with h | h
     ·have := hall k h1 (by omega)
      rw [en] at h3
      omega
     ·rw [Qh] at hx
      have := Option.some.inj hx
      omega
   ·have e : bestN l (q + 1) = bestN l q := by rw [bestN, if_neg (by rintro (h | h) <;> omega)]
    rw [e]
    refine ⟨⟨k, hk1, by omega, hk3⟩, fun j h1 h2 => ?_, fun j h1 h2 h3 x hx => ?_⟩
    ·rcases Qd j (q + 1) with h | h
     ·exact hall j h1 (by omega)
     ·rw [show j = q + 1 by omega, en]; omega
    ·rcases Qd j (q + 1) with h | h
     ·exact hlow j h1 (by omega) h3 x hx
     ·rw [hk3, Qh] at hx
      have := Option.some.inj hx
      omega
theorem zId (k : Int) (hk : 1 <= k ∧ k <= 4) (X : Nat) (l : List Int) (lv : Value) (w : World) (hI : ∀ n ∈ l, I64 n) (hl : l.length <= 100) (hr : Rd w lv (l.map (.int .i64))) (hx : w.cell? ⟨X, 0, none⟩ = some lv) :
  Calls Tryz.prog 100 #[.int .i64 k, .pointer (some ⟨X, 0, none⟩)] w fun e w' => ∃ v, e = .returned (.tuple #[v, .bool true]) ∧ OwnB w.heap.size w' v (k.toNat :: kindT k l) ∧ Below w.heap.size w w' := by
 obtain ⟨ao, cap, rfl⟩ := zAh hr
 rw [Qa] at hr hx
 have hT := zGj k l (.slice ao l.length cap) w hI (by omega) hr
 rw [zHe k hk l hl] at hT
 obtain ⟨bs, hbs⟩ : ∃ bs, bs = k.toNat :: kindT k l := ⟨_, rfl⟩
 rw [<- hbs] at hT ⊢
 obtain ⟨n, hn⟩ : ∃ n, n = l.length := ⟨_, rfl⟩
 rw [<- hn] at hT hx
 have HT := hid hT
 clear hT hr hk hl hbs hn hI
 go_enter Tryz.func100, Tryz.ntmps100
 go_wp2_with fail
 refine HT.out.mono ?_
 rintro e w2 ⟨⟨v, rfl, hown⟩, hb⟩
 have HO := hid hown
 have HB := hid hb
 clear hown hb
 go_wp2_with fail
 go_ret2
 exact ⟨v, rfl, HO.out, HB.out⟩
theorem zEx (X : Nat) (l : List Int) (lv : Value) (w : World) (hI : ∀ n ∈ l, I64 n) (hl : l.length <= 100) (hr : Rd w lv (l.map (.int .i64))) (hx : w.cell? ⟨X, 0, none⟩ = some lv) :
  Calls Tryz.prog 99 #[.int .i64 4, .func (.func 100) #[] #[.pointer (some ⟨X, 0, none⟩)]] w fun e w' => ∃ v, e = .returned v ∧ OwnB w.heap.size w' v (bestN l 4) ∧ Below w.heap.size w w' := by
 have HE := hid (show ∀ (k : Int) w', 1 <= k ∧ k <= 4 -> Below w.heap.size w w' -> Calls Tryz.prog 100 #[.int .i64 k, .pointer (some ⟨X, 0, none⟩)] w' fun e w'' => ∃ ao n cap, e = .returned (.tuple #[.slice ao n cap, .bool true]) ∧ OwnB w.heap.size w'' (.slice ao n cap) (k.toNat :: kindT k l) ∧ n = (k.toNat :: kindT k l).length ∧ Below w'.heap.size w' w'' from fun k w' hk hb => by
  refine (zId k hk X l lv w' hI hl (hr.kept hb) ((hb.cell (World.block_lt_of_cell? _ _ hx)).trans hx)).mono ?_
  rintro e w'' ⟨v, he, ho, hb2⟩
  obtain ⟨ao, cap, rfl⟩ := ho.shape
  exact ⟨ao, _, cap, he, zAo ho hb.size, rfl, hb2⟩)
 clear hI hl hr hx
 go_enter Tryz.func99, Tryz.ntmps99
 go_wp2_with fail
 go_loopw [5, 6] (fun b k wr => ∃ q : Nat, q <= 4 ∧ k = .int .i64 ((q : Int) + 1) ∧ OwnB w.heap.size wr b (bestN l q) ∧ Below w.heap.size w wr ∧ (q = 0 -> b = .slice none 0 0)) (fun _ k _ => 5 - (intOf k).toNat)
 case atStart => exact ⟨0, by omega, rfl, zA6 _ _, Qf _ _, fun _ => rfl⟩
 case round =>
  obtain ⟨q, hq, rfl, hown, hbel, hnone⟩ := hrel
  obtain ⟨ao, cap, rfl⟩ := hown.shape
  obtain ⟨n, hn⟩ : ∃ n, n = (bestN l q).length := ⟨_, rfl⟩
  rw [<- hn] at hown hnone ⊢
  have HO := hid (show wr.ownsRow w.heap.size 5 1 (.slice ao n cap) n ((bestN l q).map u8v) from by subst hn; exact hown)
  have HN := hid hn
  have HB := hid hbel
  have HNONE := hid (show q = 0 -> ao = none ∧ n = 0 ∧ cap = 0 from fun h => by have := hnone h; simp only [Value.slice.injEq] at this; exact ⟨this.1, by omega, this.2.2⟩)
  clear hown hn hbel hnone
  by_cases hq4 : q < 4
  ·have hk1 : (q : Int) + 1 <= 4 := by omega
   have HC := hid (HE.out ((q : Int) + 1) wr (by omega) HB.out)
   go_wp2_with fail
   refine HC.out.mono ?_
   rintro e w2 ⟨ao2, n2, cap2, rfl, hown2, hn2, hb2⟩
   rw [show ((q : Int) + 1).toNat = q + 1 by omega] at hown2 hn2
   have HO2 := hid hown2
   have HB2 := hid (zAa HB.out hb2)
   have HN2 := hid hn2
   have HOK := hid (show OwnB w.heap.size w2 (.slice ao n cap) (bestN l q) from OwnB.of <| HO.out.kept (zAb hb2 none) (by cases h : (Value.slice ao n cap).ownBlock with | none => exact .inl rfl | some g => exact .inr (by simp)))
   clear hown2 hn2 hb2
   by_cases h0 : q = 0
   ·subst h0
    obtain ⟨rfl, rfl, rfl⟩ := HNONE.out rfl
    have heq := fun (w' : World) => Lib.run_eql_slice_nil (P := Tryz.prog) w' 29 5 none 0 0 0 0 Tryz.underlying29
    go_wp2_with fail
    go_roundw
    case rel =>
     refine ⟨0 + 1, by omega, rfl, ?_, HB2.out, fun h => by omega⟩
     rw [bestN, if_pos (.inl rfl)]
     exact HO2.out
    case measure => simp [intOf]
   ·have hbl := (zCs l q (by omega)).1
    have hnp : 0 < n := by
     obtain ⟨k, _, _, e⟩ := hbl
     rw [HN.out, e]; simp
    obtain ⟨g, rfl⟩ : ∃ g, ao = some ⟨g, 0, none⟩ := by
     rcases HO.out.2 with ⟨hv, _⟩ | ⟨g, c, cur, h1, _⟩
     ·simp only [Value.slice.injEq] at hv; omega
     ·simp only [Value.slice.injEq] at h1; exact ⟨g, h1.1⟩
    have heq := fun (w' : World) => Lib.run_eql_slice_nil (P := Tryz.prog) w' 29 5 (some ⟨g, 0, none⟩) n cap 0 0 Tryz.underlying29
    clear hbl
    by_cases hlt : n2 < n
    ·have hlti : (n2 : Int) < (n : Int) := by omega
     go_wp2_with fail
     go_roundw
     case rel =>
      refine ⟨q + 1, by omega, by go_num, ?_, HB2.out, fun h => by omega⟩
      rw [bestN, if_pos (.inr (by rw [<- HN2.out, <- HN.out]; exact hlt))]
      exact HO2.out
     case measure => simp [intOf]; omega
    ·have hlti : ¬ (n2 : Int) < (n : Int) := by omega
     go_wp2_with fail
     go_roundw
     case rel =>
      refine ⟨q + 1, by omega, by go_num, ?_, HB2.out, fun h => by omega⟩
      rw [bestN, if_neg (by rw [<- HN2.out, <- HN.out]; omega)]
      exact HOK.out
     case measure => simp [intOf]; omega
  ·have hq4e : q = 4 := by omega
   subst hq4e
   have hk1 : ¬ ((4 : Nat) : Int) + 1 <= 4 := by omega
   go_wp2_with fail
   go_ret
   exact ⟨_, rfl, OwnB.of HO.out, HB.out⟩
theorem zQ0 (l : List Int) (lv : Value) (w : World) (hI : ∀ n ∈ l, I64 n) (hl : l.length <= 100) (hr : Rd w lv (l.map (.int .i64))) :
  Calls Tryz.prog 73 #[lv] w fun e w' => ∃ v, e = .returned v ∧ OwnB w.heap.size w' v (bestN l 4) ∧ Below w.heap.size w w' := by
 obtain ⟨ao, cap, rfl⟩ := zAh hr
 obtain ⟨n, hn⟩ : ∃ n, n = l.length := ⟨_, rfl⟩
 rw [Qa, <- hn] at hr ⊢
 obtain ⟨W1, hW1⟩ : ∃ W1 : World, W1 = w.alloc (.cells #[.slice ao n cap] 130) := ⟨_, rfl⟩
 have hb1 : Below w.heap.size w W1 := by rw [hW1]; exact zAd w _
 have hx : W1.cell? ⟨w.heap.size, 0, none⟩ = some (.slice ao n cap) := by rw [hW1, cell_of_row _ w.heap.size 0 _ _ _ (heap_alloc_new w _)]; rfl
 have HS := hid (zEx w.heap.size l (.slice ao n cap) W1 hI (by omega) (hr.kept hb1) hx)
 have HB1 := hid hb1
 have HW1 := hid hW1
 clear hr hn hb1 hx hW1
 go_enter Tryz.func73, Tryz.ntmps73
 go_upto_region 1 with (fail)
 rw [<- HW1.out]
 go_wp2_with fail
 refine HS.out.mono ?_
 rintro e w2 ⟨v, rfl, hown, hb⟩
 have HO := hid hown
 have HB := hid hb
 clear hown hb
 go_wp2_with fail
 go_ret
 exact ⟨v, rfl, zAo HO.out HB1.out.size, zAa HB1.out HB.out⟩
theorem zEy (l : List Int) (hI : ∀ n ∈ l, I64 n) (hl : l.length <= 100) : decT (bestN l 4) (l.length : Int) = some l ∧ (∀ x ∈ bestN l 4, x < 256) ∧ (bestN l 4).length <= 10001 := by
 obtain ⟨⟨k, hk1, hk2, hk3⟩, _, _⟩ := zCs l 4 (by omega)
 have e : (k : Int).toNat = k := by omega
 have h1 := zH3 (k : Int) (by omega) l (by omega) hI
 have h2 := zJb (k : Int) (by omega) l hI hl
 rw [e] at h1 h2
 rw [hk3]
 exact ⟨h1, h2.1, h2.2⟩
theorem zLl (l : List Int) (bs : List Nat) (bv : Value) (i : Nat) (x : Int) (w : World) (hd : decT bs (l.length : Int) = some l) (hx : l[i]? = some x) (hl : l.length <= 100) (hr : Rd w bv (bs.map u8v)) (h256 : ∀ x ∈ bs, x < 256) (hbig : bs.length <= 1000000) :
  Calls Tryz.prog 82 #[bv, .int .i64 (l.length : Int), .int .i64 (i : Int)] w fun e w' => e = .returned (.tuple #[.int .i64 x, .bool true]) ∧ Below w.heap.size w w' := by
 obtain ⟨ao, cap, rfl⟩ := zAh hr
 rw [Qa] at hr ⊢
 have hD := zQz bs (.slice ao bs.length cap) (l.length : Int) w hr h256 hbig
 rw [hd] at hD
 have hil := (List.getElem?_eq_some_iff.1 hx).1
 obtain ⟨n, hn⟩ : ∃ n, n = l.length := ⟨_, rfl⟩
 rw [<- hn] at hD hil ⊢
 obtain ⟨m, hm⟩ : ∃ m, m = bs.length := ⟨_, rfl⟩
 rw [<- hm] at hD ⊢
 have HD := hid hD
 have HN := hid hn
 have HX := hid hx
 have hi0 : (0 : Int) <= (i : Int) := by omega
 have hin : (i : Int) < (n : Int) := by omega
 have hi1 : ¬ (i : Int) < 0 := by omega
 have hi2 : ¬ (n : Int) <= (i : Int) := by omega
 clear hd hr h256 hbig hD hx hm hn hl
 go_enter Tryz.func82, Tryz.ntmps82
 go_wp2_with fail
 refine HD.out.mono ?_
 rintro e w2 ⟨⟨v, rfl, hown⟩, hb⟩
 have HB := hid hb
 obtain ⟨ao2, k2, rfl⟩ := hown.shape
 rw [<- HN.out] at hown ⊢
 obtain ⟨b4, o4, rfl, hc4⟩ := (zAu (show Rd w2 (.slice ao2 n k2) (l.map (.int .i64)) from Rd.of_owns hown)).2 (by omega)
 have hy := hc4 i hil
 rw [show l.getD i 0 = x from by rw [Ql, HX.out]; rfl] at hy
 clear hb hown hc4 HD
 go_wp2_with fail
 go_ret2
 exact ⟨rfl, HB.out⟩
end Go.Proofs.YtmpgnjhgegbdkaaGreat
