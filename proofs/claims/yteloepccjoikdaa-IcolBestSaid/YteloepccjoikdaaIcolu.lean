/-
  Contracts of layer 4: Tell.
  Layer 4: the bytes of what is told; the reference's SameInts of one column; lower bits.
-/
import Derived.Test.YteloepccjoikdaaIcolp
namespace Go.Proofs.Yteloepccjoikdaa
set_option linter.unusedVariables false
set_option linter.unusedSimpArgs false
open Go.RowKit

/-- What Tell hands back. -/
def RetTell (base : Nat) (o : Option (List Nat)) (e : Ending) (w' : World) : Prop := match o with
  | none => e = .returned (.tuple #[.slice none 0 0, .bool false])
  | some bs => ∃ v, e = .returned (.tuple #[v, .bool true]) ∧ OwnB base w' v bs
theorem putT_bound (n : Int) : (putT n).length ≤ 10 := (putT_len n).1
theorem widT_le {l : List Int} (hI : ∀ n ∈ l, I64 n) : widT l ≤ 64 := by
  unfold widT
  by_cases h0 : 0 < l.length
  · obtain ⟨_, g2, g3⟩ := lo_hi h0
    have h1 := hI _ g2
    have h2 := hI _ g3
    unfold I64 at h1 h2
    exact (bitLen_le _ (by omega)).1
  · have : l = [] := List.length_eq_zero_iff.1 (by omega)
    subst this
    exact (bitLen_le _ (by decide)).1
theorem pack_bound (wd : Nat) (us : List Nat) (h : wd ≤ 64) (hl : us.length ≤ 65535) : (packB wd us).length ≤ 600000 := by
  rw [packB_length]
  have h2 : wd * us.length ≤ 64 * 65535 := Nat.mul_le_mul h hl
  omega
theorem kindT_len (k : Int) (l : List Int) (hI : ∀ n ∈ l, I64 n) (h : l.length ≤ 65535) : (kindT k l).length ≤ 5000000 := by
  unfold kindT
  split
  · have := plainT_len l; omega
  · split
    · have := runsT_len l; omega
    · split
      · unfold frameT
        split
        · simp
        · have h1 := putT_bound (loT l)
          have h2 := pack_bound (widT l) (diffT l) (widT_le hI) (by rw [diffT, List.length_map]; exact h)
          rw [List.length_append, List.length_append, List.length_singleton]
          omega
      · unfold dictT
        have h0 := wordsT_len l
        have h1 := plainT_len (wordsT l)
        have h2 := pack_bound (Lib.bitLen ((wordsT l).length - 1)) (l.map (placeT (wordsT l))) (bitLen_le _ (by omega)).1 (by rw [List.length_map]; exact h)
        have h3 : (numC (wordsT l).length).length ≤ 10 := (numF_len 9 _).1
        rw [List.length_append, List.length_append]
        omega

set_option maxRecDepth 100000 in
set_option maxHeartbeats 8000000 in
theorem tell_1 (l : List Int) (lv : Value) (w : World) (hI : ∀ n ∈ l, I64 n) (hl : l.length ≤ 65535) (hr : Rd w lv (l.map (.int .i64))) :
    Calls Try.prog 27 #[.int .i64 1, lv] w fun e w' => RetTell w.heap.size (tellT 1 l) e w' ∧ Below w.heap.size w w' := by
  have HT := Lib.hid (show tellT 1 l = some (1 :: kindT 1 l) from by unfold tellT; rw [if_neg (by omega)]; rfl)
  have HKL := Lib.hid (kindT_len 1 l hI hl)
  obtain ⟨ao, cap, rfl⟩ := rd_shape1 hr
  obtain ⟨n, hn⟩ : ∃ n, n = l.length := ⟨_, rfl⟩
  rw [List.length_map, ← hn] at hr ⊢
  rw [← hn] at hl
  have HR := Lib.hid hr
  have HN := Lib.hid hn
  have HI := Lib.hid hI
  have h1 : decide ((n : Int) > 65535) = false := decide_eq_false (by omega)
  have h2 : ¬ ((n : Int) > 65535) := by omega
  clear hr hn hI
  go_enter Try.func27, Try.ntmps27
  have HC := Lib.hid fun w' (h : Below w.heap.size w w') => cplain_any l (.slice ao n cap) w' HI.out (by rw [← HN.out]; omega) (HR.out.kept h)
  have HNB := Lib.hid (numbers_any w)
  go_wp2_with fail
  refine HNB.out.mono ?_
  rintro e w1 ⟨rfl, hb1⟩
  have HB1 := Lib.hid hb1
  clear hb1
  go_wp2_with fail
  refine (HC.out w1 HB1.out).mono ?_
  rintro e w2 ⟨v2, rfl, hown20, hb20⟩
  have hown2 : OwnB w.heap.size w2 v2 (kindT 1 l) := own_mono hown20 HB1.out.size
  have hb2 : Below w.heap.size w w2 := below_then HB1.out hb20
  clear hown20 hb20 HC HNB
  obtain ⟨bs, hbs⟩ : ∃ bs, bs = kindT 1 l := ⟨_, rfl⟩
  rw [← hbs] at hown2 HT HKL
  obtain ⟨ao2, cap2, rfl⟩ := hown2.shape
  obtain ⟨m, hm⟩ : ∃ m, m = bs.length := ⟨_, rfl⟩
  have HM := Lib.hid hm
  rw [← hm] at hown2 HKL ⊢
  have HB2 := Lib.hid hb2
  have HOE := Lib.hid (show (w2.alloc (.cells #[.int .u8 (1 : Int)] 5)).ownsRow w.heap.size 5 1 (.slice (some ⟨w2.heap.size, 0, none⟩) 1 1) 1 [.int .u8 (1 : Int)] from World.ownsRow_lit w2 #[.int .u8 (1 : Int)] 1 HB2.out.size (by unfold maxLen; omega) rfl)
  have HRL := Lib.hid (rdS_flat (show Rd (w2.alloc (.cells #[.int .u8 (1 : Int)] 5)) (.slice ao2 m cap2) (bs.map u8v) from (show Rd w2 (.slice ao2 m cap2) (bs.map u8v) from by subst hm; exact OwnB.rd hown2).kept (below_alloc w2 _)))
  have HON := Lib.hid (ones_flat (ones_u8 bs))
  have hszB : w.heap.size ≤ (w2.alloc (.cells #[.int .u8 (1 : Int)] 5)).heap.size := le_alloc0 HB2.out.size _
  have hkl := HKL.out
  clear hown2 hb2 hbs hm
  go_wp2_with (at_builtin; go_must (refine wpList_append_k elmU8 rfl _ _ rfl w.heap.size _ _ _ rfl HOE.out _ ((bs.map u8v).map fun u => [u]) rfl HRL.out HON.out (by simp; have := HM.out; omega) hszB (1 + m) (by have := HM.out; simp; omega) ?_); intro ao4 cap4 w4 hown4 hgrow4 hnew4; have HO4 := Lib.hid hown4; have HG4 := Lib.hid hgrow4; clear hown4 hgrow4 hnew4)
  go_ret2
  have hba : Below w.heap.size w (w2.alloc (.cells #[.int .u8 (1 : Int)] 5)) := HB2.out.trans ((below_alloc w2 _).mono HB2.out.size)
  refine ⟨?_, below_ownB hba hszB (show (w2.alloc (.cells #[.int .u8 (1 : Int)] 5)).grownBy w4 (Value.slice (some ⟨w2.heap.size, 0, none⟩) 1 1).ownBlock from HG4.out) (own_base HOE.out)⟩
  rw [HT.out]
  have h := HO4.out
  rw [flat_ones] at h
  exact ⟨_, rfl, OwnB.of h⟩

set_option maxRecDepth 100000 in
set_option maxHeartbeats 8000000 in
theorem tell_2 (l : List Int) (lv : Value) (w : World) (hI : ∀ n ∈ l, I64 n) (hl : l.length ≤ 65535) (hr : Rd w lv (l.map (.int .i64))) :
    Calls Try.prog 27 #[.int .i64 2, lv] w fun e w' => RetTell w.heap.size (tellT 2 l) e w' ∧ Below w.heap.size w w' := by
  have HT := Lib.hid (show tellT 2 l = some (2 :: kindT 2 l) from by unfold tellT; rw [if_neg (by omega)]; rfl)
  have HKL := Lib.hid (kindT_len 2 l hI hl)
  obtain ⟨ao, cap, rfl⟩ := rd_shape1 hr
  obtain ⟨n, hn⟩ : ∃ n, n = l.length := ⟨_, rfl⟩
  rw [List.length_map, ← hn] at hr ⊢
  rw [← hn] at hl
  have HR := Lib.hid hr
  have HN := Lib.hid hn
  have HI := Lib.hid hI
  have h1 : decide ((n : Int) > 65535) = false := decide_eq_false (by omega)
  have h2 : ¬ ((n : Int) > 65535) := by omega
  clear hr hn hI
  go_enter Try.func27, Try.ntmps27
  have HC := Lib.hid fun w' (h : Below w.heap.size w w') => cruns_any l (.slice ao n cap) w' HI.out (by rw [← HN.out]; omega) (HR.out.kept h)
  have HNB := Lib.hid (numbers_any w)
  go_wp2_with fail
  refine HNB.out.mono ?_
  rintro e w1 ⟨rfl, hb1⟩
  have HB1 := Lib.hid hb1
  clear hb1
  go_wp2_with fail
  refine (HC.out w1 HB1.out).mono ?_
  rintro e w2 ⟨v2, rfl, hown20, hb20⟩
  have hown2 : OwnB w.heap.size w2 v2 (kindT 2 l) := own_mono hown20 HB1.out.size
  have hb2 : Below w.heap.size w w2 := below_then HB1.out hb20
  clear hown20 hb20 HC HNB
  obtain ⟨bs, hbs⟩ : ∃ bs, bs = kindT 2 l := ⟨_, rfl⟩
  rw [← hbs] at hown2 HT HKL
  obtain ⟨ao2, cap2, rfl⟩ := hown2.shape
  obtain ⟨m, hm⟩ : ∃ m, m = bs.length := ⟨_, rfl⟩
  have HM := Lib.hid hm
  rw [← hm] at hown2 HKL ⊢
  have HB2 := Lib.hid hb2
  have HOE := Lib.hid (show (w2.alloc (.cells #[.int .u8 (2 : Int)] 5)).ownsRow w.heap.size 5 1 (.slice (some ⟨w2.heap.size, 0, none⟩) 1 1) 1 [.int .u8 (2 : Int)] from World.ownsRow_lit w2 #[.int .u8 (2 : Int)] 1 HB2.out.size (by unfold maxLen; omega) rfl)
  have HRL := Lib.hid (rdS_flat (show Rd (w2.alloc (.cells #[.int .u8 (2 : Int)] 5)) (.slice ao2 m cap2) (bs.map u8v) from (show Rd w2 (.slice ao2 m cap2) (bs.map u8v) from by subst hm; exact OwnB.rd hown2).kept (below_alloc w2 _)))
  have HON := Lib.hid (ones_flat (ones_u8 bs))
  have hszB : w.heap.size ≤ (w2.alloc (.cells #[.int .u8 (2 : Int)] 5)).heap.size := le_alloc0 HB2.out.size _
  have hkl := HKL.out
  clear hown2 hb2 hbs hm
  go_wp2_with (at_builtin; go_must (refine wpList_append_k elmU8 rfl _ _ rfl w.heap.size _ _ _ rfl HOE.out _ ((bs.map u8v).map fun u => [u]) rfl HRL.out HON.out (by simp; have := HM.out; omega) hszB (1 + m) (by have := HM.out; simp; omega) ?_); intro ao4 cap4 w4 hown4 hgrow4 hnew4; have HO4 := Lib.hid hown4; have HG4 := Lib.hid hgrow4; clear hown4 hgrow4 hnew4)
  go_ret2
  have hba : Below w.heap.size w (w2.alloc (.cells #[.int .u8 (2 : Int)] 5)) := HB2.out.trans ((below_alloc w2 _).mono HB2.out.size)
  refine ⟨?_, below_ownB hba hszB (show (w2.alloc (.cells #[.int .u8 (2 : Int)] 5)).grownBy w4 (Value.slice (some ⟨w2.heap.size, 0, none⟩) 1 1).ownBlock from HG4.out) (own_base HOE.out)⟩
  rw [HT.out]
  have h := HO4.out
  rw [flat_ones] at h
  exact ⟨_, rfl, OwnB.of h⟩

set_option maxRecDepth 100000 in
set_option maxHeartbeats 8000000 in
theorem tell_3 (l : List Int) (lv : Value) (w : World) (hI : ∀ n ∈ l, I64 n) (hl : l.length ≤ 65535) (hr : Rd w lv (l.map (.int .i64))) :
    Calls Try.prog 27 #[.int .i64 3, lv] w fun e w' => RetTell w.heap.size (tellT 3 l) e w' ∧ Below w.heap.size w w' := by
  have HT := Lib.hid (show tellT 3 l = some (3 :: kindT 3 l) from by unfold tellT; rw [if_neg (by omega)]; rfl)
  have HKL := Lib.hid (kindT_len 3 l hI hl)
  obtain ⟨ao, cap, rfl⟩ := rd_shape1 hr
  obtain ⟨n, hn⟩ : ∃ n, n = l.length := ⟨_, rfl⟩
  rw [List.length_map, ← hn] at hr ⊢
  rw [← hn] at hl
  have HR := Lib.hid hr
  have HN := Lib.hid hn
  have HI := Lib.hid hI
  have h1 : decide ((n : Int) > 65535) = false := decide_eq_false (by omega)
  have h2 : ¬ ((n : Int) > 65535) := by omega
  clear hr hn hI
  go_enter Try.func27, Try.ntmps27
  have HC := Lib.hid (frame_any l (.slice ao n cap) w HI.out (by rw [← HN.out]; omega) HR.out)
  go_wp2_with fail
  refine HC.out.mono ?_
  rintro e w2 ⟨v2, rfl, hown20, hb2⟩
  have hown2 : OwnB w.heap.size w2 v2 (kindT 3 l) := hown20
  clear hown20 HC
  obtain ⟨bs, hbs⟩ : ∃ bs, bs = kindT 3 l := ⟨_, rfl⟩
  rw [← hbs] at hown2 HT HKL
  obtain ⟨ao2, cap2, rfl⟩ := hown2.shape
  obtain ⟨m, hm⟩ : ∃ m, m = bs.length := ⟨_, rfl⟩
  have HM := Lib.hid hm
  rw [← hm] at hown2 HKL ⊢
  have HB2 := Lib.hid hb2
  have HOE := Lib.hid (show (w2.alloc (.cells #[.int .u8 (3 : Int)] 5)).ownsRow w.heap.size 5 1 (.slice (some ⟨w2.heap.size, 0, none⟩) 1 1) 1 [.int .u8 (3 : Int)] from World.ownsRow_lit w2 #[.int .u8 (3 : Int)] 1 HB2.out.size (by unfold maxLen; omega) rfl)
  have HRL := Lib.hid (rdS_flat (show Rd (w2.alloc (.cells #[.int .u8 (3 : Int)] 5)) (.slice ao2 m cap2) (bs.map u8v) from (show Rd w2 (.slice ao2 m cap2) (bs.map u8v) from by subst hm; exact OwnB.rd hown2).kept (below_alloc w2 _)))
  have HON := Lib.hid (ones_flat (ones_u8 bs))
  have hszB : w.heap.size ≤ (w2.alloc (.cells #[.int .u8 (3 : Int)] 5)).heap.size := le_alloc0 HB2.out.size _
  have hkl := HKL.out
  clear hown2 hb2 hbs hm
  go_wp2_with (at_builtin; go_must (refine wpList_append_k elmU8 rfl _ _ rfl w.heap.size _ _ _ rfl HOE.out _ ((bs.map u8v).map fun u => [u]) rfl HRL.out HON.out (by simp; have := HM.out; omega) hszB (1 + m) (by have := HM.out; simp; omega) ?_); intro ao4 cap4 w4 hown4 hgrow4 hnew4; have HO4 := Lib.hid hown4; have HG4 := Lib.hid hgrow4; clear hown4 hgrow4 hnew4)
  go_ret2
  have hba : Below w.heap.size w (w2.alloc (.cells #[.int .u8 (3 : Int)] 5)) := HB2.out.trans ((below_alloc w2 _).mono HB2.out.size)
  refine ⟨?_, below_ownB hba hszB (show (w2.alloc (.cells #[.int .u8 (3 : Int)] 5)).grownBy w4 (Value.slice (some ⟨w2.heap.size, 0, none⟩) 1 1).ownBlock from HG4.out) (own_base HOE.out)⟩
  rw [HT.out]
  have h := HO4.out
  rw [flat_ones] at h
  exact ⟨_, rfl, OwnB.of h⟩

set_option maxRecDepth 100000 in
set_option maxHeartbeats 8000000 in
theorem tell_4 (l : List Int) (lv : Value) (w : World) (hI : ∀ n ∈ l, I64 n) (hl : l.length ≤ 65535) (hr : Rd w lv (l.map (.int .i64))) :
    Calls Try.prog 27 #[.int .i64 4, lv] w fun e w' => RetTell w.heap.size (tellT 4 l) e w' ∧ Below w.heap.size w w' := by
  have HT := Lib.hid (show tellT 4 l = some (4 :: kindT 4 l) from by unfold tellT; rw [if_neg (by omega)]; rfl)
  have HKL := Lib.hid (kindT_len 4 l hI hl)
  obtain ⟨ao, cap, rfl⟩ := rd_shape1 hr
  obtain ⟨n, hn⟩ : ∃ n, n = l.length := ⟨_, rfl⟩
  rw [List.length_map, ← hn] at hr ⊢
  rw [← hn] at hl
  have HR := Lib.hid hr
  have HN := Lib.hid hn
  have HI := Lib.hid hI
  have h1 : decide ((n : Int) > 65535) = false := decide_eq_false (by omega)
  have h2 : ¬ ((n : Int) > 65535) := by omega
  clear hr hn hI
  go_enter Try.func27, Try.ntmps27
  have HC := Lib.hid fun w' (h : Below w.heap.size w w') => cdict_any l (.slice ao n cap) w' HI.out (by rw [← HN.out]; omega) (HR.out.kept h)
  have HNB := Lib.hid (numbers_any w)
  go_wp2_with fail
  refine HNB.out.mono ?_
  rintro e w1 ⟨rfl, hb1⟩
  have HB1 := Lib.hid hb1
  clear hb1
  go_wp2_with fail
  refine (HC.out w1 HB1.out).mono ?_
  rintro e w2 ⟨v2, rfl, hown20, hb20⟩
  have hown2 : OwnB w.heap.size w2 v2 (kindT 4 l) := own_mono hown20 HB1.out.size
  have hb2 : Below w.heap.size w w2 := below_then HB1.out hb20
  clear hown20 hb20 HC HNB
  obtain ⟨bs, hbs⟩ : ∃ bs, bs = kindT 4 l := ⟨_, rfl⟩
  rw [← hbs] at hown2 HT HKL
  obtain ⟨ao2, cap2, rfl⟩ := hown2.shape
  obtain ⟨m, hm⟩ : ∃ m, m = bs.length := ⟨_, rfl⟩
  have HM := Lib.hid hm
  rw [← hm] at hown2 HKL ⊢
  have HB2 := Lib.hid hb2
  have HOE := Lib.hid (show (w2.alloc (.cells #[.int .u8 (4 : Int)] 5)).ownsRow w.heap.size 5 1 (.slice (some ⟨w2.heap.size, 0, none⟩) 1 1) 1 [.int .u8 (4 : Int)] from World.ownsRow_lit w2 #[.int .u8 (4 : Int)] 1 HB2.out.size (by unfold maxLen; omega) rfl)
  have HRL := Lib.hid (rdS_flat (show Rd (w2.alloc (.cells #[.int .u8 (4 : Int)] 5)) (.slice ao2 m cap2) (bs.map u8v) from (show Rd w2 (.slice ao2 m cap2) (bs.map u8v) from by subst hm; exact OwnB.rd hown2).kept (below_alloc w2 _)))
  have HON := Lib.hid (ones_flat (ones_u8 bs))
  have hszB : w.heap.size ≤ (w2.alloc (.cells #[.int .u8 (4 : Int)] 5)).heap.size := le_alloc0 HB2.out.size _
  have hkl := HKL.out
  clear hown2 hb2 hbs hm
  go_wp2_with (at_builtin; go_must (refine wpList_append_k elmU8 rfl _ _ rfl w.heap.size _ _ _ rfl HOE.out _ ((bs.map u8v).map fun u => [u]) rfl HRL.out HON.out (by simp; have := HM.out; omega) hszB (1 + m) (by have := HM.out; simp; omega) ?_); intro ao4 cap4 w4 hown4 hgrow4 hnew4; have HO4 := Lib.hid hown4; have HG4 := Lib.hid hgrow4; clear hown4 hgrow4 hnew4)
  go_ret2
  have hba : Below w.heap.size w (w2.alloc (.cells #[.int .u8 (4 : Int)] 5)) := HB2.out.trans ((below_alloc w2 _).mono HB2.out.size)
  refine ⟨?_, below_ownB hba hszB (show (w2.alloc (.cells #[.int .u8 (4 : Int)] 5)).grownBy w4 (Value.slice (some ⟨w2.heap.size, 0, none⟩) 1 1).ownBlock from HG4.out) (own_base HOE.out)⟩
  rw [HT.out]
  have h := HO4.out
  rw [flat_ones] at h
  exact ⟨_, rfl, OwnB.of h⟩

set_option maxRecDepth 100000 in
set_option maxHeartbeats 8000000 in
theorem tell_no (k : Int) (l : List Int) (lv : Value) (w : World) (hl : l.length ≤ 100000) (hk : l.length ≤ 65535 → k < 1 ∨ 4 < k) (hr : Rd w lv (l.map (.int .i64))) :
    Calls Try.prog 27 #[.int .i64 k, lv] w fun e w' => RetTell w.heap.size (tellT k l) e w' ∧ Below w.heap.size w w' := by
  have HT := Lib.hid (show tellT k l = none from by unfold tellT; rw [if_pos (by omega)])
  obtain ⟨ao, cap, rfl⟩ := rd_shape1 hr
  obtain ⟨n, hn⟩ : ∃ n, n = l.length := ⟨_, rfl⟩
  rw [List.length_map, ← hn] at hr ⊢
  rw [← hn] at hl hk
  clear hr hn
  by_cases hb : 65535 < n
  · have h1 : decide ((n : Int) > 65535) = true := decide_eq_true (by omega)
    have h2 : (n : Int) > 65535 := by omega
    clear hk
    go_enter Try.func27, Try.ntmps27
    go_wp2_with fail
    go_ret2
    refine ⟨?_, Below.refl _ _⟩
    rw [HT.out]
    rfl
  · have hk2 := hk (by omega)
    have h1 : decide ((n : Int) > 65535) = false := decide_eq_false (by omega)
    have h2 : ¬ ((n : Int) > 65535) := by omega
    have b1 : ¬ (k = 1) := by omega
    have b2 : ¬ (k = 2) := by omega
    have b3 : ¬ (k = 3) := by omega
    have b4 : ¬ (k = 4) := by omega
    have c1 : (k == 1) = false := beq_eq_false_iff_ne.2 b1
    have c2 : (k == 2) = false := beq_eq_false_iff_ne.2 b2
    have c3 : (k == 3) = false := beq_eq_false_iff_ne.2 b3
    have c4 : (k == 4) = false := beq_eq_false_iff_ne.2 b4
    clear hk hk2
    go_enter Try.func27, Try.ntmps27
    go_wp2_with fail
    go_ret2
    refine ⟨?_, Below.refl _ _⟩
    rw [HT.out]
    rfl

theorem tell_any (k : Int) (l : List Int) (lv : Value) (w : World) (hI : ∀ n ∈ l, I64 n) (hl : l.length ≤ 100000) (hr : Rd w lv (l.map (.int .i64))) :
    Calls Try.prog 27 #[.int .i64 k, lv] w fun e w' => RetTell w.heap.size (tellT k l) e w' ∧ Below w.heap.size w w' := by
  by_cases hn : l.length ≤ 65535 → k < 1 ∨ 4 < k
  · exact tell_no k l lv w hl hn hr
  · have h1 : l.length ≤ 65535 := by omega
    rcases (by omega : k = 1 ∨ k = 2 ∨ k = 3 ∨ k = 4) with rfl | rfl | rfl | rfl
    · exact tell_1 l lv w hI h1 hr
    · exact tell_2 l lv w hI h1 hr
    · exact tell_3 l lv w hI h1 hr
    · exact tell_4 l lv w hI h1 hr


end Go.Proofs.Yteloepccjoikdaa

namespace Go.Proofs.Yteloepccjoikdaa
set_option linter.unusedVariables false
set_option linter.unusedSimpArgs false
open Go.RowKit

theorem runsT_lt : ∀ (m : Nat) (l : List Int), l.length ≤ m → l.length ≤ 100000 → (∀ n ∈ l, I64 n) → ∀ x ∈ runsT l, x < 256
  | 0, l, h0, _, _, x, hx => by
    have : l = [] := List.length_eq_zero_iff.1 (by omega)
    subst this
    simp [runsT, grp] at hx
  | m + 1, l, h0, hl, hI, x, hx => by
    by_cases hp : 0 < l.length
    · obtain ⟨n, a, h1, h2, h3, h4, h5, h6, h7, h8⟩ := runsT_step l hp
      rw [h7, List.mem_append, List.mem_append] at hx
      rcases hx with (hx | hx) | hx
      · exact numC_lt n (by omega) x hx
      · exact putT_lt (hI a (List.mem_of_getElem? h4)) x hx
      · exact runsT_lt m (l.drop n) (by rw [List.length_drop]; omega) (by rw [List.length_drop]; omega) (fun z hz => hI z (List.mem_of_mem_drop hz)) x hx
    · have : l = [] := List.length_eq_zero_iff.1 (by omega)
      subst this
      simp [runsT, grp] at hx
theorem packB_mem_lt (n : Nat) (us : List Nat) : ∀ x ∈ packB n us, x < 256 := fun x hx => by
  obtain ⟨i, hi⟩ := List.getElem?_of_mem hx
  have h := packB_lt n us i
  rw [List.getD_eq_getElem?_getD, hi] at h
  exact h
theorem kindT_lt (k : Int) (l : List Int) (hI : ∀ n ∈ l, I64 n) (h : l.length ≤ 65535) : ∀ x ∈ kindT k l, x < 256 := by
  intro x hx
  unfold kindT at hx
  split at hx
  · exact plainT_lt hI x hx
  · split at hx
    · exact runsT_lt _ l (Nat.le_refl _) (by omega) hI x hx
    · split at hx
      · unfold frameT at hx
        split at hx
        · simp at hx
        · rename_i h0
          obtain ⟨_, g2, _⟩ := lo_hi (l := l) (by omega)
          rw [List.mem_append, List.mem_append, List.mem_singleton] at hx
          rcases hx with (hx | hx) | hx
          · exact putT_lt (hI _ g2) x hx
          · have := widT_le hI; omega
          · exact packB_mem_lt _ _ x hx
      · unfold dictT at hx
        have h0 := wordsT_len l
        rw [List.mem_append, List.mem_append] at hx
        rcases hx with (hx | hx) | hx
        · exact numC_lt _ (by omega) x hx
        · exact plainT_lt (fun z hz => hI z ((wordsT_mem l z).1 hz)) x hx
        · exact packB_mem_lt _ _ x hx
theorem pack_small (wd : Nat) (us : List Nat) (h : wd ≤ 64) (hl : us.length ≤ 100) : (packB wd us).length ≤ 1000 := by
  rw [packB_length]
  have h2 : wd * us.length ≤ 64 * 100 := Nat.mul_le_mul h hl
  omega
theorem kindT_small (k : Int) (l : List Int) (hI : ∀ n ∈ l, I64 n) (h : l.length ≤ 100) : (kindT k l).length ≤ 10000 := by
  unfold kindT
  split
  · have := plainT_len l; omega
  · split
    · have := runsT_len l; omega
    · split
      · unfold frameT
        split
        · simp
        · have h1 := putT_bound (loT l)
          have h2 := pack_small (widT l) (diffT l) (widT_le hI) (by rw [diffT, List.length_map]; exact h)
          rw [List.length_append, List.length_append, List.length_singleton]
          omega
      · unfold dictT
        have h0 := wordsT_len l
        have h1 := plainT_len (wordsT l)
        have h2 := pack_small (Lib.bitLen ((wordsT l).length - 1)) (l.map (placeT (wordsT l))) (bitLen_le _ (by omega)).1 (by rw [List.length_map]; exact h)
        have h3 : (numC (wordsT l).length).length ≤ 10 := (numF_len 9 _).1
        rw [List.length_append, List.length_append]
        omega
/-- Told by a kind that there is: these bytes; and they are read as the column. -/
theorem tell_some (k : Int) (hk : 1 ≤ k ∧ k ≤ 4) (l : List Int) (hl : l.length ≤ 100) : tellT k l = some (k.toNat :: kindT k l) := by
  unfold tellT
  rw [if_neg (by omega)]
theorem told_lt (k : Int) (hk : 1 ≤ k ∧ k ≤ 4) (l : List Int) (hI : ∀ n ∈ l, I64 n) (hl : l.length ≤ 100) : (∀ x ∈ k.toNat :: kindT k l, x < 256) ∧ (k.toNat :: kindT k l).length ≤ 10001 := by
  refine ⟨fun x hx => ?_, by rw [List.length_cons]; have := kindT_small k l hI hl; omega⟩
  rcases List.mem_cons.1 hx with rfl | hx
  · omega
  · exact kindT_lt k l hI (by omega) x hx
theorem and_lowI (x : Int) (j : Nat) (hj : j ≤ 20) (m : Int) (hm : m = 2 ^ j - 1) : bits .and .i64 x m = x % 2 ^ j := by
  subst hm
  have hp : (2 ^ j : Int) = ((2 ^ j : Nat) : Int) := by simp
  have hpos : 0 < 2 ^ j := Nat.two_pow_pos j
  have hle : 2 ^ j ≤ 2 ^ 20 := Nat.pow_le_pow_right (by decide) hj
  have h : bits .and .i64 x (2 ^ j - 1) = IntKind.i64.wrap ((BitVec.ofInt 64 x &&& BitVec.ofInt 64 (2 ^ j - 1)).toNat : Int) := rfl
  have e1 : (BitVec.ofInt 64 ((2 : Int) ^ j - 1)).toNat = 2 ^ j - 1 := by
    rw [hp, show (((2 ^ j : Nat) : Int) - 1) = ((2 ^ j - 1 : Nat) : Int) by omega, BitVec.ofInt_natCast, BitVec.toNat_ofNat]
    exact Nat.mod_eq_of_lt (by omega)
  have h1 : (BitVec.ofInt 64 x &&& BitVec.ofInt 64 (2 ^ j - 1)).toNat = (x % 2 ^ j).toNat := by
    rw [BitVec.toNat_and, e1, Nat.and_two_pow_sub_one_eq_mod, BitVec.toNat_ofInt]
    have hd : ((2 ^ j : Nat) : Int) ∣ ((2 ^ 64 : Nat) : Int) := Int.natCast_dvd_natCast.2 (Nat.pow_dvd_pow 2 (by omega))
    have h64 : 0 ≤ x % ((2 ^ 64 : Nat) : Int) := Int.emod_nonneg _ (by decide)
    have hm2 : (x % ((2 ^ 64 : Nat) : Int)) % ((2 ^ j : Nat) : Int) = x % ((2 ^ j : Nat) : Int) := Int.emod_emod_of_dvd x hd
    have : (((x % ((2 ^ 64 : Nat) : Int)).toNat % 2 ^ j : Nat) : Int) = x % ((2 ^ j : Nat) : Int) := by
      rw [Int.natCast_emod, Int.toNat_of_nonneg h64]
      exact hm2
    rw [hp, ← this]
    rfl
  rw [h, h1]
  have h0 : 0 ≤ x % (2 : Int) ^ j := Int.emod_nonneg _ (by rw [hp]; omega)
  have h2 : x % (2 : Int) ^ j < (2 : Int) ^ j := Int.emod_lt_of_pos _ (by rw [hp]; omega)
  rw [Int.toNat_of_nonneg h0]
  exact IntWalk.i64_in _ (by rw [hp] at *; omega)
set_option maxRecDepth 100000 in
set_option maxHeartbeats 8000000 in
theorem sameints_any (l : List Int) (av bv : Value) (w : World) (hl : l.length ≤ 100000) (ha : Rd w av (l.map (.int .i64))) (hb : Rd w bv (l.map (.int .i64))) :
    Calls Try.prog 29 #[av, bv] w fun e w' => e = .returned (.bool true) ∧ Below w.heap.size w w' := by
  obtain ⟨ao, ac, rfl⟩ := rd_shape1 ha
  obtain ⟨bo, bc, rfl⟩ := rd_shape1 hb
  obtain ⟨n, hn⟩ : ∃ n, n = l.length := ⟨_, rfl⟩
  rw [List.length_map, ← hn] at ha hb ⊢
  rw [← hn] at hl
  have HA := Lib.hid ha
  have HB := Lib.hid hb
  have HN := Lib.hid hn
  clear ha hb hn
  go_enter Try.func29, Try.ntmps29
  go_wp2_with fail
  go_loopw [5] (fun i wr => ∃ q : Nat, q ≤ n ∧ i = .int .i64 (q : Int) ∧ Below w.heap.size w wr) (fun i _ => n - (intOf i).toNat)
  case atStart => exact ⟨0, Nat.zero_le _, rfl, Below.refl _ _⟩
  case round =>
    obtain ⟨q, hq, rfl, hbel⟩ := hrel
    have HBL := Lib.hid hbel
    by_cases hlt : q < n
    · have hlti : (q : Int) < (n : Int) := by omega
      have hq0 : (0 : Int) ≤ (q : Int) := by omega
      obtain ⟨b1, o1, rfl, hc1⟩ := (rd_i64_cells (HA.out.kept hbel)).2 (by omega)
      obtain ⟨b2, o2, rfl, hc2⟩ := (rd_i64_cells (HB.out.kept hbel)).2 (by omega)
      have hx1 := hc1 q hlt
      have hx2 := hc2 q hlt
      obtain ⟨z, hz⟩ : ∃ z, z = l.getD q 0 := ⟨_, rfl⟩
      rw [← hz] at hx1 hx2
      clear hbel hc1 hc2 hz
      go_wp2_with fail
      go_quiet (fail)
      go_wp2_with fail
      go_roundw
      case rel => exact ⟨q + 1, by omega, by go_num, below_draws2 HBL.out _⟩
      case measure => simp [intOf]; omega
    · have hqn : q = n := by omega
      subst hqn
      have hlti : ¬ (q : Int) < (q : Int) := by omega
      clear hbel
      go_wp2_with fail
      go_ret
      exact ⟨rfl, HBL.out⟩


end Go.Proofs.Yteloepccjoikdaa
