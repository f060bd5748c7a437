/-
  Contracts of layer 4: Tell.
  Layer 4: the bytes of what is told; the reference's SameInts of one column; lower bits.
  Contracts of layer 4: Encode.
  Layer 4, plain: how many bytes the best takes: of alike numbers, of near ones, of few.
  Layer 4: the law's Column; At, of a place that there is.
-/
import Derived.Test.YteloepccjoikdaaIcolp
namespace Go.Proofs.Yteloepccjoikdaa
set_option linter.unusedVariables false
set_option linter.unusedSimpArgs false
open Go.RowKit

def RetTell (base : Nat) (o : Option (List Nat)) (e : Ending) (w' : World) : Prop := match o with
  | none => e = .returned (.tuple #[.slice none 0 0, .bool false])
  | some bs => ∃ v, e = .returned (.tuple #[v, .bool true]) ∧ OwnB base w' v bs
theorem putT_bound (n : Int) : (putT n).length ≤ 10 := (putT_len n).1
theorem widT_le {l : List Int} (hI : ∀ n ∈ l, I64 n) : widT l ≤ 64 := by
  unfold widT
  by_cases h0 : 0 < l.length
  · obtain ⟨_, g2, g3⟩ := lo_hi h0
    have h1 := hI _ g2
    have h2 := hI _ g3
    unfold I64 at h1 h2
    exact (bitLen_le _ (by omega)).1
  · have : l = [] := List.length_eq_zero_iff.1 (by omega)
    subst this
    exact (bitLen_le _ (by decide)).1
theorem pack_bound (wd : Nat) (us : List Nat) (h : wd ≤ 64) (hl : us.length ≤ 65535) : (packB wd us).length ≤ 600000 := by
  rw [packB_length]
  have h2 : wd * us.length ≤ 64 * 65535 := Nat.mul_le_mul h hl
  omega
theorem kindT_len (k : Int) (l : List Int) (hI : ∀ n ∈ l, I64 n) (h : l.length ≤ 65535) : (kindT k l).length ≤ 5000000 := by
  unfold kindT
  split
  · have := plainT_len l; omega
  · split
    · have := runsT_len l; omega
    · split
      · unfold frameT
        split
        · simp
        · have h1 := putT_bound (loT l)
          have h2 := pack_bound (widT l) (diffT l) (widT_le hI) (by rw [diffT, List.length_map]; exact h)
          rw [List.length_append, List.length_append, List.length_singleton]
          omega
      · unfold dictT
        have h0 := wordsT_len l
        have h1 := plainT_len (wordsT l)
        have h2 := pack_bound (Lib.bitLen ((wordsT l).length - 1)) (l.map (placeT (wordsT l))) (bitLen_le _ (by omega)).1 (by rw [List.length_map]; exact h)
        have h3 : (numC (wordsT l).length).length ≤ 10 := (numF_len 9 _).1
        rw [List.length_append, List.length_append]
        omega

set_option maxRecDepth 100000 in
set_option maxHeartbeats 8000000 in
theorem tell_1 (l : List Int) (lv : Value) (w : World) (hI : ∀ n ∈ l, I64 n) (hl : l.length ≤ 65535) (hr : Rd w lv (l.map (.int .i64))) :
    Calls Try.prog 27 #[.int .i64 1, lv] w fun e w' => RetTell w.heap.size (tellT 1 l) e w' ∧ Below w.heap.size w w' := by
  have HT := Lib.hid (show tellT 1 l = some (1 :: kindT 1 l) from by unfold tellT; rw [if_neg (by omega)]; rfl)
  have HKL := Lib.hid (kindT_len 1 l hI hl)
  obtain ⟨ao, cap, rfl⟩ := rd_shape1 hr
  obtain ⟨n, hn⟩ : ∃ n, n = l.length := ⟨_, rfl⟩
  rw [List.length_map, ← hn] at hr ⊢
  rw [← hn] at hl
  have HR := Lib.hid hr
  have HN := Lib.hid hn
  have HI := Lib.hid hI
  have h1 : decide ((n : Int) > 65535) = false := decide_eq_false (by omega)
  have h2 : ¬ ((n : Int) > 65535) := by omega
  clear hr hn hI
  go_enter Try.func27, Try.ntmps27
  have HC := Lib.hid fun w' (h : Below w.heap.size w w') => cplain_any l (.slice ao n cap) w' HI.out (by rw [← HN.out]; omega) (HR.out.kept h)
  have HNB := Lib.hid (numbers_any w)
  go_wp2_with fail
  refine HNB.out.mono ?_
  rintro e w1 ⟨rfl, hb1⟩
  have HB1 := Lib.hid hb1
  clear hb1
  go_wp2_with fail
  refine (HC.out w1 HB1.out).mono ?_
  rintro e w2 ⟨v2, rfl, hown20, hb20⟩
  have hown2 : OwnB w.heap.size w2 v2 (kindT 1 l) := own_mono hown20 HB1.out.size
  have hb2 : Below w.heap.size w w2 := below_then HB1.out hb20
  clear hown20 hb20 HC HNB
  obtain ⟨bs, hbs⟩ : ∃ bs, bs = kindT 1 l := ⟨_, rfl⟩
  rw [← hbs] at hown2 HT HKL
  obtain ⟨ao2, cap2, rfl⟩ := hown2.shape
  obtain ⟨m, hm⟩ : ∃ m, m = bs.length := ⟨_, rfl⟩
  have HM := Lib.hid hm
  rw [← hm] at hown2 HKL ⊢
  have HB2 := Lib.hid hb2
  have HOE := Lib.hid (show (w2.alloc (.cells #[.int .u8 (1 : Int)] 5)).ownsRow w.heap.size 5 1 (.slice (some ⟨w2.heap.size, 0, none⟩) 1 1) 1 [.int .u8 (1 : Int)] from World.ownsRow_lit w2 #[.int .u8 (1 : Int)] 1 HB2.out.size (by unfold maxLen; omega) rfl)
  have HRL := Lib.hid (rdS_flat (show Rd (w2.alloc (.cells #[.int .u8 (1 : Int)] 5)) (.slice ao2 m cap2) (bs.map u8v) from (show Rd w2 (.slice ao2 m cap2) (bs.map u8v) from by subst hm; exact OwnB.rd hown2).kept (below_alloc w2 _)))
  have HON := Lib.hid (ones_flat (ones_u8 bs))
  have hszB : w.heap.size ≤ (w2.alloc (.cells #[.int .u8 (1 : Int)] 5)).heap.size := le_alloc0 HB2.out.size _
  have hkl := HKL.out
  clear hown2 hb2 hbs hm
  go_wp2_with (at_builtin; go_must (refine wpList_append_k elmU8 rfl _ _ rfl w.heap.size _ _ _ rfl HOE.out _ ((bs.map u8v).map fun u => [u]) rfl HRL.out HON.out (by simp; have := HM.out; omega) hszB (1 + m) (by have := HM.out; simp; omega) ?_); intro ao4 cap4 w4 hown4 hgrow4 hnew4; have HO4 := Lib.hid hown4; have HG4 := Lib.hid hgrow4; clear hown4 hgrow4 hnew4)
  go_ret2
  have hba : Below w.heap.size w (w2.alloc (.cells #[.int .u8 (1 : Int)] 5)) := HB2.out.trans ((below_alloc w2 _).mono HB2.out.size)
  refine ⟨?_, below_ownB hba hszB (show (w2.alloc (.cells #[.int .u8 (1 : Int)] 5)).grownBy w4 (Value.slice (some ⟨w2.heap.size, 0, none⟩) 1 1).ownBlock from HG4.out) (own_base HOE.out)⟩
  rw [HT.out]
  have h := HO4.out
  rw [flat_ones] at h
  exact ⟨_, rfl, OwnB.of h⟩

set_option maxRecDepth 100000 in
set_option maxHeartbeats 8000000 in
theorem tell_2 (l : List Int) (lv : Value) (w : World) (hI : ∀ n ∈ l, I64 n) (hl : l.length ≤ 65535) (hr : Rd w lv (l.map (.int .i64))) :
    Calls Try.prog 27 #[.int .i64 2, lv] w fun e w' => RetTell w.heap.size (tellT 2 l) e w' ∧ Below w.heap.size w w' := by
  have HT := Lib.hid (show tellT 2 l = some (2 :: kindT 2 l) from by unfold tellT; rw [if_neg (by omega)]; rfl)
  have HKL := Lib.hid (kindT_len 2 l hI hl)
  obtain ⟨ao, cap, rfl⟩ := rd_shape1 hr
  obtain ⟨n, hn⟩ : ∃ n, n = l.length := ⟨_, rfl⟩
  rw [List.length_map, ← hn] at hr ⊢
  rw [← hn] at hl
  have HR := Lib.hid hr
  have HN := Lib.hid hn
  have HI := Lib.hid hI
  have h1 : decide ((n : Int) > 65535) = false := decide_eq_false (by omega)
  have h2 : ¬ ((n : Int) > 65535) := by omega
  clear hr hn hI
  go_enter Try.func27, Try.ntmps27
  have HC := Lib.hid fun w' (h : Below w.heap.size w w') => cruns_any l (.slice ao n cap) w' HI.out (by rw [← HN.out]; omega) (HR.out.kept h)
  have HNB := Lib.hid (numbers_any w)
  go_wp2_with fail
  refine HNB.out.mono ?_
  rintro e w1 ⟨rfl, hb1⟩
  have HB1 := Lib.hid hb1
  clear hb1
  go_wp2_with fail
  refine (HC.out w1 HB1.out).mono ?_
  rintro e w2 ⟨v2, rfl, hown20, hb20⟩
  have hown2 : OwnB w.heap.size w2 v2 (kindT 2 l) := own_mono hown20 HB1.out.size
  have hb2 : Below w.heap.size w w2 := below_then HB1.out hb20
  clear hown20 hb20 HC HNB
  obtain ⟨bs, hbs⟩ : ∃ bs, bs = kindT 2 l := ⟨_, rfl⟩
  rw [← hbs] at hown2 HT HKL
  obtain ⟨ao2, cap2, rfl⟩ := hown2.shape
  obtain ⟨m, hm⟩ : ∃ m, m = bs.length := ⟨_, rfl⟩
  have HM := Lib.hid hm
  rw [← hm] at hown2 HKL ⊢
  have HB2 := Lib.hid hb2
  have HOE := Lib.hid (show (w2.alloc (.cells #[.int .u8 (2 : Int)] 5)).ownsRow w.heap.size 5 1 (.slice (some ⟨w2.heap.size, 0, none⟩) 1 1) 1 [.int .u8 (2 : Int)] from World.ownsRow_lit w2 #[.int .u8 (2 : Int)] 1 HB2.out.size (by unfold maxLen; omega) rfl)
  have HRL := Lib.hid (rdS_flat (show Rd (w2.alloc (.cells #[.int .u8 (2 : Int)] 5)) (.slice ao2 m cap2) (bs.map u8v) from (show Rd w2 (.slice ao2 m cap2) (bs.map u8v) from by subst hm; exact OwnB.rd hown2).kept (below_alloc w2 _)))
  have HON := Lib.hid (ones_flat (ones_u8 bs))
  have hszB : w.heap.size ≤ (w2.alloc (.cells #[.int .u8 (2 : Int)] 5)).heap.size := le_alloc0 HB2.out.size _
  have hkl := HKL.out
  clear hown2 hb2 hbs hm
  go_wp2_with (at_builtin; go_must (refine wpList_append_k elmU8 rfl _ _ rfl w.heap.size _ _ _ rfl HOE.out _ ((bs.map u8v).map fun u => [u]) rfl HRL.out HON.out (by simp; have := HM.out; omega) hszB (1 + m) (by have := HM.out; simp; omega) ?_); intro ao4 cap4 w4 hown4 hgrow4 hnew4; have HO4 := Lib.hid hown4; have HG4 := Lib.hid hgrow4; clear hown4 hgrow4 hnew4)
  go_ret2
  have hba : Below w.heap.size w (w2.alloc (.cells #[.int .u8 (2 : Int)] 5)) := HB2.out.trans ((below_alloc w2 _).mono HB2.out.size)
  refine ⟨?_, below_ownB hba hszB (show (w2.alloc (.cells #[.int .u8 (2 : Int)] 5)).grownBy w4 (Value.slice (some ⟨w2.heap.size, 0, none⟩) 1 1).ownBlock from HG4.out) (own_base HOE.out)⟩
  rw [HT.out]
  have h := HO4.out
  rw [flat_ones] at h
  exact ⟨_, rfl, OwnB.of h⟩

set_option maxRecDepth 100000 in
set_option maxHeartbeats 8000000 in
theorem tell_3 (l : List Int) (lv : Value) (w : World) (hI : ∀ n ∈ l, I64 n) (hl : l.length ≤ 65535) (hr : Rd w lv (l.map (.int .i64))) :
    Calls Try.prog 27 #[.int .i64 3, lv] w fun e w' => RetTell w.heap.size (tellT 3 l) e w' ∧ Below w.heap.size w w' := by
  have HT := Lib.hid (show tellT 3 l = some (3 :: kindT 3 l) from by unfold tellT; rw [if_neg (by omega)]; rfl)
  have HKL := Lib.hid (kindT_len 3 l hI hl)
  obtain ⟨ao, cap, rfl⟩ := rd_shape1 hr
  obtain ⟨n, hn⟩ : ∃ n, n = l.length := ⟨_, rfl⟩
  rw [List.length_map, ← hn] at hr ⊢
  rw [← hn] at hl
  have HR := Lib.hid hr
  have HN := Lib.hid hn
  have HI := Lib.hid hI
  have h1 : decide ((n : Int) > 65535) = false := decide_eq_false (by omega)
  have h2 : ¬ ((n : Int) > 65535) := by omega
  clear hr hn hI
  go_enter Try.func27, Try.ntmps27
  have HC := Lib.hid (frame_any l (.slice ao n cap) w HI.out (by rw [← HN.out]; omega) HR.out)
  go_wp2_with fail
  refine HC.out.mono ?_
  rintro e w2 ⟨v2, rfl, hown20, hb2⟩
  have hown2 : OwnB w.heap.size w2 v2 (kindT 3 l) := hown20
  clear hown20 HC
  obtain ⟨bs, hbs⟩ : ∃ bs, bs = kindT 3 l := ⟨_, rfl⟩
  rw [← hbs] at hown2 HT HKL
  obtain ⟨ao2, cap2, rfl⟩ := hown2.shape
  obtain ⟨m, hm⟩ : ∃ m, m = bs.length := ⟨_, rfl⟩
  have HM := Lib.hid hm
  rw [← hm] at hown2 HKL ⊢
  have HB2 := Lib.hid hb2
  have HOE := Lib.hid (show (w2.alloc (.cells #[.int .u8 (3 : Int)] 5)).ownsRow w.heap.size 5 1 (.slice (some ⟨w2.heap.size, 0, none⟩) 1 1) 1 [.int .u8 (3 : Int)] from World.ownsRow_lit w2 #[.int .u8 (3 : Int)] 1 HB2.out.size (by unfold maxLen; omega) rfl)
  have HRL := Lib.hid (rdS_flat (show Rd (w2.alloc (.cells #[.int .u8 (3 : Int)] 5)) (.slice ao2 m cap2) (bs.map u8v) from (show Rd w2 (.slice ao2 m cap2) (bs.map u8v) from by subst hm; exact OwnB.rd hown2).kept (below_alloc w2 _)))
  have HON := Lib.hid (ones_flat (ones_u8 bs))
  have hszB : w.heap.size ≤ (w2.alloc (.cells #[.int .u8 (3 : Int)] 5)).heap.size := le_alloc0 HB2.out.size _
  have hkl := HKL.out
  clear hown2 hb2 hbs hm
  go_wp2_with (at_builtin; go_must (refine wpList_append_k elmU8 rfl _ _ rfl w.heap.size _ _ _ rfl HOE.out _ ((bs.map u8v).map fun u => [u]) rfl HRL.out HON.out (by simp; have := HM.out; omega) hszB (1 + m) (by have := HM.out; simp; omega) ?_); intro ao4 cap4 w4 hown4 hgrow4 hnew4; have HO4 := Lib.hid hown4; have HG4 := Lib.hid hgrow4; clear hown4 hgrow4 hnew4)
  go_ret2
  have hba : Below w.heap.size w (w2.alloc (.cells #[.int .u8 (3 : Int)] 5)) := HB2.out.trans ((below_alloc w2 _).mono HB2.out.size)
  refine ⟨?_, below_ownB hba hszB (show (w2.alloc (.cells #[.int .u8 (3 : Int)] 5)).grownBy w4 (Value.slice (some ⟨w2.heap.size, 0, none⟩) 1 1).ownBlock from HG4.out) (own_base HOE.out)⟩
  rw [HT.out]
  have h := HO4.out
  rw [flat_ones] at h
  exact ⟨_, rfl, OwnB.of h⟩

set_option maxRecDepth 100000 in
set_option maxHeartbeats 8000000 in
theorem tell_4 (l : List Int) (lv : Value) (w : World) (hI : ∀ n ∈ l, I64 n) (hl : l.length ≤ 65535) (hr : Rd w lv (l.map (.int .i64))) :
    Calls Try.prog 27 #[.int .i64 4, lv] w fun e w' => RetTell w.heap.size (tellT 4 l) e w' ∧ Below w.heap.size w w' := by
  have HT := Lib.hid (show tellT 4 l = some (4 :: kindT 4 l) from by unfold tellT; rw [if_neg (by omega)]; rfl)
  have HKL := Lib.hid (kindT_len 4 l hI hl)
  obtain ⟨ao, cap, rfl⟩ := rd_shape1 hr
  obtain ⟨n, hn⟩ : ∃ n, n = l.length := ⟨_, rfl⟩
  rw [List.length_map, ← hn] at hr ⊢
  rw [← hn] at hl
  have HR := Lib.hid hr
  have HN := Lib.hid hn
  have HI := Lib.hid hI
  have h1 : decide ((n : Int) > 65535) = false := decide_eq_false (by omega)
  have h2 : ¬ ((n : Int) > 65535) := by omega
  clear hr hn hI
  go_enter Try.func27, Try.ntmps27
  have HC := Lib.hid fun w' (h : Below w.heap.size w w') => cdict_any l (.slice ao n cap) w' HI.out (by rw [← HN.out]; omega) (HR.out.kept h)
  have HNB := Lib.hid (numbers_any w)
  go_wp2_with fail
  refine HNB.out.mono ?_
  rintro e w1 ⟨rfl, hb1⟩
  have HB1 := Lib.hid hb1
  clear hb1
  go_wp2_with fail
  refine (HC.out w1 HB1.out).mono ?_
  rintro e w2 ⟨v2, rfl, hown20, hb20⟩
  have hown2 : OwnB w.heap.size w2 v2 (kindT 4 l) := own_mono hown20 HB1.out.size
  have hb2 : Below w.heap.size w w2 := below_then HB1.out hb20
  clear hown20 hb20 HC HNB
  obtain ⟨bs, hbs⟩ : ∃ bs, bs = kindT 4 l := ⟨_, rfl⟩
  rw [← hbs] at hown2 HT HKL
  obtain ⟨ao2, cap2, rfl⟩ := hown2.shape
  obtain ⟨m, hm⟩ : ∃ m, m = bs.length := ⟨_, rfl⟩
  have HM := Lib.hid hm
  rw [← hm] at hown2 HKL ⊢
  have HB2 := Lib.hid hb2
  have HOE := Lib.hid (show (w2.alloc (.cells #[.int .u8 (4 : Int)] 5)).ownsRow w.heap.size 5 1 (.slice (some ⟨w2.heap.size, 0, none⟩) 1 1) 1 [.int .u8 (4 : Int)] from World.ownsRow_lit w2 #[.int .u8 (4 : Int)] 1 HB2.out.size (by unfold maxLen; omega) rfl)
  have HRL := Lib.hid (rdS_flat (show Rd (w2.alloc (.cells #[.int .u8 (4 : Int)] 5)) (.slice ao2 m cap2) (bs.map u8v) from (show Rd w2 (.slice ao2 m cap2) (bs.map u8v) from by subst hm; exact OwnB.rd hown2).kept (below_alloc w2 _)))
  have HON := Lib.hid (ones_flat (ones_u8 bs))
  have hszB : w.heap.size ≤ (w2.alloc (.cells #[.int .u8 (4 : Int)] 5)).heap.size := le_alloc0 HB2.out.size _
  have hkl := HKL.out
  clear hown2 hb2 hbs hm
  go_wp2_with (at_builtin; go_must (refine wpList_append_k elmU8 rfl _ _ rfl w.heap.size _ _ _ rfl HOE.out _ ((bs.map u8v).map fun u => [u]) rfl HRL.out HON.out (by simp; have := HM.out; omega) hszB (1 + m) (by have := HM.out; simp; omega) ?_); intro ao4 cap4 w4 hown4 hgrow4 hnew4; have HO4 := Lib.hid hown4; have HG4 := Lib.hid hgrow4; clear hown4 hgrow4 hnew4)
  go_ret2
  have hba : Below w.heap.size w (w2.alloc (.cells #[.int .u8 (4 : Int)] 5)) := HB2.out.trans ((below_alloc w2 _).mono HB2.out.size)
  refine ⟨?_, below_ownB hba hszB (show (w2.alloc (.cells #[.int .u8 (4 : Int)] 5)).grownBy w4 (Value.slice (some ⟨w2.heap.size, 0, none⟩) 1 1).ownBlock from HG4.out) (own_base HOE.out)⟩
  rw [HT.out]
  have h := HO4.out
  rw [flat_ones] at h
  exact ⟨_, rfl, OwnB.of h⟩

set_option maxRecDepth 100000 in
set_option maxHeartbeats 8000000 in
theorem tell_no (k : Int) (l : List Int) (lv : Value) (w : World) (hl : l.length ≤ 100000) (hk : l.length ≤ 65535 → k < 1 ∨ 4 < k) (hr : Rd w lv (l.map (.int .i64))) :
    Calls Try.prog 27 #[.int .i64 k, lv] w fun e w' => RetTell w.heap.size (tellT k l) e w' ∧ Below w.heap.size w w' := by
  have HT := Lib.hid (show tellT k l = none from by unfold tellT; rw [if_pos (by omega)])
  obtain ⟨ao, cap, rfl⟩ := rd_shape1 hr
  obtain ⟨n, hn⟩ : ∃ n, n = l.length := ⟨_, rfl⟩
  rw [List.length_map, ← hn] at hr ⊢
  rw [← hn] at hl hk
  clear hr hn
  by_cases hb : 65535 < n
  · have h1 : decide ((n : Int) > 65535) = true := decide_eq_true (by omega)
    have h2 : (n : Int) > 65535 := by omega
    clear hk
    go_enter Try.func27, Try.ntmps27
    go_wp2_with fail
    go_ret2
    refine ⟨?_, Below.refl _ _⟩
    rw [HT.out]
    rfl
  · have hk2 := hk (by omega)
    have h1 : decide ((n : Int) > 65535) = false := decide_eq_false (by omega)
    have h2 : ¬ ((n : Int) > 65535) := by omega
    have b1 : ¬ (k = 1) := by omega
    have b2 : ¬ (k = 2) := by omega
    have b3 : ¬ (k = 3) := by omega
    have b4 : ¬ (k = 4) := by omega
    have c1 : (k == 1) = false := beq_eq_false_iff_ne.2 b1
    have c2 : (k == 2) = false := beq_eq_false_iff_ne.2 b2
    have c3 : (k == 3) = false := beq_eq_false_iff_ne.2 b3
    have c4 : (k == 4) = false := beq_eq_false_iff_ne.2 b4
    clear hk hk2
    go_enter Try.func27, Try.ntmps27
    go_wp2_with fail
    go_ret2
    refine ⟨?_, Below.refl _ _⟩
    rw [HT.out]
    rfl

theorem tell_any (k : Int) (l : List Int) (lv : Value) (w : World) (hI : ∀ n ∈ l, I64 n) (hl : l.length ≤ 100000) (hr : Rd w lv (l.map (.int .i64))) :
    Calls Try.prog 27 #[.int .i64 k, lv] w fun e w' => RetTell w.heap.size (tellT k l) e w' ∧ Below w.heap.size w w' := by
  by_cases hn : l.length ≤ 65535 → k < 1 ∨ 4 < k
  · exact tell_no k l lv w hl hn hr
  · have h1 : l.length ≤ 65535 := by omega
    rcases (by omega : k = 1 ∨ k = 2 ∨ k = 3 ∨ k = 4) with rfl | rfl | rfl | rfl
    · exact tell_1 l lv w hI h1 hr
    · exact tell_2 l lv w hI h1 hr
    · exact tell_3 l lv w hI h1 hr
    · exact tell_4 l lv w hI h1 hr


end Go.Proofs.Yteloepccjoikdaa

namespace Go.Proofs.Yteloepccjoikdaa
set_option linter.unusedVariables false
set_option linter.unusedSimpArgs false
open Go.RowKit

theorem runsT_lt : ∀ (m : Nat) (l : List Int), l.length ≤ m → l.length ≤ 100000 → (∀ n ∈ l, I64 n) → ∀ x ∈ runsT l, x < 256
  | 0, l, h0, _, _, x, hx => by
    have : l = [] := List.length_eq_zero_iff.1 (by omega)
    subst this
    simp [runsT, grp] at hx
  | m + 1, l, h0, hl, hI, x, hx => by
    by_cases hp : 0 < l.length
    · obtain ⟨n, a, h1, h2, h3, h4, h5, h6, h7, h8⟩ := runsT_step l hp
      rw [h7, List.mem_append, List.mem_append] at hx
      rcases hx with (hx | hx) | hx
      · exact numC_lt n (by omega) x hx
      · exact putT_lt (hI a (List.mem_of_getElem? h4)) x hx
      · exact runsT_lt m (l.drop n) (by rw [List.length_drop]; omega) (by rw [List.length_drop]; omega) (fun z hz => hI z (List.mem_of_mem_drop hz)) x hx
    · have : l = [] := List.length_eq_zero_iff.1 (by omega)
      subst this
      simp [runsT, grp] at hx
theorem packB_mem_lt (n : Nat) (us : List Nat) : ∀ x ∈ packB n us, x < 256 := fun x hx => by
  obtain ⟨i, hi⟩ := List.getElem?_of_mem hx
  have h := packB_lt n us i
  rw [List.getD_eq_getElem?_getD, hi] at h
  exact h
theorem kindT_lt (k : Int) (l : List Int) (hI : ∀ n ∈ l, I64 n) (h : l.length ≤ 65535) : ∀ x ∈ kindT k l, x < 256 := by
  intro x hx
  unfold kindT at hx
  split at hx
  · exact plainT_lt hI x hx
  · split at hx
    · exact runsT_lt _ l (Nat.le_refl _) (by omega) hI x hx
    · split at hx
      · unfold frameT at hx
        split at hx
        · simp at hx
        · rename_i h0
          obtain ⟨_, g2, _⟩ := lo_hi (l := l) (by omega)
          rw [List.mem_append, List.mem_append, List.mem_singleton] at hx
          rcases hx with (hx | hx) | hx
          · exact putT_lt (hI _ g2) x hx
          · have := widT_le hI; omega
          · exact packB_mem_lt _ _ x hx
      · unfold dictT at hx
        have h0 := wordsT_len l
        rw [List.mem_append, List.mem_append] at hx
        rcases hx with (hx | hx) | hx
        · exact numC_lt _ (by omega) x hx
        · exact plainT_lt (fun z hz => hI z ((wordsT_mem l z).1 hz)) x hx
        · exact packB_mem_lt _ _ x hx
theorem pack_small (wd : Nat) (us : List Nat) (h : wd ≤ 64) (hl : us.length ≤ 100) : (packB wd us).length ≤ 1000 := by
  rw [packB_length]
  have h2 : wd * us.length ≤ 64 * 100 := Nat.mul_le_mul h hl
  omega
theorem kindT_small (k : Int) (l : List Int) (hI : ∀ n ∈ l, I64 n) (h : l.length ≤ 100) : (kindT k l).length ≤ 10000 := by
  unfold kindT
  split
  · have := plainT_len l; omega
  · split
    · have := runsT_len l; omega
    · split
      · unfold frameT
        split
        · simp
        · have h1 := putT_bound (loT l)
          have h2 := pack_small (widT l) (diffT l) (widT_le hI) (by rw [diffT, List.length_map]; exact h)
          rw [List.length_append, List.length_append, List.length_singleton]
          omega
      · unfold dictT
        have h0 := wordsT_len l
        have h1 := plainT_len (wordsT l)
        have h2 := pack_small (Lib.bitLen ((wordsT l).length - 1)) (l.map (placeT (wordsT l))) (bitLen_le _ (by omega)).1 (by rw [List.length_map]; exact h)
        have h3 : (numC (wordsT l).length).length ≤ 10 := (numF_len 9 _).1
        rw [List.length_append, List.length_append]
        omega
theorem tell_some (k : Int) (hk : 1 ≤ k ∧ k ≤ 4) (l : List Int) (hl : l.length ≤ 100) : tellT k l = some (k.toNat :: kindT k l) := by
  unfold tellT
  rw [if_neg (by omega)]
theorem told_lt (k : Int) (hk : 1 ≤ k ∧ k ≤ 4) (l : List Int) (hI : ∀ n ∈ l, I64 n) (hl : l.length ≤ 100) : (∀ x ∈ k.toNat :: kindT k l, x < 256) ∧ (k.toNat :: kindT k l).length ≤ 10001 := by
  refine ⟨fun x hx => ?_, by rw [List.length_cons]; have := kindT_small k l hI hl; omega⟩
  rcases List.mem_cons.1 hx with rfl | hx
  · omega
  · exact kindT_lt k l hI (by omega) x hx
theorem and_lowI (x : Int) (j : Nat) (hj : j ≤ 20) (m : Int) (hm : m = 2 ^ j - 1) : bits .and .i64 x m = x % 2 ^ j := by
  subst hm
  have hp : (2 ^ j : Int) = ((2 ^ j : Nat) : Int) := by simp
  have hpos : 0 < 2 ^ j := Nat.two_pow_pos j
  have hle : 2 ^ j ≤ 2 ^ 20 := Nat.pow_le_pow_right (by decide) hj
  have h : bits .and .i64 x (2 ^ j - 1) = IntKind.i64.wrap ((BitVec.ofInt 64 x &&& BitVec.ofInt 64 (2 ^ j - 1)).toNat : Int) := rfl
  have e1 : (BitVec.ofInt 64 ((2 : Int) ^ j - 1)).toNat = 2 ^ j - 1 := by
    rw [hp, show (((2 ^ j : Nat) : Int) - 1) = ((2 ^ j - 1 : Nat) : Int) by omega, BitVec.ofInt_natCast, BitVec.toNat_ofNat]
    exact Nat.mod_eq_of_lt (by omega)
  have h1 : (BitVec.ofInt 64 x &&& BitVec.ofInt 64 (2 ^ j - 1)).toNat = (x % 2 ^ j).toNat := by
    rw [BitVec.toNat_and, e1, Nat.and_two_pow_sub_one_eq_mod, BitVec.toNat_ofInt]
    have hd : ((2 ^ j : Nat) : Int) ∣ ((2 ^ 64 : Nat) : Int) := Int.natCast_dvd_natCast.2 (Nat.pow_dvd_pow 2 (by omega))
    have h64 : 0 ≤ x % ((2 ^ 64 : Nat) : Int) := Int.emod_nonneg _ (by decide)
    have hm2 : (x % ((2 ^ 64 : Nat) : Int)) % ((2 ^ j : Nat) : Int) = x % ((2 ^ j : Nat) : Int) := Int.emod_emod_of_dvd x hd
    have : (((x % ((2 ^ 64 : Nat) : Int)).toNat % 2 ^ j : Nat) : Int) = x % ((2 ^ j : Nat) : Int) := by
      rw [Int.natCast_emod, Int.toNat_of_nonneg h64]
      exact hm2
    rw [hp, ← this]
    rfl
  rw [h, h1]
  have h0 : 0 ≤ x % (2 : Int) ^ j := Int.emod_nonneg _ (by rw [hp]; omega)
  have h2 : x % (2 : Int) ^ j < (2 : Int) ^ j := Int.emod_lt_of_pos _ (by rw [hp]; omega)
  rw [Int.toNat_of_nonneg h0]
  exact IntWalk.i64_in _ (by rw [hp] at *; omega)
set_option maxRecDepth 100000 in
set_option maxHeartbeats 8000000 in
theorem sameints_any (l : List Int) (av bv : Value) (w : World) (hl : l.length ≤ 100000) (ha : Rd w av (l.map (.int .i64))) (hb : Rd w bv (l.map (.int .i64))) :
    Calls Try.prog 29 #[av, bv] w fun e w' => e = .returned (.bool true) ∧ Below w.heap.size w w' := by
  obtain ⟨ao, ac, rfl⟩ := rd_shape1 ha
  obtain ⟨bo, bc, rfl⟩ := rd_shape1 hb
  obtain ⟨n, hn⟩ : ∃ n, n = l.length := ⟨_, rfl⟩
  rw [List.length_map, ← hn] at ha hb ⊢
  rw [← hn] at hl
  have HA := Lib.hid ha
  have HB := Lib.hid hb
  have HN := Lib.hid hn
  clear ha hb hn
  go_enter Try.func29, Try.ntmps29
  go_wp2_with fail
  go_loopw [5] (fun i wr => ∃ q : Nat, q ≤ n ∧ i = .int .i64 (q : Int) ∧ Below w.heap.size w wr) (fun i _ => n - (intOf i).toNat)
  case atStart => exact ⟨0, Nat.zero_le _, rfl, Below.refl _ _⟩
  case round =>
    obtain ⟨q, hq, rfl, hbel⟩ := hrel
    have HBL := Lib.hid hbel
    by_cases hlt : q < n
    · have hlti : (q : Int) < (n : Int) := by omega
      have hq0 : (0 : Int) ≤ (q : Int) := by omega
      obtain ⟨b1, o1, rfl, hc1⟩ := (rd_i64_cells (HA.out.kept hbel)).2 (by omega)
      obtain ⟨b2, o2, rfl, hc2⟩ := (rd_i64_cells (HB.out.kept hbel)).2 (by omega)
      have hx1 := hc1 q hlt
      have hx2 := hc2 q hlt
      obtain ⟨z, hz⟩ : ∃ z, z = l.getD q 0 := ⟨_, rfl⟩
      rw [← hz] at hx1 hx2
      clear hbel hc1 hc2 hz
      go_wp2_with fail
      go_quiet (fail)
      go_wp2_with fail
      go_roundw
      case rel => exact ⟨q + 1, by omega, by go_num, below_draws2 HBL.out _⟩
      case measure => simp [intOf]; omega
    · have hqn : q = n := by omega
      subst hqn
      have hlti : ¬ (q : Int) < (q : Int) := by omega
      clear hbel
      go_wp2_with fail
      go_ret
      exact ⟨rfl, HBL.out⟩


end Go.Proofs.Yteloepccjoikdaa

namespace Go.Proofs.Yteloepccjoikdaa
set_option linter.unusedVariables false
set_option linter.unusedSimpArgs false
open Go.RowKit

def bestN (l : List Int) : Nat → List Nat
  | 0 => []
  | q + 1 => if q = 0 ∨ ((q + 1) :: kindT ((q : Int) + 1) l).length < (bestN l q).length then (q + 1) :: kindT ((q : Int) + 1) l else bestN l q
theorem bestN_ok (l : List Int) : ∀ q, 0 < q → (∃ k : Nat, 1 ≤ k ∧ k ≤ q ∧ bestN l q = k :: kindT (k : Int) l) ∧ (∀ k : Nat, 1 ≤ k → k ≤ q → (bestN l q).length ≤ (k :: kindT (k : Int) l).length) ∧ (∀ k : Nat, 1 ≤ k → k ≤ q → (bestN l q).length = (k :: kindT (k : Int) l).length → ∀ x, (bestN l q)[0]? = some x → x ≤ k)
  | 0, h => by omega
  | q + 1, _ => by
    by_cases h0 : q = 0
    · subst h0
      have e : bestN l (0 + 1) = 1 :: kindT (((1 : Nat) : Int)) l := by rw [bestN, if_pos (.inl rfl)]; rfl
      rw [e]
      refine ⟨⟨1, by omega, by omega, rfl⟩, fun k h1 h2 => ?_, fun k h1 h2 _ x hx => ?_⟩
      · rw [show k = 1 by omega]; exact Nat.le_refl _
      · rw [List.getElem?_cons_zero] at hx
        have := Option.some.inj hx
        omega
    · obtain ⟨⟨k, hk1, hk2, hk3⟩, hall, hlow⟩ := bestN_ok l q (by omega)
      have en : (((q + 1 : Nat)) : Int) = (q : Int) + 1 := by omega
      by_cases hlt : ((q + 1) :: kindT ((q : Int) + 1) l).length < (bestN l q).length
      · have e : bestN l (q + 1) = (q + 1) :: kindT (((q + 1 : Nat) : Int)) l := by rw [bestN, if_pos (.inr hlt), en]
        rw [e]
        refine ⟨⟨q + 1, by omega, by omega, rfl⟩, fun k h1 h2 => ?_, fun k h1 h2 h3 x hx => ?_⟩
        · rcases Nat.lt_or_ge k (q + 1) with h | h
          · have := hall k h1 (by omega)
            rw [en]
            omega
          · rw [show k = q + 1 by omega]; exact Nat.le_refl _
        · rcases Nat.lt_or_ge k (q + 1) with h | h
          · have := hall k h1 (by omega)
            rw [en] at h3
            omega
          · rw [List.getElem?_cons_zero] at hx
            have := Option.some.inj hx
            omega
      · have e : bestN l (q + 1) = bestN l q := by rw [bestN, if_neg (by rintro (h | h) <;> omega)]
        rw [e]
        refine ⟨⟨k, hk1, by omega, hk3⟩, fun j h1 h2 => ?_, fun j h1 h2 h3 x hx => ?_⟩
        · rcases Nat.lt_or_ge j (q + 1) with h | h
          · exact hall j h1 (by omega)
          · rw [show j = q + 1 by omega, en]; omega
        · rcases Nat.lt_or_ge j (q + 1) with h | h
          · exact hlow j h1 (by omega) h3 x hx
          · rw [hk3, List.getElem?_cons_zero] at hx
            have := Option.some.inj hx
            omega

set_option maxRecDepth 100000 in
set_option maxHeartbeats 8000000 in
theorem enc1_any (k : Int) (hk : 1 ≤ k ∧ k ≤ 4) (X : Nat) (l : List Int) (lv : Value) (w : World) (hI : ∀ n ∈ l, I64 n) (hl : l.length ≤ 100) (hr : Rd w lv (l.map (.int .i64))) (hx : w.cell? ⟨X, 0, none⟩ = some lv) :
    Calls Try.prog 71 #[.int .i64 k, .pointer (some ⟨X, 0, none⟩)] w fun e w' => ∃ v, e = .returned (.tuple #[v, .bool true]) ∧ OwnB w.heap.size w' v (k.toNat :: kindT k l) ∧ Below w.heap.size w w' := by
  obtain ⟨ao, cap, rfl⟩ := rd_shape1 hr
  rw [List.length_map] at hr hx
  have hT := tell_any k l (.slice ao l.length cap) w hI (by omega) hr
  rw [tell_some k hk l hl] at hT
  obtain ⟨bs, hbs⟩ : ∃ bs, bs = k.toNat :: kindT k l := ⟨_, rfl⟩
  rw [← hbs] at hT ⊢
  obtain ⟨n, hn⟩ : ∃ n, n = l.length := ⟨_, rfl⟩
  rw [← hn] at hT hx
  have HT := Lib.hid hT
  clear hT hr hk hl hbs hn hI
  go_enter Try.func71, Try.ntmps71
  go_wp2_with fail
  refine HT.out.mono ?_
  rintro e w2 ⟨⟨v, rfl, hown⟩, hb⟩
  have HO := Lib.hid hown
  have HB := Lib.hid hb
  clear hown hb
  go_wp2_with fail
  go_ret2
  exact ⟨v, rfl, HO.out, HB.out⟩

set_option maxRecDepth 100000 in
set_option maxHeartbeats 8000000 in
theorem shortest_any (X : Nat) (l : List Int) (lv : Value) (w : World) (hI : ∀ n ∈ l, I64 n) (hl : l.length ≤ 100) (hr : Rd w lv (l.map (.int .i64))) (hx : w.cell? ⟨X, 0, none⟩ = some lv) :
    Calls Try.prog 70 #[.int .i64 4, .func (.func 71) #[] #[.pointer (some ⟨X, 0, none⟩)]] w fun e w' => ∃ v, e = .returned v ∧ OwnB w.heap.size w' v (bestN l 4) ∧ Below w.heap.size w w' := by
  have HE := Lib.hid (show ∀ (k : Int) w', 1 ≤ k ∧ k ≤ 4 → Below w.heap.size w w' → Calls Try.prog 71 #[.int .i64 k, .pointer (some ⟨X, 0, none⟩)] w' fun e w'' => ∃ ao n cap, e = .returned (.tuple #[.slice ao n cap, .bool true]) ∧ OwnB w.heap.size w'' (.slice ao n cap) (k.toNat :: kindT k l) ∧ n = (k.toNat :: kindT k l).length ∧ Below w'.heap.size w' w'' from fun k w' hk hb => by
    refine (enc1_any k hk X l lv w' hI hl (hr.kept hb) ((hb.cell (World.block_lt_of_cell? _ _ hx)).trans hx)).mono ?_
    rintro e w'' ⟨v, he, ho, hb2⟩
    obtain ⟨ao, cap, rfl⟩ := ho.shape
    exact ⟨ao, _, cap, he, own_mono ho hb.size, rfl, hb2⟩)
  clear hI hl hr hx
  go_enter Try.func70, Try.ntmps70
  go_wp2_with fail
  go_loopw [5, 6] (fun b k wr => ∃ q : Nat, q ≤ 4 ∧ k = .int .i64 ((q : Int) + 1) ∧ OwnB w.heap.size wr b (bestN l q) ∧ Below w.heap.size w wr ∧ (q = 0 → b = .slice none 0 0)) (fun _ k _ => 5 - (intOf k).toNat)
  case atStart => exact ⟨0, by omega, rfl, ownB_nil _ _, Below.refl _ _, fun _ => rfl⟩
  case round =>
    obtain ⟨q, hq, rfl, hown, hbel, hnone⟩ := hrel
    obtain ⟨ao, cap, rfl⟩ := hown.shape
    obtain ⟨n, hn⟩ : ∃ n, n = (bestN l q).length := ⟨_, rfl⟩
    rw [← hn] at hown hnone ⊢
    have HO := Lib.hid (show wr.ownsRow w.heap.size 5 1 (.slice ao n cap) n ((bestN l q).map u8v) from by subst hn; exact hown)
    have HN := Lib.hid hn
    have HB := Lib.hid hbel
    have HNONE := Lib.hid (show q = 0 → ao = none ∧ n = 0 ∧ cap = 0 from fun h => by have := hnone h; simp only [Value.slice.injEq] at this; exact ⟨this.1, by omega, this.2.2⟩)
    clear hown hn hbel hnone
    by_cases hq4 : q < 4
    · have hk1 : (q : Int) + 1 ≤ 4 := by omega
      have HC := Lib.hid (HE.out ((q : Int) + 1) wr (by omega) HB.out)
      go_wp2_with fail
      refine HC.out.mono ?_
      rintro e w2 ⟨ao2, n2, cap2, rfl, hown2, hn2, hb2⟩
      rw [show ((q : Int) + 1).toNat = q + 1 by omega] at hown2 hn2
      have HO2 := Lib.hid hown2
      have HB2 := Lib.hid (below_then HB.out hb2)
      have HN2 := Lib.hid hn2
      have HOK := Lib.hid (show OwnB w.heap.size w2 (.slice ao n cap) (bestN l q) from OwnB.of <| HO.out.kept (grown_of_below hb2 none) (by cases h : (Value.slice ao n cap).ownBlock with | none => exact .inl rfl | some g => exact .inr (by simp)))
      clear hown2 hn2 hb2
      by_cases h0 : q = 0
      · subst h0
        obtain ⟨rfl, rfl, rfl⟩ := HNONE.out rfl
        have heq := fun (w' : World) => Lib.run_eql_slice_nil (P := Try.prog) w' 38 5 none 0 0 0 0 Try.underlying38
        go_wp2_with fail
        go_roundw
        case rel =>
          refine ⟨0 + 1, by omega, rfl, ?_, HB2.out, fun h => by omega⟩
          rw [bestN, if_pos (.inl rfl)]
          exact HO2.out
        case measure => simp [intOf]
      · have hbl := (bestN_ok l q (by omega)).1
        have hnp : 0 < n := by
          obtain ⟨k, _, _, e⟩ := hbl
          rw [HN.out, e]; simp
        obtain ⟨g, rfl⟩ : ∃ g, ao = some ⟨g, 0, none⟩ := by
          rcases HO.out.2 with ⟨hv, _⟩ | ⟨g, c, cur, h1, _⟩
          · simp only [Value.slice.injEq] at hv; omega
          · simp only [Value.slice.injEq] at h1; exact ⟨g, h1.1⟩
        have heq := fun (w' : World) => Lib.run_eql_slice_nil (P := Try.prog) w' 38 5 (some ⟨g, 0, none⟩) n cap 0 0 Try.underlying38
        clear hbl
        by_cases hlt : n2 < n
        · have hlti : (n2 : Int) < (n : Int) := by omega
          go_wp2_with fail
          go_roundw
          case rel =>
            refine ⟨q + 1, by omega, by go_num, ?_, HB2.out, fun h => by omega⟩
            rw [bestN, if_pos (.inr (by rw [← HN2.out, ← HN.out]; exact hlt))]
            exact HO2.out
          case measure => simp [intOf]; omega
        · have hlti : ¬ (n2 : Int) < (n : Int) := by omega
          go_wp2_with fail
          go_roundw
          case rel =>
            refine ⟨q + 1, by omega, by go_num, ?_, HB2.out, fun h => by omega⟩
            rw [bestN, if_neg (by rw [← HN2.out, ← HN.out]; omega)]
            exact HOK.out
          case measure => simp [intOf]; omega
    · have hq4e : q = 4 := by omega
      subst hq4e
      have hk1 : ¬ ((4 : Nat) : Int) + 1 ≤ 4 := by omega
      go_wp2_with fail
      go_ret
      exact ⟨_, rfl, OwnB.of HO.out, HB.out⟩

set_option maxRecDepth 100000 in
set_option maxHeartbeats 8000000 in
theorem encode_i (l : List Int) (lv : Value) (w : World) (hI : ∀ n ∈ l, I64 n) (hl : l.length ≤ 100) (hr : Rd w lv (l.map (.int .i64))) :
    Calls Try.prog 32 #[lv] w fun e w' => ∃ v, e = .returned v ∧ OwnB w.heap.size w' v (bestN l 4) ∧ Below w.heap.size w w' := by
  obtain ⟨ao, cap, rfl⟩ := rd_shape1 hr
  obtain ⟨n, hn⟩ : ∃ n, n = l.length := ⟨_, rfl⟩
  rw [List.length_map, ← hn] at hr ⊢
  obtain ⟨W1, hW1⟩ : ∃ W1 : World, W1 = w.alloc (.cells #[.slice ao n cap] 54) := ⟨_, rfl⟩
  have hb1 : Below w.heap.size w W1 := by rw [hW1]; exact below_alloc w _
  have hx : W1.cell? ⟨w.heap.size, 0, none⟩ = some (.slice ao n cap) := by rw [hW1, cell_of_row _ w.heap.size 0 _ _ _ (heap_alloc_new w _)]; rfl
  have HS := Lib.hid (shortest_any w.heap.size l (.slice ao n cap) W1 hI (by omega) (hr.kept hb1) hx)
  have HB1 := Lib.hid hb1
  have HW1 := Lib.hid hW1
  clear hr hn hb1 hx hW1
  go_enter Try.func32, Try.ntmps32
  go_upto_region 1 with (fail)
  rw [← HW1.out]
  go_wp2_with fail
  refine HS.out.mono ?_
  rintro e w2 ⟨v, rfl, hown, hb⟩
  have HO := Lib.hid hown
  have HB := Lib.hid hb
  clear hown hb
  go_wp2_with fail
  go_ret
  exact ⟨v, rfl, own_mono HO.out HB1.out.size, below_then HB1.out HB.out⟩


end Go.Proofs.Yteloepccjoikdaa

namespace Go.Proofs.Yteloepccjoikdaa
set_option linter.unusedVariables false
set_option linter.unusedSimpArgs false
open Go.RowKit

theorem best_dec (l : List Int) (hI : ∀ n ∈ l, I64 n) (hl : l.length ≤ 100) : decT (bestN l 4) (l.length : Int) = some l ∧ (∀ x ∈ bestN l 4, x < 256) ∧ (bestN l 4).length ≤ 10001 := by
  obtain ⟨⟨k, hk1, hk2, hk3⟩, _, _⟩ := bestN_ok l 4 (by omega)
  have e : (k : Int).toNat = k := by omega
  have h1 := dec_tell (k : Int) (by omega) l (by omega) hI
  have h2 := told_lt (k : Int) (by omega) l hI hl
  rw [e] at h1 h2
  rw [hk3]
  exact ⟨h1, h2.1, h2.2⟩
end Go.Proofs.Yteloepccjoikdaa

namespace Go.Proofs.Yteloepccjoikdaa
set_option linter.unusedVariables false
set_option linter.unusedSimpArgs false
open Go.RowKit

theorem wrap_I64 (x : Int) : I64 (IntKind.i64.wrap x) := by
  unfold I64
  simp only [IntKind.wrap_i64]
  omega

set_option maxRecDepth 100000 in
set_option maxHeartbeats 8000000 in
theorem column_any (la : List Int) (a0 : Option Addr) (len0 cap0 : Nat) (how : Int) (w : World) (hw : ∀ n ∈ la, I64 n) (hla : la.length = len0) (hr : Rd w (.slice a0 len0 cap0) (la.map (.int .i64))) :
    Calls Try.prog 31 #[.slice a0 len0 cap0, .int .i64 how] w fun e w' => ∃ v, e = .returned v ∧ ∃ xs, OwnI w.heap.size w' v xs ∧ xs.length ≤ 60 ∧ (∀ z ∈ xs, I64 z) ∧ Below w.heap.size w w' := by
  have HLA := Lib.hid hla
  have HR := Lib.hid hr
  have HI := Lib.hid hw
  have b7 : ∀ x, bits .and .i64 x 7 = x % 8 := fun x => and_lowI x 3 (by decide) 7 rfl
  have b63 : ∀ x, bits .and .i64 x 63 = x % 64 := fun x => and_lowI x 6 (by decide) 63 rfl
  have b3 : ∀ x, bits .and .i64 x 3 = x % 4 := fun x => and_lowI x 2 (by decide) 3 rfl
  have b1 : ∀ x, bits .and .i64 x 1 = x % 2 := fun x => and_lowI x 1 (by decide) 1 rfl
  clear hla hr hw
  go_enter Try.func31, Try.ntmps31
  go_wp2_with fail
  go_loopw [5, 6] (fun v k wr => ∃ (q : Nat) (xs : List Int), q ≤ len0 ∧ q ≤ 60 ∧ k = .int .i64 (q : Int) ∧ xs.length = q ∧ (∀ z ∈ xs, I64 z) ∧ OwnI w.heap.size wr v xs ∧ Below w.heap.size w wr) (fun _ k _ => 60 - (intOf k).toNat)
  case atStart => exact ⟨0, [], Nat.zero_le _, Nat.zero_le _, rfl, rfl, (fun z hz => by cases hz), ownI_nil _ _, Below.refl _ _⟩
  case round =>
    obtain ⟨q, xs, hq, hq4, rfl, hxl, hxI, hown, hbel⟩ := hrel
    obtain ⟨ao, cap, rfl⟩ := hown.shape
    rw [hxl] at hown ⊢
    have HXL := Lib.hid hxl
    have HXI := Lib.hid hxI
    have HO := Lib.hid (show wr.ownsRow w.heap.size 2 1 (.slice ao q cap) q (xs.map (.int .i64)) from by subst hxl; exact hown)
    have HBL := Lib.hid hbel
    clear hxl hxI hown hbel
    by_cases hlt : q < len0 ∧ q < 60
    · obtain ⟨hl1, hl2⟩ := hlt
      have hl1i : (q : Int) < (len0 : Int) := by omega
      have hl2i : (q : Int) < 60 := by omega
      have hq0 : (0 : Int) ≤ (q : Int) := by omega
      obtain ⟨b, off, rfl, hcell⟩ := (rd_i64_cells (HR.out.kept HBL.out)).2 (by omega)
      have hx := hcell q (by omega)
      obtain ⟨z, hz⟩ : ∃ z, z = la.getD q 0 := ⟨_, rfl⟩
      rw [← hz] at hx
      have HZI := Lib.hid (show I64 z from by rw [hz]; exact HI.out _ (getD_mem (by rw [HLA.out]; omega)))
      clear hcell hz
      rcases (by omega : how % 8 = 0 ∨ how % 8 = 1 ∨ how % 8 = 2 ∨ how % 8 = 3 ∨ how % 8 = 4 ∨ how % 8 = 5 ∨ how % 8 = 6 ∨ how % 8 = 7) with hm | hm | hm | hm | hm | hm | hm | hm
      · obtain ⟨u, hue⟩ : ∃ u : Int, u = z % 4 := ⟨_, rfl⟩
        have HU := Lib.hid (show I64 u from by rw [hue]; exact (by unfold I64; omega))
        have HUE := Lib.hid hue
        have hu : z % 4 = u := HUE.out.symm
        clear hue
        have HOA := Lib.hid (show (wr.alloc (.cells #[.int .i64 u] 2)).ownsRow w.heap.size 2 1 (.slice ao q cap) q (xs.map (.int .i64)) from World.ownsRow.alloc HO.out _)
        have HLT := Lib.hid (show RdS (wr.alloc (.cells #[.int .i64 u] 2)) 1 (.slice (some ⟨wr.heap.size, 0, none⟩) 1 1) [[Value.int .i64 u]] from rdS_lit wr #[.int .i64 u] 2 1 rfl)
        have hba : Below w.heap.size w (wr.alloc (.cells #[.int .i64 u] 2)) := HBL.out.trans (below_alloc wr _ |>.mono HBL.out.size)
        have HBA := Lib.hid hba
        have hszB := hba.size
        have HONE := Lib.hid (show Ones 1 [[Value.int .i64 u]] from fun t ht => by rw [List.mem_singleton.1 ht]; exact ⟨rfl, fun u hu => by rw [List.mem_singleton.1 hu]; rfl⟩)
        clear hba
        go_wp2_with (at_builtin; go_must (refine wpList_append_k elmI64 rfl _ _ rfl w.heap.size _ _ _ rfl HOA.out _ [[Value.int .i64 u]] rfl HLT.out HONE.out (by simp; omega) hszB (q + 1) rfl ?_); intro ao4 cap4 w4 hown4 hgrow4 hnew4; have HO4 := Lib.hid hown4; have HG4 := Lib.hid hgrow4; clear hown4 hgrow4 hnew4)
        go_roundw
        case rel =>
          refine ⟨q + 1, xs ++ [u], by omega, by omega, by go_num, by rw [List.length_append, HXL.out]; rfl, fun y hy => ?_, ?_, ?_⟩
          · rcases List.mem_append.1 hy with h | h
            · exact HXI.out y h
            · rw [List.mem_singleton.1 h]; exact HU.out
          · have h := HO4.out
            exact OwnI.of (n := q + 1) (by rw [List.map_append]; exact h)
          · exact below_ownB HBA.out HBA.out.size HG4.out (own_base HOA.out)
        case measure => simp [intOf]; omega
      · obtain ⟨u, hue⟩ : ∃ u : Int, u = IntKind.i64.wrap (1000000 + z % 64) := ⟨_, rfl⟩
        have HU := Lib.hid (show I64 u from by rw [hue]; exact wrap_I64 _)
        have HUE := Lib.hid hue
        have hu : IntKind.i64.wrap (1000000 + z % 64) = u := HUE.out.symm
        clear hue
        have HOA := Lib.hid (show (wr.alloc (.cells #[.int .i64 u] 2)).ownsRow w.heap.size 2 1 (.slice ao q cap) q (xs.map (.int .i64)) from World.ownsRow.alloc HO.out _)
        have HLT := Lib.hid (show RdS (wr.alloc (.cells #[.int .i64 u] 2)) 1 (.slice (some ⟨wr.heap.size, 0, none⟩) 1 1) [[Value.int .i64 u]] from rdS_lit wr #[.int .i64 u] 2 1 rfl)
        have hba : Below w.heap.size w (wr.alloc (.cells #[.int .i64 u] 2)) := HBL.out.trans (below_alloc wr _ |>.mono HBL.out.size)
        have HBA := Lib.hid hba
        have hszB := hba.size
        have HONE := Lib.hid (show Ones 1 [[Value.int .i64 u]] from fun t ht => by rw [List.mem_singleton.1 ht]; exact ⟨rfl, fun u hu => by rw [List.mem_singleton.1 hu]; rfl⟩)
        clear hba
        go_wp2_with (at_builtin; go_must (refine wpList_append_k elmI64 rfl _ _ rfl w.heap.size _ _ _ rfl HOA.out _ [[Value.int .i64 u]] rfl HLT.out HONE.out (by simp; omega) hszB (q + 1) rfl ?_); intro ao4 cap4 w4 hown4 hgrow4 hnew4; have HO4 := Lib.hid hown4; have HG4 := Lib.hid hgrow4; clear hown4 hgrow4 hnew4)
        go_roundw
        case rel =>
          refine ⟨q + 1, xs ++ [u], by omega, by omega, by go_num, by rw [List.length_append, HXL.out]; rfl, fun y hy => ?_, ?_, ?_⟩
          · rcases List.mem_append.1 hy with h | h
            · exact HXI.out y h
            · rw [List.mem_singleton.1 h]; exact HU.out
          · have h := HO4.out
            exact OwnI.of (n := q + 1) (by rw [List.map_append]; exact h)
          · exact below_ownB HBA.out HBA.out.size HG4.out (own_base HOA.out)
        case measure => simp [intOf]; omega
      · obtain ⟨u, hue⟩ : ∃ u : Int, u = IntKind.i64.wrap ((q : Int) / 7 * 1000) := ⟨_, rfl⟩
        have HU := Lib.hid (show I64 u from by rw [hue]; exact wrap_I64 _)
        have HUE := Lib.hid hue
        have hd : Int.tdiv (q : Int) 7 = (q : Int) / 7 := by rw [Int.tdiv_eq_ediv_of_nonneg (by omega)]
        obtain ⟨d, hde⟩ : ∃ d : Int, d = (q : Int) / 7 := ⟨_, rfl⟩
        rw [← hde] at hd HUE
        have hd2 : (q : Int) / 7 = d := hde.symm
        have hd3 : IntKind.i64.wrap d = d := IntWalk.i64_in _ (by omega)
        have hu : IntKind.i64.wrap (d * 1000) = u := HUE.out.symm
        clear hde
        clear hue
        have HOA := Lib.hid (show (wr.alloc (.cells #[.int .i64 u] 2)).ownsRow w.heap.size 2 1 (.slice ao q cap) q (xs.map (.int .i64)) from World.ownsRow.alloc HO.out _)
        have HLT := Lib.hid (show RdS (wr.alloc (.cells #[.int .i64 u] 2)) 1 (.slice (some ⟨wr.heap.size, 0, none⟩) 1 1) [[Value.int .i64 u]] from rdS_lit wr #[.int .i64 u] 2 1 rfl)
        have hba : Below w.heap.size w (wr.alloc (.cells #[.int .i64 u] 2)) := HBL.out.trans (below_alloc wr _ |>.mono HBL.out.size)
        have HBA := Lib.hid hba
        have hszB := hba.size
        have HONE := Lib.hid (show Ones 1 [[Value.int .i64 u]] from fun t ht => by rw [List.mem_singleton.1 ht]; exact ⟨rfl, fun u hu => by rw [List.mem_singleton.1 hu]; rfl⟩)
        clear hba
        go_wp2_with (at_builtin; go_must (refine wpList_append_k elmI64 rfl _ _ rfl w.heap.size _ _ _ rfl HOA.out _ [[Value.int .i64 u]] rfl HLT.out HONE.out (by simp; omega) hszB (q + 1) rfl ?_); intro ao4 cap4 w4 hown4 hgrow4 hnew4; have HO4 := Lib.hid hown4; have HG4 := Lib.hid hgrow4; clear hown4 hgrow4 hnew4)
        go_roundw
        case rel =>
          refine ⟨q + 1, xs ++ [u], by omega, by omega, by go_num, by rw [List.length_append, HXL.out]; rfl, fun y hy => ?_, ?_, ?_⟩
          · rcases List.mem_append.1 hy with h | h
            · exact HXI.out y h
            · rw [List.mem_singleton.1 h]; exact HU.out
          · have h := HO4.out
            exact OwnI.of (n := q + 1) (by rw [List.map_append]; exact h)
          · exact below_ownB HBA.out HBA.out.size HG4.out (own_base HOA.out)
        case measure => simp [intOf]; omega
      · obtain ⟨u, hue⟩ : ∃ u : Int, u = IntKind.i64.wrap (z % 2 * 4611686018427387904) := ⟨_, rfl⟩
        have HU := Lib.hid (show I64 u from by rw [hue]; exact wrap_I64 _)
        have HUE := Lib.hid hue
        obtain ⟨t, hte⟩ : ∃ t : Int, t = z % 2 := ⟨_, rfl⟩
        rw [← hte] at HUE
        have ht2 : z % 2 = t := hte.symm
        have ht3 : IntKind.i64.wrap t = t := IntWalk.i64_in _ (by omega)
        have ht4 : IntKind.i64.wrap (t * 1) = t := by rw [Int.mul_one]; exact ht3
        have hu : IntKind.i64.wrap (t * 4611686018427387904) = u := HUE.out.symm
        clear hte
        clear hue
        have HOA := Lib.hid (show (wr.alloc (.cells #[.int .i64 u] 2)).ownsRow w.heap.size 2 1 (.slice ao q cap) q (xs.map (.int .i64)) from World.ownsRow.alloc HO.out _)
        have HLT := Lib.hid (show RdS (wr.alloc (.cells #[.int .i64 u] 2)) 1 (.slice (some ⟨wr.heap.size, 0, none⟩) 1 1) [[Value.int .i64 u]] from rdS_lit wr #[.int .i64 u] 2 1 rfl)
        have hba : Below w.heap.size w (wr.alloc (.cells #[.int .i64 u] 2)) := HBL.out.trans (below_alloc wr _ |>.mono HBL.out.size)
        have HBA := Lib.hid hba
        have hszB := hba.size
        have HONE := Lib.hid (show Ones 1 [[Value.int .i64 u]] from fun t ht => by rw [List.mem_singleton.1 ht]; exact ⟨rfl, fun u hu => by rw [List.mem_singleton.1 hu]; rfl⟩)
        clear hba
        go_wp2_with (at_builtin; go_must (refine wpList_append_k elmI64 rfl _ _ rfl w.heap.size _ _ _ rfl HOA.out _ [[Value.int .i64 u]] rfl HLT.out HONE.out (by simp; omega) hszB (q + 1) rfl ?_); intro ao4 cap4 w4 hown4 hgrow4 hnew4; have HO4 := Lib.hid hown4; have HG4 := Lib.hid hgrow4; clear hown4 hgrow4 hnew4)
        go_roundw
        case rel =>
          refine ⟨q + 1, xs ++ [u], by omega, by omega, by go_num, by rw [List.length_append, HXL.out]; rfl, fun y hy => ?_, ?_, ?_⟩
          · rcases List.mem_append.1 hy with h | h
            · exact HXI.out y h
            · rw [List.mem_singleton.1 h]; exact HU.out
          · have h := HO4.out
            exact OwnI.of (n := q + 1) (by rw [List.map_append]; exact h)
          · exact below_ownB HBA.out HBA.out.size HG4.out (own_base HOA.out)
        case measure => simp [intOf]; omega
      · have HU := Lib.hid (show I64 (5) from by unfold I64; decide)
        have HOA := Lib.hid (show (wr.alloc (.cells #[.int .i64 5] 2)).ownsRow w.heap.size 2 1 (.slice ao q cap) q (xs.map (.int .i64)) from World.ownsRow.alloc HO.out _)
        have HLT := Lib.hid (show RdS (wr.alloc (.cells #[.int .i64 5] 2)) 1 (.slice (some ⟨wr.heap.size, 0, none⟩) 1 1) [[Value.int .i64 5]] from rdS_lit wr #[.int .i64 5] 2 1 rfl)
        have hba : Below w.heap.size w (wr.alloc (.cells #[.int .i64 5] 2)) := HBL.out.trans (below_alloc wr _ |>.mono HBL.out.size)
        have HBA := Lib.hid hba
        have hszB := hba.size
        have HONE := Lib.hid (show Ones 1 [[Value.int .i64 5]] from fun t ht => by rw [List.mem_singleton.1 ht]; exact ⟨rfl, fun u hu => by rw [List.mem_singleton.1 hu]; rfl⟩)
        clear hba
        go_wp2_with (at_builtin; go_must (refine wpList_append_k elmI64 rfl _ _ rfl w.heap.size _ _ _ rfl HOA.out _ [[Value.int .i64 5]] rfl HLT.out HONE.out (by simp; omega) hszB (q + 1) rfl ?_); intro ao4 cap4 w4 hown4 hgrow4 hnew4; have HO4 := Lib.hid hown4; have HG4 := Lib.hid hgrow4; clear hown4 hgrow4 hnew4)
        go_roundw
        case rel =>
          refine ⟨q + 1, xs ++ [5], by omega, by omega, by go_num, by rw [List.length_append, HXL.out]; rfl, fun y hy => ?_, ?_, ?_⟩
          · rcases List.mem_append.1 hy with h | h
            · exact HXI.out y h
            · rw [List.mem_singleton.1 h]; exact HU.out
          · have h := HO4.out
            exact OwnI.of (n := q + 1) (by rw [List.map_append]; exact h)
          · exact below_ownB HBA.out HBA.out.size HG4.out (own_base HOA.out)
        case measure => simp [intOf]; omega
      · have HU := Lib.hid (show I64 (z) from HZI.out)
        have HOA := Lib.hid (show (wr.alloc (.cells #[.int .i64 z] 2)).ownsRow w.heap.size 2 1 (.slice ao q cap) q (xs.map (.int .i64)) from World.ownsRow.alloc HO.out _)
        have HLT := Lib.hid (show RdS (wr.alloc (.cells #[.int .i64 z] 2)) 1 (.slice (some ⟨wr.heap.size, 0, none⟩) 1 1) [[Value.int .i64 z]] from rdS_lit wr #[.int .i64 z] 2 1 rfl)
        have hba : Below w.heap.size w (wr.alloc (.cells #[.int .i64 z] 2)) := HBL.out.trans (below_alloc wr _ |>.mono HBL.out.size)
        have HBA := Lib.hid hba
        have hszB := hba.size
        have HONE := Lib.hid (show Ones 1 [[Value.int .i64 z]] from fun t ht => by rw [List.mem_singleton.1 ht]; exact ⟨rfl, fun u hu => by rw [List.mem_singleton.1 hu]; rfl⟩)
        clear hba
        go_wp2_with (at_builtin; go_must (refine wpList_append_k elmI64 rfl _ _ rfl w.heap.size _ _ _ rfl HOA.out _ [[Value.int .i64 z]] rfl HLT.out HONE.out (by simp; omega) hszB (q + 1) rfl ?_); intro ao4 cap4 w4 hown4 hgrow4 hnew4; have HO4 := Lib.hid hown4; have HG4 := Lib.hid hgrow4; clear hown4 hgrow4 hnew4)
        go_roundw
        case rel =>
          refine ⟨q + 1, xs ++ [z], by omega, by omega, by go_num, by rw [List.length_append, HXL.out]; rfl, fun y hy => ?_, ?_, ?_⟩
          · rcases List.mem_append.1 hy with h | h
            · exact HXI.out y h
            · rw [List.mem_singleton.1 h]; exact HU.out
          · have h := HO4.out
            exact OwnI.of (n := q + 1) (by rw [List.map_append]; exact h)
          · exact below_ownB HBA.out HBA.out.size HG4.out (own_base HOA.out)
        case measure => simp [intOf]; omega
      · have HU := Lib.hid (show I64 (z) from HZI.out)
        have HOA := Lib.hid (show (wr.alloc (.cells #[.int .i64 z] 2)).ownsRow w.heap.size 2 1 (.slice ao q cap) q (xs.map (.int .i64)) from World.ownsRow.alloc HO.out _)
        have HLT := Lib.hid (show RdS (wr.alloc (.cells #[.int .i64 z] 2)) 1 (.slice (some ⟨wr.heap.size, 0, none⟩) 1 1) [[Value.int .i64 z]] from rdS_lit wr #[.int .i64 z] 2 1 rfl)
        have hba : Below w.heap.size w (wr.alloc (.cells #[.int .i64 z] 2)) := HBL.out.trans (below_alloc wr _ |>.mono HBL.out.size)
        have HBA := Lib.hid hba
        have hszB := hba.size
        have HONE := Lib.hid (show Ones 1 [[Value.int .i64 z]] from fun t ht => by rw [List.mem_singleton.1 ht]; exact ⟨rfl, fun u hu => by rw [List.mem_singleton.1 hu]; rfl⟩)
        clear hba
        go_wp2_with (at_builtin; go_must (refine wpList_append_k elmI64 rfl _ _ rfl w.heap.size _ _ _ rfl HOA.out _ [[Value.int .i64 z]] rfl HLT.out HONE.out (by simp; omega) hszB (q + 1) rfl ?_); intro ao4 cap4 w4 hown4 hgrow4 hnew4; have HO4 := Lib.hid hown4; have HG4 := Lib.hid hgrow4; clear hown4 hgrow4 hnew4)
        go_roundw
        case rel =>
          refine ⟨q + 1, xs ++ [z], by omega, by omega, by go_num, by rw [List.length_append, HXL.out]; rfl, fun y hy => ?_, ?_, ?_⟩
          · rcases List.mem_append.1 hy with h | h
            · exact HXI.out y h
            · rw [List.mem_singleton.1 h]; exact HU.out
          · have h := HO4.out
            exact OwnI.of (n := q + 1) (by rw [List.map_append]; exact h)
          · exact below_ownB HBA.out HBA.out.size HG4.out (own_base HOA.out)
        case measure => simp [intOf]; omega
      · have HU := Lib.hid (show I64 (z) from HZI.out)
        have HOA := Lib.hid (show (wr.alloc (.cells #[.int .i64 z] 2)).ownsRow w.heap.size 2 1 (.slice ao q cap) q (xs.map (.int .i64)) from World.ownsRow.alloc HO.out _)
        have HLT := Lib.hid (show RdS (wr.alloc (.cells #[.int .i64 z] 2)) 1 (.slice (some ⟨wr.heap.size, 0, none⟩) 1 1) [[Value.int .i64 z]] from rdS_lit wr #[.int .i64 z] 2 1 rfl)
        have hba : Below w.heap.size w (wr.alloc (.cells #[.int .i64 z] 2)) := HBL.out.trans (below_alloc wr _ |>.mono HBL.out.size)
        have HBA := Lib.hid hba
        have hszB := hba.size
        have HONE := Lib.hid (show Ones 1 [[Value.int .i64 z]] from fun t ht => by rw [List.mem_singleton.1 ht]; exact ⟨rfl, fun u hu => by rw [List.mem_singleton.1 hu]; rfl⟩)
        clear hba
        go_wp2_with (at_builtin; go_must (refine wpList_append_k elmI64 rfl _ _ rfl w.heap.size _ _ _ rfl HOA.out _ [[Value.int .i64 z]] rfl HLT.out HONE.out (by simp; omega) hszB (q + 1) rfl ?_); intro ao4 cap4 w4 hown4 hgrow4 hnew4; have HO4 := Lib.hid hown4; have HG4 := Lib.hid hgrow4; clear hown4 hgrow4 hnew4)
        go_roundw
        case rel =>
          refine ⟨q + 1, xs ++ [z], by omega, by omega, by go_num, by rw [List.length_append, HXL.out]; rfl, fun y hy => ?_, ?_, ?_⟩
          · rcases List.mem_append.1 hy with h | h
            · exact HXI.out y h
            · rw [List.mem_singleton.1 h]; exact HU.out
          · have h := HO4.out
            exact OwnI.of (n := q + 1) (by rw [List.map_append]; exact h)
          · exact below_ownB HBA.out HBA.out.size HG4.out (own_base HOA.out)
        case measure => simp [intOf]; omega
    · rcases (by omega : (q < len0 ∧ q = 60) ∨ ¬ q < len0) with ⟨c1, c2⟩ | c1
      · have hl1i : (q : Int) < (len0 : Int) := by omega
        have hl2i : ¬ (q : Int) < 60 := by omega
        clear hlt c2
        go_wp2_with fail
        go_ret
        exact ⟨_, rfl, xs, OwnI.of HO.out, by rw [HXL.out]; exact hq4, HXI.out, HBL.out⟩
      · have hl1i : ¬ (q : Int) < (len0 : Int) := by omega
        clear hlt
        go_wp2_with fail
        go_ret
        exact ⟨_, rfl, xs, OwnI.of HO.out, by rw [HXL.out]; exact hq4, HXI.out, HBL.out⟩

end Go.Proofs.Yteloepccjoikdaa
