import Derived.Test.YtmpgnjhgegbdkaaGreatIcole
import Derived.Test.YtmpgnjhgegbdkaaGreatPack
set_option linter.unusedVariables false
set_option linter.unusedSimpArgs false
set_option maxRecDepth 100000
set_option maxHeartbeats 8000000
open Go.Lib (hid)
namespace Go.Proofs.YtmpgnjhgegbdkaaGreat
open Go.RowKit
open _root_.List renaming length_map -> Qa, length_cons -> Qc, getElem?_eq_getElem -> Qd, take_of_length_le -> Qh, length_take -> Qi, take_add_one -> Qj, mem_of_getElem? -> Qk, mem_singleton -> Ql, length_eq_zero_iff -> Qm, getElem?_map -> Qn, getD_eq_getElem?_getD -> Qo, replicate -> Qp, map_set -> Qq, mem_append -> Qt, foldl_append -> Qu, length_replicate -> Qv, map_replicate -> Qw, nil_append -> Qy, map_append -> Qz, mem_cons_self -> Ja, mem_cons_of_mem -> Jb, take_length -> Jd, getElem?_set -> Jf
open _root_.Nat renaming le_refl -> Qb, add_zero -> Qe, mul_one -> Qg, zero_le -> Qx, eq_zero_or_pos -> Jc, add_assoc -> Je
open Go.RowKit.Below renaming refl -> Qf
open _root_.Int renaming toNat_natCast -> Qr
open Go.IntWalk renaming i64_in -> Qs
open Go renaming heap_setCell_same -> Jg
theorem zFx (f : Int -> Int -> Int) (l : List Int) (a : Int) (q : Nat) (h : q < l.length) : (l.take (q + 1)).foldl f a = f ((l.take q).foldl f a) (l.getD q 0) := by
 rw [zG4 h, Qu]
 rfl
theorem zFy (f : Nat -> Nat -> Nat) (l : List Nat) (a : Nat) (q : Nat) (h : q < l.length) : (l.take (q + 1)).foldl f a = f ((l.take q).foldl f a) (l.getD q 0) := by
 rw [List.take_succ_eq_append_getElem h, Qu, Qo, Qd h]
 rfl
theorem zMo (a b : Nat) : ((min a b : Nat) : Int) = min (a : Int) (b : Int) := by omega
theorem zMp (a b : Nat) : ((max a b : Nat) : Int) = max (a : Int) (b : Int) := by omega
theorem zQv (l : List Int) (lv : Value) (w : World) (hp : 0 < l.length) (hl : l.length <= 100000) (hr : Rd w lv (l.map (Value.int .i64))) :
  Calls Tryz.prog 158 #[lv] w fun e w' => e = .returned (.int .i64 (loT l)) ∧ w = w' := by
 obtain ⟨ao, cap, rfl⟩ := zAh hr
 obtain ⟨n, hn⟩ : ∃ n, n = l.length := ⟨_, rfl⟩
 rw [Qa, <- hn] at hr ⊢
 rw [<- hn] at hl hp
 have HN := hid hn
 have hc := (zAu hr).2
 obtain ⟨b, off, rfl, hcell⟩ := hc hp
 have hx0 := hcell 0 hp
 rw [Qe] at hx0
 have HC := hid hcell
 have hn1 : ¬ (n : Int) < 1 := by omega
 have hn0 : (0 : Int) < (n : Int) := by omega
 obtain ⟨a, r, hlr⟩ : ∃ a r, l = a :: r := by
  cases l with
  | nil => simp at hn; omega
  | cons a r => exact ⟨a, r, rfl⟩
 have ha : l.getD 0 0 = a := by rw [hlr]; rfl
 rw [ha] at hx0
 have HLR := hid hlr
 clear hr hn hc hcell hlr ha
 go_enter Tryz.func158, Tryz.ntmps158
 go_wp2_with fail
 go_loopw [3, 4] (fun m i wr => ∃ q : Nat, 1 <= q ∧ q <= n ∧ i = .int .i64 (q : Int) ∧ m = .int .i64 ((r.take (q - 1)).foldl min a) ∧ w = wr) (fun _ i _ => n - (intOf i).toNat)
 case atStart => exact ⟨1, Qb _, hp, rfl, rfl, rfl⟩
 case round =>
  obtain ⟨q, hq1, hq, rfl, rfl, rfl⟩ := hrel
  by_cases hlt : q < n
  ·have hlti : (q : Int) < (n : Int) := by omega
   have hq0 : (0 : Int) <= (q : Int) := by omega
   have hx := HC.out q hlt
   have hrl : q - 1 < r.length := by have h1 := HN.out; rw [HLR.out, Qc] at h1; omega
   have hst := zFx min r a (q - 1) hrl
   have hg : l.getD q 0 = r.getD (q - 1) 0 := by
    rw [HLR.out]
    obtain ⟨k, rfl⟩ : ∃ k, q = k + 1 := ⟨q - 1, by omega⟩
    simp
   rw [hg] at hx
   rw [show q - 1 + 1 = q by omega] at hst
   obtain ⟨M, hM⟩ : ∃ M, M = (r.take (q - 1)).foldl min a := ⟨_, rfl⟩
   obtain ⟨z, hz⟩ : ∃ z, z = r.getD (q - 1) 0 := ⟨_, rfl⟩
   rw [<- hM, <- hz] at hst
   rw [<- hz] at hx
   rw [<- hM]
   have HS := hid hst
   clear hst hg hM hz
   go_wp2_with fail
   go_roundw
   case rel => exact ⟨q + 1, by omega, by omega, by go_num, by rw [show q + 1 - 1 = q by omega, HS.out], trivial⟩
   case measure => simp [intOf]; omega
  ·have hqn : q = n := by omega
   subst hqn
   have hlti : ¬ (q : Int) < (q : Int) := by omega
   have HE := hid (show (loT l) = ((r.take (q - 1)).foldl min a) from by
    rw [HLR.out]
    have h1 := HN.out
    rw [HLR.out, Qc] at h1
    rw [Qh (by omega)]
    rfl)
   go_wp2_with fail
   go_ret
   exact ⟨by rw [HE.out]; rfl, rfl⟩
theorem zQw (l : List Int) (lv : Value) (w : World) (hp : 0 < l.length) (hl : l.length <= 100000) (hr : Rd w lv (l.map (Value.int .i64))) :
  Calls Tryz.prog 160 #[lv] w fun e w' => e = .returned (.int .i64 (hiT l)) ∧ w = w' := by
 obtain ⟨ao, cap, rfl⟩ := zAh hr
 obtain ⟨n, hn⟩ : ∃ n, n = l.length := ⟨_, rfl⟩
 rw [Qa, <- hn] at hr ⊢
 rw [<- hn] at hl hp
 have HN := hid hn
 have hc := (zAu hr).2
 obtain ⟨b, off, rfl, hcell⟩ := hc hp
 have hx0 := hcell 0 hp
 rw [Qe] at hx0
 have HC := hid hcell
 have hn1 : ¬ (n : Int) < 1 := by omega
 have hn0 : (0 : Int) < (n : Int) := by omega
 obtain ⟨a, r, hlr⟩ : ∃ a r, l = a :: r := by
  cases l with
  | nil => simp at hn; omega
  | cons a r => exact ⟨a, r, rfl⟩
 have ha : l.getD 0 0 = a := by rw [hlr]; rfl
 rw [ha] at hx0
 have HLR := hid hlr
 clear hr hn hc hcell hlr ha
 go_enter Tryz.func160, Tryz.ntmps160
 go_wp2_with fail
 go_loopw [3, 4] (fun m i wr => ∃ q : Nat, 1 <= q ∧ q <= n ∧ i = .int .i64 (q : Int) ∧ m = .int .i64 ((r.take (q - 1)).foldl max a) ∧ w = wr) (fun _ i _ => n - (intOf i).toNat)
 case atStart => exact ⟨1, Qb _, hp, rfl, rfl, rfl⟩
 case round =>
  obtain ⟨q, hq1, hq, rfl, rfl, rfl⟩ := hrel
  by_cases hlt : q < n
  ·have hlti : (q : Int) < (n : Int) := by omega
   have hq0 : (0 : Int) <= (q : Int) := by omega
   have hx := HC.out q hlt
   have hrl : q - 1 < r.length := by have h1 := HN.out; rw [HLR.out, Qc] at h1; omega
   have hst := zFx max r a (q - 1) hrl
   have hg : l.getD q 0 = r.getD (q - 1) 0 := by
    rw [HLR.out]
    obtain ⟨k, rfl⟩ : ∃ k, q = k + 1 := ⟨q - 1, by omega⟩
    simp
   rw [hg] at hx
   rw [show q - 1 + 1 = q by omega] at hst
   obtain ⟨M, hM⟩ : ∃ M, M = (r.take (q - 1)).foldl max a := ⟨_, rfl⟩
   obtain ⟨z, hz⟩ : ∃ z, z = r.getD (q - 1) 0 := ⟨_, rfl⟩
   rw [<- hM, <- hz] at hst
   rw [<- hz] at hx
   rw [<- hM]
   have HS := hid hst
   clear hst hg hM hz
   go_wp2_with fail
   go_roundw
   case rel => exact ⟨q + 1, by omega, by omega, by go_num, by rw [show q + 1 - 1 = q by omega, HS.out], trivial⟩
   case measure => simp [intOf]; omega
  ·have hqn : q = n := by omega
   subst hqn
   have hlti : ¬ (q : Int) < (q : Int) := by omega
   have HE := hid (show (hiT l) = ((r.take (q - 1)).foldl max a) from by
    rw [HLR.out]
    have h1 := HN.out
    rw [HLR.out, Qc] at h1
    rw [Qh (by omega)]
    rfl)
   go_wp2_with fail
   go_ret
   exact ⟨by rw [HE.out]; rfl, rfl⟩
theorem zQx (l : List Nat) (lv : Value) (w : World) (hp : 0 < l.length) (hl : l.length <= 100000) (hr : Rd w lv (l.map u64v)) :
  Calls Tryz.prog 180 #[lv] w fun e w' => e = .returned (.int .u64 ((loN l : Nat) : Int)) ∧ w = w' := by
 obtain ⟨ao, cap, rfl⟩ := zAh hr
 obtain ⟨n, hn⟩ : ∃ n, n = l.length := ⟨_, rfl⟩
 rw [Qa, <- hn] at hr ⊢
 rw [<- hn] at hl hp
 have HN := hid hn
 have hc := (zBq hr).2
 obtain ⟨b, off, rfl, hcell⟩ := hc hp
 have hx0 := hcell 0 hp
 rw [Qe] at hx0
 have HC := hid hcell
 have hn1 : ¬ (n : Int) < 1 := by omega
 have hn0 : (0 : Int) < (n : Int) := by omega
 obtain ⟨a, r, hlr⟩ : ∃ a r, l = a :: r := by
  cases l with
  | nil => simp at hn; omega
  | cons a r => exact ⟨a, r, rfl⟩
 have ha : l.getD 0 0 = a := by rw [hlr]; rfl
 rw [ha] at hx0
 have HLR := hid hlr
 clear hr hn hc hcell hlr ha
 go_enter Tryz.func180, Tryz.ntmps180
 go_wp2_with fail
 go_loopw [3, 4] (fun m i wr => ∃ q : Nat, 1 <= q ∧ q <= n ∧ i = .int .i64 (q : Int) ∧ m = .int .u64 (((r.take (q - 1)).foldl min a : Nat) : Int) ∧ w = wr) (fun _ i _ => n - (intOf i).toNat)
 case atStart => exact ⟨1, Qb _, hp, rfl, rfl, rfl⟩
 case round =>
  obtain ⟨q, hq1, hq, rfl, rfl, rfl⟩ := hrel
  by_cases hlt : q < n
  ·have hlti : (q : Int) < (n : Int) := by omega
   have hq0 : (0 : Int) <= (q : Int) := by omega
   have hx := HC.out q hlt
   have hrl : q - 1 < r.length := by have h1 := HN.out; rw [HLR.out, Qc] at h1; omega
   have hst := zFy min r a (q - 1) hrl
   have hg : l.getD q 0 = r.getD (q - 1) 0 := by
    rw [HLR.out]
    obtain ⟨k, rfl⟩ : ∃ k, q = k + 1 := ⟨q - 1, by omega⟩
    simp
   rw [hg] at hx
   rw [show q - 1 + 1 = q by omega] at hst
   obtain ⟨M, hM⟩ : ∃ M, M = (r.take (q - 1)).foldl min a := ⟨_, rfl⟩
   obtain ⟨z, hz⟩ : ∃ z, z = r.getD (q - 1) 0 := ⟨_, rfl⟩
   rw [<- hM, <- hz] at hst
   rw [<- hz] at hx
   rw [<- hM]
   have HS := hid hst
   clear hst hg hM hz
   go_wp2_with fail
   go_roundw
   case rel => exact ⟨q + 1, by omega, by omega, by go_num, by rw [show q + 1 - 1 = q by omega, HS.out, zMo], trivial⟩
   case measure => simp [intOf]; omega
  ·have hqn : q = n := by omega
   subst hqn
   have hlti : ¬ (q : Int) < (q : Int) := by omega
   have HE := hid (show ((loN l : Nat) : Int) = (((r.take (q - 1)).foldl min a : Nat) : Int) from by
    rw [HLR.out]
    have h1 := HN.out
    rw [HLR.out, Qc] at h1
    rw [Qh (by omega)]
    rfl)
   go_wp2_with fail
   go_ret
   exact ⟨by rw [HE.out]; rfl, rfl⟩
theorem zQy (l : List Nat) (lv : Value) (w : World) (hp : 0 < l.length) (hl : l.length <= 100000) (hr : Rd w lv (l.map u64v)) :
  Calls Tryz.prog 181 #[lv] w fun e w' => e = .returned (.int .u64 ((hiN l : Nat) : Int)) ∧ w = w' := by
 obtain ⟨ao, cap, rfl⟩ := zAh hr
 obtain ⟨n, hn⟩ : ∃ n, n = l.length := ⟨_, rfl⟩
 rw [Qa, <- hn] at hr ⊢
 rw [<- hn] at hl hp
 have HN := hid hn
 have hc := (zBq hr).2
 obtain ⟨b, off, rfl, hcell⟩ := hc hp
 have hx0 := hcell 0 hp
 rw [Qe] at hx0
 have HC := hid hcell
 have hn1 : ¬ (n : Int) < 1 := by omega
 have hn0 : (0 : Int) < (n : Int) := by omega
 obtain ⟨a, r, hlr⟩ : ∃ a r, l = a :: r := by
  cases l with
  | nil => simp at hn; omega
  | cons a r => exact ⟨a, r, rfl⟩
 have ha : l.getD 0 0 = a := by rw [hlr]; rfl
 rw [ha] at hx0
 have HLR := hid hlr
 clear hr hn hc hcell hlr ha
 go_enter Tryz.func181, Tryz.ntmps181
 go_wp2_with fail
 go_loopw [3, 4] (fun m i wr => ∃ q : Nat, 1 <= q ∧ q <= n ∧ i = .int .i64 (q : Int) ∧ m = .int .u64 (((r.take (q - 1)).foldl max a : Nat) : Int) ∧ w = wr) (fun _ i _ => n - (intOf i).toNat)
 case atStart => exact ⟨1, Qb _, hp, rfl, rfl, rfl⟩
 case round =>
  obtain ⟨q, hq1, hq, rfl, rfl, rfl⟩ := hrel
  by_cases hlt : q < n
  ·have hlti : (q : Int) < (n : Int) := by omega
   have hq0 : (0 : Int) <= (q : Int) := by omega
   have hx := HC.out q hlt
   have hrl : q - 1 < r.length := by have h1 := HN.out; rw [HLR.out, Qc] at h1; omega
   have hst := zFy max r a (q - 1) hrl
   have hg : l.getD q 0 = r.getD (q - 1) 0 := by
    rw [HLR.out]
    obtain ⟨k, rfl⟩ : ∃ k, q = k + 1 := ⟨q - 1, by omega⟩
    simp
   rw [hg] at hx
   rw [show q - 1 + 1 = q by omega] at hst
   obtain ⟨M, hM⟩ : ∃ M, M = (r.take (q - 1)).foldl max a := ⟨_, rfl⟩
   obtain ⟨z, hz⟩ : ∃ z, z = r.getD (q - 1) 0 := ⟨_, rfl⟩
   rw [<- hM, <- hz] at hst
   rw [<- hz] at hx
   rw [<- hM]
   have HS := hid hst
   clear hst hg hM hz
   go_wp2_with fail
   go_roundw
   case rel => exact ⟨q + 1, by omega, by omega, by go_num, by rw [show q + 1 - 1 = q by omega, HS.out, zMp], trivial⟩
   case measure => simp [intOf]; omega
  ·have hqn : q = n := by omega
   subst hqn
   have hlti : ¬ (q : Int) < (q : Int) := by omega
   have HE := hid (show ((hiN l : Nat) : Int) = (((r.take (q - 1)).foldl max a : Nat) : Int) from by
    rw [HLR.out]
    have h1 := HN.out
    rw [HLR.out, Qc] at h1
    rw [Qh (by omega)]
    rfl)
   go_wp2_with fail
   go_ret
   exact ⟨by rw [HE.out]; rfl, rfl⟩
def fillT {α β : Type} (f : α -> β) (l : List α) (z : β) (c q : Nat) : List β := (l.take q).map f ++ Qp (c - q) z
theorem zE9 {α β : Type} (f : α -> β) {l : List α} (z : β) {c q : Nat} (hc : l.length = c) (hq : q <= c) : (fillT f l z c q).length = c := by
 unfold fillT
 rw [List.length_append, Qa, Qi, Qv]
 omega
theorem zEe {α β : Type} (f : α -> β) {l : List α} (z : β) {c q : Nat} {x : α} (hc : l.length = c) (hq : q < c) (hp : l[q]? = some x) : fillT f l z c (q + 1) = (fillT f l z c q).set q (f x) := by
 unfold fillT
 rw [Qj, hp, List.set_append, Qa, Qi, if_neg (by omega), show q - min q l.length = 0 by omega, show c - q = (c - (q + 1)) + 1 by omega, List.replicate_succ, List.set_cons_zero]
 simp
theorem zFa {α β : Type} (f : α -> β) {l : List α} (z : β) {c : Nat} (hc : l.length = c) : fillT f l z c c = l.map f := by
 unfold fillT
 rw [Nat.sub_self, List.replicate_zero, List.append_nil, Qh (by omega)]
theorem zEf {α β : Type} (f : α -> β) (l : List α) (z : β) (c : Nat) : fillT f l z c 0 = Qp c z := by
 unfold fillT
 simp
theorem usub (a b : Int) (h1 : I64 a) (h2 : I64 b) (h : b <= a) : IntKind.u64.wrap (IntKind.u64.wrap a - IntKind.u64.wrap b) = (((a - b).toNat : Nat) : Int) := by
 unfold I64 at h1 h2
 simp only [IntKind.wrap_u64]
 omega
theorem zPo (l : List Int) (lv : Value) (w : World) (hI : ∀ n ∈ l, I64 n) (hl : l.length <= 65535) (hr : Rd w lv (l.map (.int .i64))) :
  Calls Tryz.prog 127 #[lv] w fun e w' => ∃ v, e = .returned v ∧ OwnB w.heap.size w' v (frameT l) ∧ Below w.heap.size w w' := by
 obtain ⟨ao, cap, rfl⟩ := zAh hr
 obtain ⟨n, hn⟩ : ∃ n, n = l.length := ⟨_, rfl⟩
 rw [Qa, <- hn] at hr ⊢
 have HR := hid hr
 have HN := hid hn
 have HI := hid hI
 rw [<- hn] at hl
 clear hr hn hI
 by_cases h0 : n = 0
 ·have HE := hid (show frameT l = [] by unfold frameT; rw [if_pos (by rw [<- HN.out]; exact h0)])
  subst h0
  go_enter Tryz.func127, Tryz.ntmps127
  go_wp2_with fail
  go_ret
  refine ⟨_, rfl, ?_, Qf _ _⟩
  rw [HE.out]
  exact zA6 _ _
 ·have hnp : 0 < n := by omega
  have hnb : ((n : Int) == 0) = false := by rw [beq_eq_false_iff_ne]; omega
  have hnb2 : ¬ ((n : Int) = 0) := by omega
  have hlp : 0 < l.length := by rw [<- HN.out]; exact hnp
  obtain ⟨g1, g2, g3⟩ := zKj hlp
  have HLH := hid g1
  have hIlo := HI.out _ g2
  have hIhi := HI.out _ g3
  have hlh := (g1 _ g3).1
  have HMI := hid (zQv l (.slice ao n cap) w hlp (by rw [<- HN.out]; omega) HR.out)
  have HMA := hid (zQw l (.slice ao n cap) w hlp (by rw [<- HN.out]; omega) HR.out)
  have hus := usub (hiT l) (loT l) hIhi hIlo hlh
  have hdl : ((hiT l - loT l).toNat) < 18446744073709551616 := by unfold I64 at hIlo hIhi; omega
  have hw64 := (bitLen_le _ hdl).1
  have HFT := hid (show frameT l = putT (loT l) ++ [widT l] ++ packB (widT l) (diffT l) by unfold frameT; rw [if_neg (by omega)])
  have HLEND := hid (show (diffT l).length = n by rw [diffT, Qa, HN.out])
  have HD64 := hid (show ∀ i, (diffT l).getD i 0 < 18446744073709551616 from fun i => by
   rw [Qo]
   cases hq : (diffT l)[i]? with
   | none => decide
   | some x =>
    obtain ⟨m, hm, rfl⟩ := List.mem_map.1 (Qk hq)
    have h1 := HLH.out m hm
    show (m - loT l).toNat < _
    omega)
  obtain ⟨lo, hlo⟩ : ∃ lo, lo = loT l := ⟨_, rfl⟩
  obtain ⟨hi, hhi⟩ : ∃ hi, hi = hiT l := ⟨_, rfl⟩
  obtain ⟨D, hD⟩ : ∃ D, D = (hiT l - loT l).toNat := ⟨_, rfl⟩
  obtain ⟨wd, hwd⟩ : ∃ wd, wd = widT l := ⟨_, rfl⟩
  have hwd2 : Lib.bitLen D = wd := by rw [hwd, hD]; rfl
  rw [<- hD] at hdl hw64 hus
  rw [hwd2] at hw64
  rw [<- hlo, <- hhi] at hus
  rw [<- hlo] at hIlo HMI HLH
  rw [<- hhi] at HMA HLH
  rw [<- hlo, <- hwd] at HFT
  have HWI := hid (show Calls Tryz.prog 159 #[.int .u64 (D : Int)] w fun e w' => e = .returned (.int .i64 (wd : Nat)) ∧ w = w' from by rw [<- hwd2]; exact zGu D w hdl)
  have HDT := hid (show diffT l = l.map fun m => (m - lo).toNat by rw [diffT, hlo])
  have HUS := hid (show ∀ m ∈ l, IntKind.u64.wrap (IntKind.u64.wrap m - IntKind.u64.wrap lo) = (((m - lo).toNat : Nat) : Int) from fun m hm => usub m lo (HI.out m hm) hIlo (HLH.out m hm).1)
  clear g1 g2 g3 hIhi hlh hlo hhi hD hwd hwd2 HLH hlp
  go_enter Tryz.func127, Tryz.ntmps127
  go_wp2_with fail
  refine HMI.out.mono ?_
  rintro e w1 ⟨rfl, rfl⟩
  go_wp2_with fail
  refine HMA.out.mono ?_
  rintro e w1 ⟨rfl, rfl⟩
  go_wp2_with fail
  refine HWI.out.mono ?_
  rintro e w1 ⟨rfl, rfl⟩
  obtain ⟨ei, he1, he2, he3, he4⟩ := info_parts zH6
  obtain ⟨W8, hmk, hown8, hg8⟩ := run_make_full (P := Tryz.prog) w w.heap.size 159 105 ei (.int .u64 0) 1 Tryz.underlying159 he1 he2 he3 .i64 .i64 n (by rw [he4]; omega) (by unfold maxLen; omega) (Qb _)
  obtain ⟨G, hG⟩ : ∃ G, G = w.heap.size := ⟨_, rfl⟩
  rw [<- hG] at hmk hown8
  have HO8 := hid (show W8.ownsRow G 105 1 (.slice (some ⟨G, 0, none⟩) n n) n ((fillT (fun m => (m - lo).toNat) l 0 n 0).map u64v) from by
   rw [show (Value.int .u64 0).cells = #[Value.int .u64 0] from rfl, Qg, toList_madeCells_one] at hown8
   rw [zEf, Qw]
   exact hown8)
  have HB8 := hid (show Below w.heap.size w W8 from ⟨hg8.os, hg8.tape, hg8.output, hg8.size, fun i hi => hg8.block i hi (by simp)⟩)
  have HGG := hid hG
  clear hown8 hg8 he1 he2 he3 he4 hG HMI HMA HWI
  go_upto_region 6 with (fail)
  clear hmk
  go_wp2_with fail
  go_loopw [26] (fun i wr => ∃ q : Nat, q <= n ∧ i = .int .i64 (q : Int) ∧ wr.ownsRow G 105 1 (.slice (some ⟨G, 0, none⟩) n n) n ((fillT (fun m => (m - lo).toNat) l 0 n q).map u64v) ∧ Below w.heap.size w wr) (fun i _ => n - (intOf i).toNat)
  case atStart => exact ⟨0, Qx _, rfl, HO8.out, HB8.out⟩
  case round =>
   obtain ⟨q, hq, rfl, hown, hbel⟩ := hrel
   have HO := hid hown
   have HBL := hid hbel
   clear hown hbel
   by_cases hlt : q < n
   ·have hlti : (q : Int) < (n : Int) := by omega
    have hq0 : (0 : Int) <= (q : Int) := by omega
    have hcp := (zAu (HR.out.kept HBL.out)).2
    obtain ⟨b, off, rfl, hcell⟩ := hcp (by omega)
    have hx := hcell q hlt
    obtain ⟨p, hp⟩ : ∃ p, p = l.getD q 0 := ⟨_, rfl⟩
    rw [<- hp] at hx
    have hat : l[q]? = some p := by rw [hp]; exact getD_at (by rw [<- HN.out]; exact hlt)
    have HD := hid (zEe (fun m => (m - lo).toNat) 0 HN.out.symm hlt hat)
    have hup := HUS.out p (Qk hat)
    obtain ⟨t, ht⟩ : ∃ t : Nat, t = (p - lo).toNat := ⟨_, rfl⟩
    rw [<- ht] at hup
    have HTT := hid ht
    have hcG2 : ∃ u, wr.cell? ⟨G, q, none⟩ = some u := by
     rw [HO.out.cellAt q (by omega)]
     exact ⟨_, Qd (by rw [Qa, zE9 _ _ HN.out.symm hq]; exact hlt)⟩
    obtain ⟨uG, hcG3⟩ := hcG2
    have hfG := HO.out.frozenAt q
    have hst := HO.out.stored q (.int .u64 (t : Int))
    have HST := hid hst
    clear hcp hcell hp hat hst ht
    go_wp2_with fail
    go_roundw
    case rel =>
     refine ⟨q + 1, by omega, by go_num, ?_, ?_⟩
     ·rw [HD.out, <- HTT.out, Qq]
      have h := HST.out.1
      exact h
     ·exact HBL.out.setCell (p := ⟨G, q, none⟩) (by show _ <= G; rw [HGG.out]; exact Qb _) _
    case measure => simp [intOf]; omega
   ·have hqn : q = n := by omega
    subst hqn
    have hlti : ¬ (q : Int) < (q : Int) := by omega
    have HUR := hid (show Rd wr (.slice (some ⟨G, 0, none⟩) q q) ((diffT l).map u64v) from by
     have h := Rd.of_owns HO.out
     rw [zFa _ _ HN.out.symm, <- HDT.out] at h
     exact h)
    have HPU := hid (zH8 w.heap.size (.slice none 0 0) [] lo wr hIlo (zA6 _ _) HBL.out.size (by simp))
    have hw8 : IntKind.u8.wrap (wd : Int) = (wd : Int) := IntWalk.u8_in _ (by omega)
    go_wp2_with fail
    refine HPU.out.mono ?_
    rintro e w3 ⟨v3, rfl, hown3, hg3, hn3⟩
    rw [Qy] at hown3
    have hb3 : Below wr.heap.size wr w3 := ⟨hg3.os, hg3.tape, hg3.output, hg3.size, fun i hi => hg3.block i hi (by simp [Value.ownBlock])⟩
    have HB3 := hid (HBL.out.trans (hb3.mono HBL.out.size))
    have HUR3 := hid (HUR.out.kept hb3)
    have HGS := hid (show G < wr.heap.size from zDj HO.out G rfl)
    obtain ⟨ao3, cap3, rfl⟩ := hown3.shape
    obtain ⟨k3, hk3⟩ : ∃ k3, k3 = (putT lo).length := ⟨_, rfl⟩
    have hk3l : k3 <= 10 := by rw [hk3]; exact (zBy lo).1
    have hown3' : w3.ownsRow w.heap.size 5 1 (.slice ao3 k3 cap3) k3 ((putT lo).map u8v) := by rw [hk3]; exact hown3
    rw [<- hk3]
    have HN3 := hid (show ∀ g, (Value.slice ao3 k3 cap3).ownBlock = some g -> wr.heap.size <= g from fun g hg => by
     rcases hn3 g (by rw [<- hk3]; exact hg) with h | h
     ·simp [Value.ownBlock] at h
     ·exact h)
    have HOA := hid (World.ownsRow.alloc hown3' (.cells #[.int .u8 (wd : Int)] 5))
    have HO3 := hid hown3'
    have HLT := hid (zBa w3 #[.int .u8 (wd : Int)] 5 1 rfl)
    have hszB : w.heap.size <= (w3.alloc (.cells #[.int .u8 (wd : Int)] 5)).heap.size := zA7 HB3.out.size _
    have HONE := hid (show Ones 1 [[Value.int .u8 (wd : Int)]] from fun t ht => by rw [Ql.1 ht]; exact ⟨rfl, fun u hu => by rw [Ql.1 hu]; rfl⟩)
    clear hown3 hown3' hg3 hn3 hk3 hb3 HO HPU HUR
    go_wp2_with (at_builtin; go_must (refine zAf zBf rfl _ _ rfl w.heap.size _ _ _ rfl HOA.out _ [[Value.int .u8 (wd : Int)]] rfl HLT.out HONE.out (by simp; omega) hszB (k3 + 1) rfl ?_); intro ao9 cap9 w9 hown9 hgrow9 hnew9; have HO9 := hid hown9; have HG9 := hid hgrow9; have HN9 := hid hnew9; clear hown9 hgrow9 hnew9)
    have hg39 : w3.grownBy w9 (Value.slice ao3 k3 cap3).ownBlock := zAc (zBz (World.grownBy_alloc w3 _ none)) HG9.out
    have HB9 := hid (zAk HB3.out HB3.out.size hg39 (zAg HO3.out))
    have HUR9 := hid (zPk (B := 0) HUR3.out (fun b off n c hv hp e => by
     simp only [Value.slice.injEq, Option.some.injEq, Addr.mk.injEq] at hv
     have h1 := HN3.out b e.symm
     have h2 := HGS.out
     omega) hg39)
    have HPA := hid (zF7 (wd : Int) (some ⟨G, 0, none⟩) q q (diffT l) w9 HUR9.out HD64.out (by omega))
    have hhe : heldN (wd : Int) = wd := zF4 wd hw64
    rw [hhe] at HPA
    have hpkl := zAy wd (diffT l)
    have hpk2 : wd * (diffT l).length <= 64 * 65535 := Nat.mul_le_mul hw64 (by rw [HLEND.out]; exact hl)
    obtain ⟨kp, hkp⟩ : ∃ kp, kp = (packB wd (diffT l)).length := ⟨_, rfl⟩
    have hkpl : kp <= 600000 := by rw [hkp, hpkl]; omega
    have HKP := hid hkp
    clear hg39 hhe hpkl hpk2 hkp HUR3 HB3 HOA HO3 HLT HONE
    go_wp2_with fail
    refine HPA.out.mono ?_
    rintro e w10 ⟨ao10, cap10, rfl, hown10, hb10⟩
    have HB10 := hid (HB9.out.trans (hb10.mono HB9.out.size))
    have HR10 := hid (zAs (show Rd w10 (.slice ao10 kp cap10) ((packB wd (diffT l)).map u8v) from by have := Rd.of_owns hown10; rw [Qa, <- HKP.out] at this; exact this))
    rw [Qa, <- HKP.out]
    have HO10 := hid (show w10.ownsRow w.heap.size 5 1 (.slice ao9 (k3 + 1) cap9) (k3 + 1) ((putT lo ++ [wd]).map u8v) from by
     have h := HO9.out.kept (zAb hb10 none) (by cases h : (Value.slice ao9 (k3 + 1) cap9).ownBlock with | none => exact .inl rfl | some g => exact .inr (by simp))
     rw [Qz]
     exact h)
    have HON := hid (zAr (zAq (packB wd (diffT l))))
    have hsz10 := HB10.out.size
    clear hown10 hb10 HPA HO9 HG9 HN9
    go_wp2_with (at_builtin; go_must (refine zAf zBf rfl _ _ rfl w.heap.size _ _ _ rfl HO10.out _ (((packB wd (diffT l)).map u8v).map fun u => [u]) rfl HR10.out HON.out (by simp; have := HKP.out; omega) hsz10 (k3 + 1 + kp) (by have := HKP.out; simp; omega) ?_); intro ao11 cap11 w11 hown11 hgrow11 hnew11; have HO11 := hid hown11; have HG11 := hid hgrow11; clear hown11 hgrow11 hnew11)
    go_ret
    refine ⟨_, rfl, ?_, zAk HB10.out hsz10 (show w10.grownBy w11 (Value.slice ao9 (k3 + 1) cap9).ownBlock from HG11.out) (zAg HO10.out)⟩
    rw [HFT.out]
    have h := HO11.out
    rw [zAp, <- Qz] at h
    exact OwnB.of h
def frU (lo : Int) (wd : Nat) (o : Option (List Nat)) : Option (List Int) := match o with
 | none => none
 | some us => if loN us ≠ 0 ∨ Lib.bitLen (hiN us) ≠ wd ∨ (9223372036854775807 - lo) < (hiN us : Int) then none else some (us.map fun u : Nat => lo + (u : Int))
def frL (count : Nat) (lo : Int) (ls : List Nat) : Option (List Int) := match ls with
 | [] => none
 | wd :: rest => frU lo wd (unpackB rest (wd : Nat) (count : Int))
theorem zIs (count : Nat) (left : List Nat) (bad : Bool) : rdFrame count left bad = if count = 0 then wholeT [] left bad else frL count (takeR left bad).1 (takeR left bad).2.1 := by
 unfold rdFrame
 split
 ·rfl
 ·cases (takeR left bad).2.1 with
  | nil => rfl
  | cons wd rest =>
   show _ = frU _ wd (unpackB rest (wd : Nat) (count : Int))
   simp only
   cases unpackB rest (wd : Nat) (count : Int) with
   | none => rfl
   | some us => rfl
def RelU (c : Nat) (o : Option (List Nat)) (a b : Value) (w : World) : Prop := match o with
 | some us => ∃ ao cap, a = .slice ao c cap ∧ b = .bool true ∧ Rd w (.slice ao c cap) (us.map u64v)
 | none => a = .slice none 0 0 ∧ b = .bool false
theorem uadd (lo : Int) (u : Nat) (h1 : I64 lo) (h : lo + (u : Int) <= 9223372036854775807) : IntKind.i64.wrap (IntKind.u64.wrap (IntKind.u64.wrap lo + (u : Int))) = lo + (u : Int) := by
 unfold I64 at h1
 simp only [IntKind.wrap_u64, IntKind.wrap_i64]
 omega
theorem utop (lo : Int) (h1 : I64 lo) : IntKind.u64.wrap (9223372036854775807 - IntKind.u64.wrap lo) = (((9223372036854775807 - lo).toNat : Nat) : Int) := by
 unfold I64 at h1
 simp only [IntKind.wrap_u64]
 omega
theorem zI8 {A : Nat} {w0 w : World} (h : Below A w0 w) : ∃ V : World, V = w := ⟨w, rfl⟩
theorem zN0 (r : Nat) (left : List Nat) (bad : Bool) (c : Nat) (w : World) (h : IsR w r left bad) (h256 : ∀ x ∈ left, x < 256) (hbig : left.length <= 1000000) (hc : c <= 65535) :
  Calls Tryz.prog 138 #[.pointer (some ⟨r, 0, none⟩), .int .i64 (c : Int)] w fun e w' => RetOpt w.heap.size (rdFrame c left bad) e w' ∧ w.grownBy w' (some r) := by
 have hrl := h.lt
 by_cases h0 : c = 0
 ·have HOK := hid (zDh r left bad w h)
  have HRE := hid (zCj r left bad w h (by omega))
  have HF := hid (show rdFrame c left bad = wholeT [] left bad by rw [zIs, if_pos h0])
  subst h0
  clear h h256
  go_enter Tryz.func138, Tryz.ntmps138
  go_wp2_with fail
  refine HOK.out.mono ?_
  rintro e w2 ⟨rfl, rfl⟩
  cases bad
  ·go_wp2_with fail
   refine HRE.out.mono ?_
   rintro e w3 ⟨ao, cap, rfl, hown3, hb3⟩
   have HB3 := hid (show w.grownBy w3 (some r) from zAb hb3 _)
   rw [Qa]
   clear hown3 hb3
   by_cases hl0 : left.length = 0
   ·have hl1 : left = [] := Qm.1 hl0
    subst hl1
    go_wp2_with fail
    go_ret2
    rw [HF.out]
    exact ⟨⟨_, rfl, zH7 _ _⟩, HB3.out⟩
   ·have hg : ((left.length : Int) == 0) = false := by rw [beq_eq_false_iff_ne]; omega
    have hg2 : ¬ ((left.length : Int) = 0) := by omega
    have HNO := hid (show wholeT [] left false = none from by
     unfold wholeT
     rw [if_neg]
     rintro ⟨_, h⟩
     exact hl0 (by rw [h]; rfl))
    go_wp2_with fail
    go_ret2
    rw [HF.out, HNO.out]
    exact ⟨rfl, HB3.out⟩
  ·go_wp2_with fail
   go_ret2
   rw [HF.out]
   exact ⟨rfl, World.grownBy.refl _ _⟩
 ·have hc0 : ((c : Int) == 0) = false := by rw [beq_eq_false_iff_ne]; omega
  have hc1 : ¬ ((c : Int) = 0) := by omega
  have HTK := hid (zPj r left bad w h h256 hbig)
  have hm3 := zB4 (bad := bad) h256
  have hbl3 := zB5 left bad
  have hIlo : I64 (takeR left bad).1 := zR4 (zDs left bad)
  obtain ⟨lo, hlo⟩ : ∃ lo, lo = (takeR left bad).1 := ⟨_, rfl⟩
  obtain ⟨left3, hleft3⟩ : ∃ left3, left3 = (takeR left bad).2.1 := ⟨_, rfl⟩
  obtain ⟨bad3, hbad3⟩ : ∃ bad3, bad3 = (takeR left bad).2.2 := ⟨_, rfl⟩
  obtain ⟨O, hO⟩ : ∃ O, O = rdFrame c left bad := ⟨_, rfl⟩
  have HO0 := hid (show O = frL c lo left3 by rw [hO, zIs, if_neg h0, <- hlo, <- hleft3])
  rw [<- hO]
  rw [<- hlo] at hIlo
  rw [<- hlo, <- hleft3, <- hbad3] at HTK
  rw [<- hleft3] at hm3 hbl3
  have HM3 := hid hm3
  have hus := utop lo hIlo
  obtain ⟨T, hT⟩ : ∃ T : Nat, T = (9223372036854775807 - lo).toNat := ⟨_, rfl⟩
  rw [<- hT] at hus
  have HT := hid hT
  have HI := hid hIlo
  clear h h256 hlo hleft3 hbad3 hO hm3 hT hIlo
  go_enter Tryz.func138, Tryz.ntmps138
  go_wp2_with fail
  refine HTK.out.mono ?_
  rintro e w2 ⟨rfl, hr2, hg2⟩
  have HRE := hid (zCj r left3 bad3 w2 hr2 (by omega))
  have HG2 := hid hg2
  clear hr2 hg2 HTK
  go_wp2_with fail
  refine HRE.out.mono ?_
  rintro e w3 ⟨ao, cap, rfl, hown3, hb3⟩
  have HG3 := hid (show w.grownBy w3 (some r) from zAc HG2.out (zAb hb3 _))
  have HR3 := hid (show Rd w3 (.slice ao left3.length cap) (left3.map u8v) from by have h := Rd.of_owns hown3; rw [Qa] at h; exact h)
  rw [Qa]
  clear hown3 hb3 HRE HG2
  cases left3 with
  | nil =>
   have HON := hid (show O = none from HO0.out)
   go_wp2_with fail
   go_ret2
   rw [HON.out]
   exact ⟨rfl, HG3.out⟩
  | cons wd rest =>
   obtain ⟨n, hn⟩ : ∃ n, n = (wd :: rest).length := ⟨_, rfl⟩
   have hrl2 : rest.length = n - 1 := by rw [hn, Qc]; omega
   have hn1 : 1 <= n := by rw [hn, Qc]; omega
   rw [<- hn] at HR3 hbl3 ⊢
   have hwd : wd < 256 := HM3.out wd Ja
   have HM4 := hid (show ∀ x ∈ rest, x < 256 from fun x hx => HM3.out x (Jb _ hx))
   have HRL := hid hrl2
   have HNN := hid hn
   have hnb : ((n : Int) == 0) = false := by rw [beq_eq_false_iff_ne]; omega
   have hnb2 : ¬ ((n : Int) = 0) := by omega
   have hnp : (0 : Int) < (n : Int) := by omega
   have hn1i : (1 : Int) <= (n : Int) := by omega
   obtain ⟨OU, hOU⟩ : ∃ OU, OU = unpackB rest (wd : Nat) (c : Int) := ⟨_, rfl⟩
   have HOU := hid hOU.symm
   have HO1 := hid (show O = frU lo wd OU by rw [HO0.out, hOU]; rfl)
   have hcp := (zA0 HR3.out).2 (by omega)
   obtain ⟨b, off, rfl, hcell⟩ := hcp
   have hx0 := hcell 0 (by omega)
   rw [Qe] at hx0
   have hx1 : w3.cell? ⟨b, off, none⟩ = some (.int .u8 (wd : Int)) := hx0
   have hcapn := zBr HR3.out
   have HUNP := hid fun (a2 : Option Addr) (cap2 : Nat) (hr2 : Rd w3 (.slice a2 (n - 1) cap2) (rest.map u8v)) => (show Calls Tryz.prog 135 #[.slice a2 (n - 1) cap2, .int .i64 (wd : Int), .int .i64 (c : Int)] w3 fun e w' => ∃ a b, e = .returned (.tuple #[a, b]) ∧ RelU c OU a b w' ∧ Below w3.heap.size w3 w' from by
    cases OU with
    | none =>
     refine (zE2 (wd : Int) (c : Int) a2 (n - 1) cap2 rest w3 hr2 (zDt HM4.out) (by omega) HOU.out).mono ?_
     rintro e w6 ⟨rfl, k6, rfl⟩
     exact ⟨_, _, rfl, ⟨rfl, rfl⟩, below_draws (Qf _ _) _⟩
    | some us =>
     obtain ⟨hpl, hp64⟩ := zDy HOU.out
     rw [Qr] at hpl
     refine (zEc (wd : Int) c a2 (n - 1) cap2 rest us w3 hr2 (zDt HM4.out) (by omega) HOU.out).mono ?_
     rintro e w6 ⟨ao6, cap6, rfl, hown6, hb6⟩
     rw [Qa, hpl]
     exact ⟨_, _, rfl, ⟨ao6, cap6, rfl, rfl, by have h := Rd.of_owns hown6; rw [Qa, hpl] at h; exact h⟩, hb6⟩)
   clear hn hrl2 hOU hcell hx0 HO0
   go_upto_region 8 with (fail)
   go_cut [9, 10] (fun a b wx => RelU c OU a b wx ∧ Below w3.heap.size w3 wx)
   case first =>
    by_cases hck : cap = 1
    ·have hn2 : n = 1 := by omega
     subst hck
     subst hn2
     have HR4 := hid (show Rd w3 (.slice (some ⟨b, off, none⟩) 0 0) (rest.map u8v) from by
      have : rest = [] := Qm.1 HRL.out
      rw [this]
      exact zBx w3 _ 0)
     have HU := hid (HUNP.out (some ⟨b, off, none⟩) 0 HR4.out)
     go_wp2_with fail
     refine HU.out.mono ?_
     rintro e w6 ⟨a, bb, rfl, hrel, hb6⟩
     have HRL6 := hid hrel
     clear hrel
     go_wp2_with fail
     go_meet
     exact ⟨HRL6.out, hb6⟩
    ·have hck2 : (cap == 1) = false := by rw [beq_eq_false_iff_ne]; exact hck
     have HR4 := hid (show Rd w3 (.slice (some ⟨b, off + 1, none⟩) (n - 1) (cap - 1)) (rest.map u8v) from by
      have h := zCe HR3.out hn1
      simpa using h)
     have HU := hid (HUNP.out (some ⟨b, off + 1, none⟩) (cap - 1) HR4.out)
     go_wp2_with fail
     refine HU.out.mono ?_
     rintro e w6 ⟨a, bb, rfl, hrel, hb6⟩
     have HRL6 := hid hrel
     clear hrel
     go_wp2_with fail
     go_meet
     exact ⟨HRL6.out, hb6⟩
   case rest =>
    obtain ⟨hrel, hb6⟩ := hcut
    obtain ⟨w6, hw6⟩ := zI8 hb6
    have HRL6 := hid hrel
    have HB6 := hid hb6
    rw [<- hw6] at HRL6 HB6 ⊢
    have HG6 := hid (show w.grownBy w6 (some r) from zAc HG3.out (zAb HB6.out _))
    clear hrel hb6 hw6 hx1 HUNP HR3 HM3
    cases OU with
    | none =>
     obtain ⟨rfl, rfl⟩ := HRL6.out
     have HON := hid (show O = none from HO1.out)
     go_wp2_with fail
     go_ret2
     rw [HON.out]
     exact ⟨rfl, HG6.out⟩
    | some us =>
     obtain ⟨a6, cap6, rfl, rfl, hus6⟩ := HRL6.out
     obtain ⟨hpl, hp64⟩ := zDy HOU.out
     rw [Qr] at hpl
     have HPL := hid hpl
     have HUS := hid hus6
     have hlp : 0 < us.length := by omega
     obtain ⟨k1, k2, k3⟩ := zO5 hlp
     have hM64 := hp64 _ k3
     have HMI := hid (zQx us (.slice a6 c cap6) w6 hlp (by omega) hus6)
     have HMA := hid (zQy us (.slice a6 c cap6) w6 hlp (by omega) hus6)
     have HWI := hid (zGu (hiN us) w6 hM64)
     have HO2 := hid (show O = if loN us ≠ 0 ∨ Lib.bitLen (hiN us) ≠ wd ∨ (9223372036854775807 - lo) < (hiN us : Int) then none else some (us.map fun u : Nat => lo + (u : Int)) from HO1.out)
     have HKM := hid (show ∀ u ∈ us, u <= hiN us from fun u hu => (k1 u hu).2)
     obtain ⟨M, hM⟩ : ∃ M, M = hiN us := ⟨_, rfl⟩
     obtain ⟨mn, hmn⟩ : ∃ mn, mn = loN us := ⟨_, rfl⟩
     rw [<- hM] at hM64 HMA HWI HO2 HKM
     rw [<- hmn] at HMI HO2
     obtain ⟨bl, hbl⟩ : ∃ bl, bl = Lib.bitLen M := ⟨_, rfl⟩
     rw [<- hbl] at HWI HO2
     clear hpl hus6 hp64 k1 k2 k3 hM hmn hbl HRL6 HO1 HOU
     go_wp2_with fail
     refine HMI.out.mono ?_
     rintro e w7 ⟨rfl, rfl⟩
     by_cases hmn0 : mn = 0
     ·have hz1 : ((mn : Int) == 0) = true := by rw [hmn0]; rfl
      have hz2 : ((mn : Int) != 0) = false := by rw [hmn0]; rfl
      subst hmn0
      go_wp2_with fail
      refine HMA.out.mono ?_
      rintro e w7 ⟨rfl, rfl⟩
      go_wp2_with fail
      refine HWI.out.mono ?_
      rintro e w7 ⟨rfl, rfl⟩
      by_cases hbw : bl = wd
      ·have hz3 : ((bl : Int) != (wd : Int)) = false := by rw [hbw]; simp
       subst hbw
       have hti : (T : Int) = 9223372036854775807 - lo := by
        have h1 := HT.out
        have h2 := HI.out
        unfold I64 at h2
        omega
       by_cases hMT : T < M
       ·have hz5 : decide ((M : Int) > (T : Int)) = true := by rw [decide_eq_true_iff]; omega
        have hz6 : (T : Int) < (M : Int) := by omega
        have HON := hid (show O = none by rw [HO2.out, if_pos (.inr (.inr (by omega)))])
        go_wp2_with fail
        go_ret2
        rw [HON.out]
        exact ⟨rfl, HG6.out⟩
       ·have hz5 : decide ((M : Int) > (T : Int)) = false := by rw [decide_eq_false_iff_not]; omega
        have hz6 : ¬ (T : Int) < (M : Int) := by omega
        have HON := hid (show O = some (us.map fun u : Nat => lo + (u : Int)) by rw [HO2.out, if_neg (by simp; omega)])
        have HAD := hid (show ∀ u ∈ us, IntKind.i64.wrap (IntKind.u64.wrap (IntKind.u64.wrap lo + (u : Int))) = lo + (u : Int) from fun u hu => uadd lo u HI.out (by have := HKM.out u hu; omega))
        obtain ⟨ei, he1, he2, he3, he4⟩ := zCv
        obtain ⟨W8, hmk, hown8, hg8⟩ := run_make_full (P := Tryz.prog) w6 w6.heap.size 130 2 ei (.int .i64 0) 1 Tryz.underlying130 he1 he2 he3 .i64 .i64 c (by rw [he4]; omega) (by unfold maxLen; omega) (Qb _)
        obtain ⟨G, hG⟩ : ∃ G, G = w6.heap.size := ⟨_, rfl⟩
        rw [<- hG] at hmk hown8
        have HO8 := hid (show W8.ownsRow G 2 1 (.slice (some ⟨G, 0, none⟩) c c) c ((fillT (fun u : Nat => lo + (u : Int)) us 0 c 0).map (Value.int .i64)) from by
         rw [show (Value.int .i64 0).cells = #[Value.int .i64 0] from rfl, Qg, toList_madeCells_one] at hown8
         rw [zEf, Qw]
         exact hown8)
        have HB8 := hid (show Below w6.heap.size w6 W8 from ⟨hg8.os, hg8.tape, hg8.output, hg8.size, fun i hi => hg8.block i hi (by simp)⟩)
        have HGG := hid hG
        clear hown8 hg8 he1 he2 he3 he4 hG HMI HMA HWI HO2
        go_upto_region 15 with (fail)
        clear hmk
        go_wp2_with fail
        go_loopw [68] (fun i wr => ∃ q : Nat, q <= c ∧ i = .int .i64 (q : Int) ∧ wr.ownsRow G 2 1 (.slice (some ⟨G, 0, none⟩) c c) c ((fillT (fun u : Nat => lo + (u : Int)) us 0 c q).map (Value.int .i64)) ∧ Below w6.heap.size w6 wr) (fun i _ => c - (intOf i).toNat)
        case atStart => exact ⟨0, Qx _, rfl, HO8.out, HB8.out⟩
        case round =>
         obtain ⟨q, hq, rfl, hown, hbel⟩ := hrel
         have HO := hid hown
         have HBL := hid hbel
         clear hown hbel
         by_cases hlt : q < c
         ·have hlti : (q : Int) < (c : Int) := by omega
          have hq0 : (0 : Int) <= (q : Int) := by omega
          have hcp := (zBq (HUS.out.kept HBL.out)).2
          obtain ⟨b7, off7, rfl, hcell⟩ := hcp (by omega)
          have hx := hcell q hlt
          obtain ⟨p, hp⟩ : ∃ p, p = us.getD q 0 := ⟨_, rfl⟩
          rw [<- hp] at hx
          have hat : us[q]? = some p := by rw [hp, Qo, Qd (by rw [HPL.out]; exact hlt)]; rfl
          have HD := hid (zEe (fun u : Nat => lo + (u : Int)) 0 HPL.out hlt hat)
          have hup := HAD.out p (Qk hat)
          obtain ⟨t, ht⟩ : ∃ t, t = lo + (p : Int) := ⟨_, rfl⟩
          rw [<- ht] at hup
          have HTT := hid ht
          have hcG2 : ∃ u, wr.cell? ⟨G, q, none⟩ = some u := by
           rw [HO.out.cellAt q (by omega)]
           exact ⟨_, Qd (by rw [Qa, zE9 _ _ HPL.out hq]; exact hlt)⟩
          obtain ⟨uG, hcG3⟩ := hcG2
          have hfG := HO.out.frozenAt q
          have hst := HO.out.stored q (.int .i64 t)
          have HST := hid hst
          clear hcp hcell hp hat hst ht
          go_wp2_with fail
          go_roundw
          case rel =>
           refine ⟨q + 1, by omega, by go_num, ?_, ?_⟩
           ·rw [HD.out, <- HTT.out, Qq]
            have h := HST.out.1
            exact h
           ·exact HBL.out.setCell (p := ⟨G, q, none⟩) (by show _ <= G; rw [HGG.out]; exact Qb _) _
          case measure => simp [intOf]; omega
         ·have hqc : q = c := by omega
          subst hqc
          have hlti : ¬ (q : Int) < (q : Int) := by omega
          have HGW8 := hid (show w.grownBy wr (some r) from zAc HG6.out (zAb HBL.out _))
          have HRES := hid (show OwnI w.heap.size wr (.slice (some ⟨G, 0, none⟩) q q) (us.map fun u : Nat => lo + (u : Int)) from by
           have h := HO.out
           rw [zFa _ _ HPL.out] at h
           exact OwnI.of (zAo h (by rw [HGG.out]; exact HG6.out.size)))
          go_wp2_with fail
          go_ret2
          rw [HON.out]
          exact ⟨⟨_, rfl, HRES.out⟩, HGW8.out⟩
      ·have hz3 : ((bl : Int) != (wd : Int)) = true := by rw [bne_iff_ne]; omega
       have hz4 : ¬ ((bl : Int) = (wd : Int)) := by omega
       have HON := hid (show O = none by rw [HO2.out, if_pos (.inr (.inl hbw))])
       go_wp2_with fail
       go_ret2
       rw [HON.out]
       exact ⟨rfl, HG6.out⟩
     ·have hz1 : ((mn : Int) == 0) = false := by rw [beq_eq_false_iff_ne]; omega
      have hz2 : ((mn : Int) != 0) = true := by rw [bne_iff_ne]; omega
      have hz3 : ¬ ((mn : Int) = 0) := by omega
      have HON := hid (show O = none by rw [HO2.out, if_pos (.inl hmn0)])
      go_wp2_with fail
      go_ret2
      rw [HON.out]
      exact ⟨rfl, HG6.out⟩
theorem zBu {a b c d x : Value} {T : TypeId} (w : World) (X : Nat) (j : Nat) (h : w.heap[X]? = some (.cells #[a, b, c, d] T (0, 0))) (hj : #[a, b, c, d][j]? = some x) (v : Value) (h1 : v.oneCell' = true) : (store ⟨X, j, none⟩ v).run Tryz.prog w = .ok () (w.setCell ⟨X, j, none⟩ v) := by
 rw [run_store Tryz.prog w ⟨X, j, none⟩ v _ h1, cell_of_row w X j _ _ _ h, hj]
 simp [frozen_of_row w X j _ _ h]
theorem zHc : (Tryz.prog.info? 185).map (·.size) = some 4 := by kernel_rfl
theorem zDn (w : World) : Calls Tryz.prog 124 #[] w fun e w' => e = .returned (.agg #[.func (.func 154) #[] #[], .func (.func 155) #[] #[], .func (.func 153) #[] #[], .func (.func 156) #[] #[]]) ∧ Below w.heap.size w w' := by
 go_enter Tryz.func124, Tryz.ntmps124
 have hz := heap_alloc_new w (.cells #[.nilFunc, .nilFunc, .nilFunc, .nilFunc] 185)
 have hb1 := zAd w (.cells #[.nilFunc, .nilFunc, .nilFunc, .nilFunc] 185)
 obtain ⟨W1, hW1⟩ : ∃ W1 : World, W1 = w.alloc (.cells #[.nilFunc, .nilFunc, .nilFunc, .nilFunc] 185) := ⟨_, rfl⟩
 obtain ⟨X, hX⟩ : ∃ X, X = w.heap.size := ⟨_, rfl⟩
 rw [<- hW1] at hz hb1
 rw [<- hX] at hz
 obtain ⟨W2, hW2⟩ : ∃ W2 : World, W2 = W1.setCell ⟨X, 0, none⟩ (.func (.func 154) #[] #[]) := ⟨_, rfl⟩
 have e1 := zBu W1 X 0 hz rfl (.func (.func 154) #[] #[]) rfl
 rw [<- hW2] at e1
 have hz2 : W2.heap[X]? = some (.cells #[.func (.func 154) #[] #[], .nilFunc, .nilFunc, .nilFunc] 185 (0, 0)) := by rw [hW2]; simpa using Jg W1 X 0 _ _ (.func (.func 154) #[] #[]) hz
 obtain ⟨W3, hW3⟩ : ∃ W3 : World, W3 = W2.setCell ⟨X, 1, none⟩ (.func (.func 155) #[] #[]) := ⟨_, rfl⟩
 have e2 := zBu W2 X 1 hz2 rfl (.func (.func 155) #[] #[]) rfl
 rw [<- hW3] at e2
 have hz3 : W3.heap[X]? = some (.cells #[.func (.func 154) #[] #[], .func (.func 155) #[] #[], .nilFunc, .nilFunc] 185 (0, 0)) := by rw [hW3]; simpa using Jg W2 X 1 _ _ (.func (.func 155) #[] #[]) hz2
 obtain ⟨W4, hW4⟩ : ∃ W4 : World, W4 = W3.setCell ⟨X, 2, none⟩ (.func (.func 153) #[] #[]) := ⟨_, rfl⟩
 have e3 := zBu W3 X 2 hz3 rfl (.func (.func 153) #[] #[]) rfl
 rw [<- hW4] at e3
 have hz4 : W4.heap[X]? = some (.cells #[.func (.func 154) #[] #[], .func (.func 155) #[] #[], .func (.func 153) #[] #[], .nilFunc] 185 (0, 0)) := by rw [hW4]; simpa using Jg W3 X 2 _ _ (.func (.func 153) #[] #[]) hz3
 obtain ⟨W5, hW5⟩ : ∃ W5 : World, W5 = W4.setCell ⟨X, 3, none⟩ (.func (.func 156) #[] #[]) := ⟨_, rfl⟩
 have e4 := zBu W4 X 3 hz4 rfl (.func (.func 156) #[] #[]) rfl
 rw [<- hW5] at e4
 have hz5 : W5.heap[X]? = some (.cells #[.func (.func 154) #[] #[], .func (.func 155) #[] #[], .func (.func 153) #[] #[], .func (.func 156) #[] #[]] 185 (0, 0)) := by rw [hW5]; simpa using Jg W4 X 3 _ _ (.func (.func 156) #[] #[]) hz4
 have hxb : w.heap.size <= X := by rw [hX]; exact Qb _
 have HB5 := hid (show Below w.heap.size w W5 from by
  rw [hW5, hW4, hW3, hW2]
  exact (((hb1.setCell (p := ⟨X, 0, none⟩) hxb _).setCell (p := ⟨X, 1, none⟩) hxb _).setCell (p := ⟨X, 2, none⟩) hxb _).setCell (p := ⟨X, 3, none⟩) hxb _)
 have HZ5 := hid hz5
 clear hz hb1 hW2 hW3 hW4 hW5 hz2 hz3 hz4 hz5 hxb
 go_upto_region 1 with (fail)
 rw [<- hW1, <- hX]
 clear hW1 hX
 go_wp2_with fail
 refine bodyPost_ret (results_cell_row rfl _ _ X _ _ (0, 0) _ rfl HZ5.out Tryz.underlying185 rfl zHc) rfl ?_
 exact ⟨rfl, HB5.out⟩
theorem zBv {base : Nat} {o : Option (List Int)} {e : Ending} {w : World} (h : RetOpt base o e w) : ∃ a b, e = .returned (.tuple #[a, b]) ∧ RetOpt base o (.returned (.tuple #[a, b])) w := by
 cases o with
 | none => exact ⟨_, _, h, rfl⟩
 | some l =>
  obtain ⟨v, h1, h2⟩ := h
  exact ⟨_, _, h1, v, rfl, h2⟩
theorem zBn {base base' : Nat} {o : Option (List Int)} {e : Ending} {w : World} (h : RetOpt base o e w) (hb : base' <= base) : RetOpt base' o e w := by
 cases o with
 | none => exact h
 | some l =>
  obtain ⟨v, h1, h2⟩ := h
  exact ⟨v, h1, zAo h2 hb⟩
theorem zCq {B r : Nat} {w0 w w' : World} (hb : Below B w0 w) (hs : B <= w.heap.size) (hg : w.grownBy w' (some r)) (hr : B <= r) : Below B w0 w' := hb.grown hg hs (fun k e => by cases e; exact hr)
theorem zQz (bs : List Nat) (bv : Value) (count : Int) (w : World) (hr : Rd w bv (bs.map u8v)) (h256 : ∀ x ∈ bs, x < 256) (hbig : bs.length <= 1000000) :
  Calls Tryz.prog 107 #[bv, .int .i64 count] w fun e w' => RetOpt w.heap.size (decT bs count) e w' ∧ Below w.heap.size w w' := by
 obtain ⟨ao, cap, rfl⟩ := zAh hr
 rw [Qa] at hr ⊢
 cases bs with
 | nil =>
  clear hr h256
  go_enter Tryz.func107, Tryz.ntmps107
  go_wp2_with fail
  go_ret2
  exact ⟨rfl, Qf _ _⟩
 | cons k rest =>
  obtain ⟨n, hn⟩ : ∃ n, n = (k :: rest).length := ⟨_, rfl⟩
  have hrl2 : rest.length = n - 1 := by rw [hn, Qc]; omega
  have hn1 : 1 <= n := by rw [hn, Qc]; omega
  rw [<- hn] at hr hbig ⊢
  have hk : k < 256 := h256 k Ja
  have HM4 := hid (show ∀ x ∈ rest, x < 256 from fun x hx => h256 x (Jb _ hx))
  have HRL := hid hrl2
  have HR := hid hr
  have hnb : ((n : Int) == 0) = false := by rw [beq_eq_false_iff_ne]; omega
  have hnb2 : ¬ ((n : Int) = 0) := by omega
  have hnp : (0 : Int) < (n : Int) := by omega
  have hn1i : (1 : Int) <= (n : Int) := by omega
  have hcp := (zA0 HR.out).2 (by omega)
  obtain ⟨b, off, rfl, hcell⟩ := hcp
  have hx0 := hcell 0 (by omega)
  rw [Qe] at hx0
  have HX0 := hid (show w.cell? ⟨b, off, none⟩ = some (.int .u8 (k : Int)) from hx0)
  have hcapn := zBr HR.out
  clear hr h256 hn hrl2 hcell hx0
  by_cases hneg : count < 0
  ·have h1 : decide (count < 0) = true := decide_eq_true hneg
   have HD := hid (show decT (k :: rest) count = none by unfold decT; simp only; rw [if_pos (.inl hneg)])
   go_enter Tryz.func107, Tryz.ntmps107
   go_wp2_with fail
   go_ret2
   rw [HD.out]
   exact ⟨rfl, Qf _ _⟩
  ·have h1 : decide (count < 0) = false := decide_eq_false hneg
   by_cases hbigc : 65535 < count
   ·have h2 : decide (count > 65535) = true := decide_eq_true hbigc
    have HD := hid (show decT (k :: rest) count = none by unfold decT; simp only; rw [if_pos (.inr hbigc)])
    go_enter Tryz.func107, Tryz.ntmps107
    go_wp2_with fail
    go_ret2
    rw [HD.out]
    exact ⟨rfl, Qf _ _⟩
   ·have h2 : decide (count > 65535) = false := decide_eq_false hbigc
    obtain ⟨c, rfl⟩ : ∃ c : Nat, count = (c : Int) := ⟨count.toNat, by omega⟩
    have hc : c <= 65535 := by omega
    have HD := hid (show decT (k :: rest) (c : Int) = (if k = 1 then wholeT (rdPlain c rest false).1 (rdPlain c rest false).2.1 (rdPlain c rest false).2.2 else if k = 2 then rdRuns c c [] rest false else if k = 3 then rdFrame c rest false else if k = 4 then rdDict c rest false else none) from by
     unfold decT
     simp only
     rw [if_neg (by omega), Qr])
    go_enter Tryz.func107, Tryz.ntmps107
    go_upto_region 3 with (fail)
    go_cut [6] (fun p wx => ∃ r, p = .pointer (some ⟨r, 0, none⟩) ∧ w.heap.size <= r ∧ IsR wx r rest false ∧ Below w.heap.size w wx)
    case first =>
     by_cases hck : cap = 1
     ·have hn2 : n = 1 := by omega
      subst hck
      subst hn2
      have HR4 := hid (show Rd w (.slice (some ⟨b, off, none⟩) 0 0) (rest.map u8v) from by
       have : rest = [] := Qm.1 HRL.out
       rw [this]
       exact zBx w _ 0)
      have HU := hid (zDr _ rest w HR4.out (by have := HRL.out; omega))
      go_wp2_with fail
      refine HU.out.mono ?_
      rintro e w6 ⟨r, rfl, h1, h2, h3⟩
      have H2 := hid h2
      clear h2
      go_wp2_with fail
      go_meet
      exact ⟨r, rfl, h1, H2.out, h3⟩
     ·have hck2 : (cap == 1) = false := by rw [beq_eq_false_iff_ne]; exact hck
      have HR4 := hid (show Rd w (.slice (some ⟨b, off + 1, none⟩) (n - 1) (cap - 1)) (rest.map u8v) from by
       have h := zCe HR.out hn1
       simpa using h)
      have HU := hid (zDr _ rest w HR4.out (by have := HRL.out; omega))
      go_wp2_with fail
      refine HU.out.mono ?_
      rintro e w6 ⟨r, rfl, h1, h2, h3⟩
      have H2 := hid h2
      clear h2
      go_wp2_with fail
      go_meet
      exact ⟨r, rfl, h1, H2.out, h3⟩
    case rest =>
     obtain ⟨r, rfl, hwr, hisr, hb6⟩ := hcut
     obtain ⟨w6, hw6⟩ := zI8 hb6
     rw [<- hw6] at hisr hb6 ⊢
     have HIR := hid hisr
     have HB6 := hid hb6
     have hx6 : w6.cell? ⟨b, off, none⟩ = some (.int .u8 (k : Int)) := (hb6.cell (World.block_lt_of_cell? _ _ HX0.out)).trans HX0.out
     have hwk : IntKind.i64.wrap (k : Int) = (k : Int) := Qs _ (by omega)
     have hrest : rest.length <= 1000000 := by have := HRL.out; omega
     clear hisr hb6 hw6 HR
     have HNB := hid (zDn w6)
     by_cases hk1 : k = 1
     ·subst hk1
      go_wp2_with fail
      refine HNB.out.mono ?_
      rintro e w7 ⟨rfl, hb7⟩
      have HB7 := hid (HB6.out.trans (hb7.mono HB6.out.size))
      have HP := hid (zGe r rest false c w7 (HIR.out.kept hb7) HM4.out hrest hc)
      clear hb7 hx6
      go_wp2_with fail
      refine HP.out.mono ?_
      rintro e w8 ⟨hret, hg8⟩
      obtain ⟨a, bb, rfl, hret⟩ := zBv hret
      have HRT := hid (zBn hret HB7.out.size)
      have HB8 := hid (zCq HB7.out HB7.out.size hg8 hwr)
      clear hret hg8 HP
      go_wp2_with fail
      go_ret2
      rw [HD.out]
      exact ⟨HRT.out, HB8.out⟩
     ·have hk1i : ((k : Int) == 1) = false := by rw [beq_eq_false_iff_ne]; omega
      have hk1j : ¬ ((k : Int) = 1) := by omega
      by_cases hk2 : k = 2
      ·subst hk2
       go_wp2_with fail
       refine HNB.out.mono ?_
       rintro e w7 ⟨rfl, hb7⟩
       have HB7 := hid (HB6.out.trans (hb7.mono HB6.out.size))
       have HP := hid (zG9 r rest false c w7 (HIR.out.kept hb7) HM4.out hrest hc)
       clear hb7 hx6
       go_wp2_with fail
       refine HP.out.mono ?_
       rintro e w8 ⟨hret, hg8⟩
       obtain ⟨a, bb, rfl, hret⟩ := zBv hret
       have HRT := hid (zBn hret HB7.out.size)
       have HB8 := hid (zCq HB7.out HB7.out.size hg8 hwr)
       clear hret hg8 HP
       go_wp2_with fail
       go_ret2
       rw [HD.out]
       exact ⟨HRT.out, HB8.out⟩
      ·have hk2i : ((k : Int) == 2) = false := by rw [beq_eq_false_iff_ne]; omega
       have hk2j : ¬ ((k : Int) = 2) := by omega
       by_cases hk3 : k = 3
       ·subst hk3
        have HP := hid (zN0 r rest false c w6 HIR.out HM4.out hrest hc)
        go_wp2_with fail
        refine HP.out.mono ?_
        rintro e w8 ⟨hret, hg8⟩
        obtain ⟨a, bb, rfl, hret⟩ := zBv hret
        have HRT := hid (zBn hret HB6.out.size)
        have HB8 := hid (zCq HB6.out HB6.out.size hg8 hwr)
        clear hret hg8 HP
        go_wp2_with fail
        go_ret2
        rw [HD.out]
        exact ⟨HRT.out, HB8.out⟩
       ·have hk3i : ((k : Int) == 3) = false := by rw [beq_eq_false_iff_ne]; omega
        have hk3j : ¬ ((k : Int) = 3) := by omega
        by_cases hk4 : k = 4
        ·subst hk4
         go_wp2_with fail
         refine HNB.out.mono ?_
         rintro e w7 ⟨rfl, hb7⟩
         have HB7 := hid (HB6.out.trans (hb7.mono HB6.out.size))
         have HP := hid (zHb r rest false c w7 (HIR.out.kept hb7) HM4.out hrest hc)
         clear hb7 hx6
         go_wp2_with fail
         refine HP.out.mono ?_
         rintro e w8 ⟨hret, hg8⟩
         obtain ⟨a, bb, rfl, hret⟩ := zBv hret
         have HRT := hid (zBn hret HB7.out.size)
         have HB8 := hid (zCq HB7.out HB7.out.size hg8 hwr)
         clear hret hg8 HP
         go_wp2_with fail
         go_ret2
         rw [HD.out]
         exact ⟨HRT.out, HB8.out⟩
        ·have hk4i : ((k : Int) == 4) = false := by rw [beq_eq_false_iff_ne]; omega
         have hk4j : ¬ ((k : Int) = 4) := by omega
         have HD2 := hid (show decT (k :: rest) (c : Int) = none by rw [HD.out, if_neg hk1, if_neg hk2, if_neg hk3, if_neg hk4])
         go_wp2_with fail
         go_ret2
         rw [HD2.out]
         exact ⟨rfl, HB6.out⟩
def compQ (xs : List Int) : Nat -> List Int
 | 0 => []
 | q + 1 => match xs[q]? with
  | none => compQ xs q
  | some z => if 0 < q ∧ xs[q - 1]? = some z then compQ xs q else compQ xs q ++ [z]
theorem zCw {xs : List Int} {q : Nat} {z : Int} (hz : xs[q]? = some z) (hq : 0 < q) (h : xs[q - 1]? = some z) : compQ xs (q + 1) = compQ xs q := by
 rw [compQ, hz]
 simp only
 rw [if_pos ⟨hq, h⟩]
theorem zCr {xs : List Int} {q : Nat} {z : Int} (hz : xs[q]? = some z) (h : q = 0 ∨ xs[q - 1]? ≠ some z) : compQ xs (q + 1) = compQ xs q ++ [z] := by
 rw [compQ, hz]
 simp only
 rw [if_neg]
 rintro ⟨h1, h2⟩
 rcases h with h | h
 ·omega
 ·exact h h2
theorem zEu {xs : List Int} (hs : ∀ (i : Nat) (a b : Int), xs[i]? = some a -> xs[i + 1]? = some b -> a <= b) : ∀ q, q <= xs.length -> (compQ xs q).Pairwise (· < ·) ∧ (∀ z, z ∈ compQ xs q ↔ z ∈ xs.take q) ∧ (0 < q -> (compQ xs q).getLast? = xs[q - 1]?)
 | 0, _ => ⟨List.Pairwise.nil, fun z => by simp [compQ], fun h => by omega⟩
 | q + 1, hq => by
  obtain ⟨h1, h2, h3⟩ := zEu hs q (by omega)
  obtain ⟨z, hz⟩ : ∃ z, xs[q]? = some z := ⟨_, Qd (by omega)⟩
  have htk : xs.take (q + 1) = xs.take q ++ [z] := by rw [Qj, hz]; rfl
  by_cases he : 0 < q ∧ xs[q - 1]? = some z
  ·rw [zCw hz he.1 he.2, htk]
   refine ⟨h1, fun y => ?_, fun _ => ?_⟩
   ·rw [h2, Qt, Ql]
    refine ⟨.inl, fun h => h.elim id fun e => ?_⟩
    rw [e]
    refine Qk (i := q - 1) ?_
    rw [List.getElem?_take, if_pos (by omega)]
    exact he.2
   ·rw [h3 he.1, he.2, show q + 1 - 1 = q by omega, hz]
  ·rw [zCr hz (by
    rcases Jc q with h | h
    ·exact .inl h
    ·exact .inr fun e => he ⟨h, e⟩), htk]
   refine ⟨?_, fun y => ?_, fun _ => ?_⟩
   ·rw [List.pairwise_append]
    refine ⟨h1, by simp, fun a ha b hb => ?_⟩
    rw [Ql] at hb
    subst hb
    have hqp : 0 < q := by
     rcases Jc q with h | h
     ·subst h; simp [compQ] at ha
     ·exact h
    obtain ⟨y, hy⟩ : ∃ y, xs[q - 1]? = some y := ⟨_, Qd (by omega)⟩
    have hyb : y <= b := hs (q - 1) y b hy (by rw [show q - 1 + 1 = q by omega]; exact hz)
    have hne : y ≠ b := fun e => he ⟨hqp, by rw [hy, e]⟩
    have hlast := h3 hqp
    rw [hy] at hlast
    have hay : a <= y := by
     obtain ⟨i, hi⟩ := List.getElem?_of_mem ha
     rw [List.getLast?_eq_getElem?] at hlast
     have hil := (List.getElem?_eq_some_iff.1 hi).1
     rcases Nat.lt_or_ge i ((compQ xs q).length - 1) with h | h
     ·have := zCa h1 h hi hlast; omega
     ·have : i = (compQ xs q).length - 1 := by omega
      rw [this, hlast] at hi
      have := Option.some.inj hi
      omega
    omega
   ·rw [Qt, Qt, h2]
   ·rw [List.getLast?_append, show q + 1 - 1 = q by omega, hz]
    rfl
theorem zFo {l xs : List Int} (hp : ∀ z, z ∈ xs ↔ z ∈ l) (hs : ∀ (i : Nat) (a b : Int), xs[i]? = some a -> xs[i + 1]? = some b -> a <= b) : compQ xs xs.length = wordsT l := by
 obtain ⟨h1, h2, _⟩ := zEu hs xs.length (Qb _)
 refine zGw h1 (zBg l) fun z => ?_
 rw [h2, Jd, hp, zAx]
theorem zFz (X : Nat) (a b : Int) (w : World) (hx : w.cell? ⟨X, 2, none⟩ = some (.func (.func 153) #[] #[])) :
  Calls Tryz.prog 164 #[.int .i64 a, .int .i64 b, .pointer (some ⟨X, 0, none⟩)] w fun e w' => e = .returned (.bool (decide (a = b))) ∧ w' = w := by
 by_cases hab : a = b
 ·subst hab
  have HC := hid (zCc a a 0 (zE4 a) w)
  go_enter Tryz.func164, Tryz.ntmps164
  go_wp2_with fail
  refine HC.out.mono ?_
  rintro e w2 ⟨rfl, rfl⟩
  go_wp2_with fail
  go_ret
  exact ⟨by simp, rfl⟩
 ·obtain ⟨cc, hcc⟩ : ∃ cc, cc = cmpZ a b := ⟨_, rfl⟩
  have hcn : cc ≠ 0 := by rw [hcc]; exact zI7 hab
  have hcb : (cc == 0) = false := by rw [beq_eq_false_iff_ne]; exact hcn
  have HC := hid (zCc a b cc hcc.symm w)
  have HN := hid (show decide (a = b) = false from decide_eq_false hab)
  clear hcc hab
  go_enter Tryz.func164, Tryz.ntmps164
  go_wp2_with fail
  refine HC.out.mono ?_
  rintro e w2 ⟨rfl, rfl⟩
  go_wp2_with fail
  go_ret
  exact ⟨by rw [HN.out]; rfl, rfl⟩
theorem zN1 (l : List Int) (lv : Value) (w : World) (hl : l.length <= 100000) (hr : Rd w lv (l.map (.int .i64))) :
  Calls Tryz.prog 161 #[lv] w fun e w' => ∃ v, e = .returned v ∧ OwnI w.heap.size w' v l ∧ Below w.heap.size w w' := by
 obtain ⟨ao, cap, rfl⟩ := zAh hr
 rw [Qa] at hr ⊢
 have HR := hid hr
 rcases ao with _ | ⟨b, off, p⟩
 ·obtain ⟨ao', cap', hv, hn, _⟩ := hr
  simp only [Value.slice.injEq, Qa] at hv hn
  have hcap := hn.1 hv.1.symm
  have hl0 : l = [] := Qm.1 (by omega)
  have hc0 : cap = 0 := by omega
  clear hv hn hcap HR
  subst hl0
  subst hc0
  have heq := fun (w' : World) => Lib.run_eql_slice_nil (P := Tryz.prog) w' 130 2 none 0 0 0 0 Tryz.underlying130
  go_enter Tryz.func161, Tryz.ntmps161
  go_wp2_with fail
  go_ret
  exact ⟨_, rfl, zH7 _ _, Qf _ _⟩
 ·obtain ⟨n, hn⟩ : ∃ n, n = l.length := ⟨_, rfl⟩
  rw [<- hn] at HR ⊢
  have HN := hid hn
  rw [<- hn] at hl
  clear hr hn
  have heq := fun (w' : World) => Lib.run_eql_slice_nil (P := Tryz.prog) w' 130 2 (some ⟨b, off, p⟩) n cap 0 0 Tryz.underlying130
  have HRS := hid fun (w' : World) (h : Below w.heap.size w w') => zAs (HR.out.kept h)
  have HONE := hid (zAr (zLd l))
  go_enter Tryz.func161, Tryz.ntmps161
  have hpos := HN.out
  have HOE := hid (show (w.alloc (.cells #[] 2)).ownsRow w.heap.size 2 1 (.slice (some ⟨w.heap.size, 0, none⟩) 0 0) 0 [] from World.ownsRow_lit w #[] 0 (Qb _) (by unfold maxLen; omega) rfl)
  have HRA := hid (HRS.out _ (zAd w (.cells #[] 2)))
  have hszB : w.heap.size <= (w.alloc (.cells #[] 2)).heap.size := by simp
  clear hpos
  go_wp2_with (at_builtin; go_must (refine zAf zG2 rfl _ _ rfl w.heap.size _ _ _ rfl HOE.out _ ((l.map (Value.int .i64)).map fun u => [u]) rfl HRA.out HONE.out (by simp; have := HN.out; omega) hszB n (by have := HN.out; simp; omega) ?_); intro ao4 cap4 w4 hown4 hgrow4 hnew4; have HO4 := hid hown4; have HG4 := hid hgrow4; clear hown4 hgrow4 hnew4)
  go_ret
  refine ⟨_, rfl, ?_, ?_⟩
  ·have h := HO4.out
   rw [zAp, Qy] at h
   exact OwnI.of h
  ·exact zAk (zAd w _) hszB (show (w.alloc (.cells #[] 2)).grownBy w4 (Value.slice (some ⟨w.heap.size, 0, none⟩) 0 0).ownBlock from HG4.out) (zAg HOE.out)
theorem zSd (w : World) : (zeroValue 2).run Tryz.prog w = .ok (.int .i64 0) w := Tryz.zeroValue2 w
theorem zN2 {base g n vc : Nat} {xs : List Value} {w0 w : World} (h : w.ownsRow base 2 1 (.slice (some ⟨g, 0, none⟩) n vc) n xs) (hg : w0.grownBy w (some g)) (m c : Nat) (hm : n + m <= vc) (hp : 0 < m) :
  ∃ wc, (∀ ty, (Builtin.clear_ #[130] ty #[.slice (some ⟨g, n, none⟩) m c]).run Tryz.prog w = .ok (.tuple #[]) wc) ∧ wc.ownsRow base 2 1 (.slice (some ⟨g, 0, none⟩) n vc) n xs ∧ w0.grownBy wc (some g) := by
 obtain ⟨cur, hc, hnc, hcm, hcl, hct, hb⟩ := zCo h
 rw [Qg] at hcl hct
 have hfit : n + m * 1 <= cur.length := by rw [hcl]; omega
 refine ⟨_, fun ty => zFv (P := Tryz.prog) w 130 2 ty [.int .i64 0] _ Tryz.underlying130 zSd rfl (by simp [Value.oneCell']) g n m c cur 2 hc hfit hp, ?_, zAc hg (zG1 w g _)⟩
 have hzl : ((Qp m ([.int .i64 0] : List Value)).flatten).length = m * 1 := by
  rw [zC0 _ 1 (fun t ht => by rw [List.eq_of_mem_replicate ht]; rfl), Qv]
 refine zDk (setRow_heap w g cur.toArray _ _ _ hc) hnc hcm ?_ ?_ hb
 ·rw [length_splice _ _ _ (by rw [hzl]; exact hfit), Qg]; exact hcl
 ·rw [Qg, <- hct]
  unfold splice
  rw [List.take_append_of_le_length (by rw [Qi]; omega), List.take_take, Nat.min_self]
theorem zLf (xs : List Int) (base X : Nat) (v : Value) (w : World) (hl : xs.length <= 100000) (hown : OwnI base w v xs) (hX : w.heap[X]? = some (.cells #[.func (.func 154) #[] #[], .func (.func 155) #[] #[], .func (.func 153) #[] #[], .func (.func 156) #[] #[]] 185 (0, 0))) (hXv : v.ownBlock ≠ some X) :
  Calls Tryz.prog 163 #[v, .func (.func 164) #[] #[.pointer (some ⟨X, 0, none⟩)]] w fun e w' => ∃ v', e = .returned v' ∧ OwnI base w' v' (compQ xs xs.length) ∧ w.grownBy w' v.ownBlock ∧ v'.ownBlock = v.ownBlock := by
 obtain ⟨ao, cap, rfl⟩ := hown.shape
 obtain ⟨n, hn⟩ : ∃ n, n = xs.length := ⟨_, rfl⟩
 rw [<- hn] at hl hXv ⊢
 have hown' : w.ownsRow base 2 1 (.slice ao n cap) n (xs.map (Value.int .i64)) := by rw [hn]; exact hown
 have HO := hid hown'
 have HN := hid hn
 by_cases h2 : n < 2
 ·have h2i : (n : Int) < 2 := by omega
  have HE := hid (show compQ xs n = xs from by
   rw [hn]
   match xs, hn with
   | [], _ => rfl
   | [a], _ => rfl
   | a :: b :: r, hn => simp at hn; omega)
  clear hown hown' hn
  go_enter Tryz.func163, Tryz.ntmps163
  go_wp2_with fail
  go_ret
  refine ⟨_, rfl, ?_, World.grownBy.refl _ _, rfl⟩
  rw [HE.out]
  exact OwnI.of HO.out
 ·have h2i : ¬ (n : Int) < 2 := by omega
  obtain ⟨g, rfl⟩ : ∃ g, ao = some ⟨g, 0, none⟩ := by
   rcases hown'.2 with ⟨_, h0⟩ | ⟨g, c, cur, h1, _⟩
   ·omega
   ·simp only [Value.slice.injEq] at h1; exact ⟨g, h1.1⟩
  have hXg : X ≠ g := fun e => hXv (by rw [e]; rfl)
  have hnc : n <= cap := by obtain ⟨_, _, h, _⟩ := zCo hown'; exact h
  have hgb : base <= g := zAg hown' g rfl
  have HXC := hid (show ∀ w', w.grownBy w' (some g) -> w'.cell? ⟨X, 2, none⟩ = some (.func (.func 153) #[] #[]) from fun w' hg => (zAv ((hg.block X (Array.getElem?_eq_some_iff.1 hX).1 (fun e => hXg (Option.some.inj e))).trans hX)).2.2.1)
  clear hown hown' hn hX hXv
  go_enter Tryz.func163, Tryz.ntmps163
  go_wp2_with fail
  go_loopw [5] (fun k wr => ∃ q : Nat, 1 <= q ∧ q <= n ∧ k = .int .i64 (q : Int) ∧ compQ xs q = xs.take q ∧ ∃ d, wr = w.drewN d) (fun k _ => n - (intOf k).toNat)
  case atStart => exact ⟨1, Qb _, by omega, rfl, (by
   obtain ⟨z, hz⟩ : ∃ z, xs[0]? = some z := ⟨_, Qd (by rw [<- HN.out]; omega)⟩
   rw [zCr hz (.inl rfl), Qj, hz]
   rfl), 0, rfl⟩
  case round =>
   obtain ⟨q, hq1, hq, rfl, hcq, d, hwr⟩ := hrel
   have HCQ := hid hcq
   have HGR := hid (show w.grownBy wr (some g) from by rw [hwr]; exact zA2 _ _ _)
   have HOR := hid (show wr.ownsRow base 2 1 (.slice (some ⟨g, 0, none⟩) n cap) n (xs.map (Value.int .i64)) from by rw [hwr]; exact HO.out)
   have HWR := hid hwr
   clear hcq hwr
   by_cases hlt : q < n
   ·have hlti : (q : Int) < (n : Int) := by omega
    have hq0 : (0 : Int) <= (q : Int) := by omega
    have hqm : IntKind.i64.wrap ((q : Int) - 1) = ((q - 1 : Nat) : Int) := by rw [Qs _ (by omega)]; omega
    have hqm2 : (((q - 1 : Nat) : Int)).toNat = q - 1 := by omega
    have hqm3 : (0 : Int) <= ((q - 1 : Nat) : Int) := by omega
    have hqm4 : ((q - 1 : Nat) : Int) < (n : Int) := by omega
    have hqm5 : (q : Int) - 1 = ((q - 1 : Nat) : Int) := by omega
    have hzq := getD_at (l := xs) (q := q) (by rw [<- HN.out]; exact hlt)
    have hyq := getD_at (l := xs) (q := q - 1) (by rw [<- HN.out]; omega)
    obtain ⟨z, hz⟩ : ∃ z, z = xs.getD q 0 := ⟨_, rfl⟩
    obtain ⟨y, hy⟩ : ∃ y, y = xs.getD (q - 1) 0 := ⟨_, rfl⟩
    rw [<- hz] at hzq
    rw [<- hy] at hyq
    have hx1 : wr.cell? ⟨g, q, none⟩ = some (.int .i64 z) := by rw [HOR.out.cellAt q (by omega), Qn, hzq]; rfl
    have hx2 : wr.cell? ⟨g, q - 1, none⟩ = some (.int .i64 y) := by rw [HOR.out.cellAt (q - 1) (by omega), Qn, hyq]; rfl
    have cx := HXC.out wr HGR.out
    have HDC := hid fun nq => zFz X z y (wr.drewN nq) cx
    have HZ := hid hzq
    have HY := hid hyq
    clear hz hy hzq hyq
    by_cases hzy : z = y
    ·subst hzy
     have hd1 : decide (z = z) = true := by simp
     rw [hd1] at HDC
     go_upto_region 6 with (fail)
     go_quiet ((go_at_call 164; exact Calls.quiet_of_same (HDC.out _)))
     have hcq1 : ¬ (cap = q) := by omega
     have hcq2 : (cap == q) = false := by rw [beq_eq_false_iff_ne]; exact hcq1
     have HGR1 := hid (show w.grownBy (wr.drewN nq) (some g) from zAc HGR.out (zA2 _ _ _))
     have HOR1 := hid (show (wr.drewN nq).ownsRow base 2 1 (.slice (some ⟨g, 0, none⟩) n cap) n (xs.map (Value.int .i64)) from HOR.out)
     have HC1 := hid (show compQ xs (q + 1) = xs.take q from by rw [zCw HZ.out (by omega) HY.out, HCQ.out])
     have hql := Nat.le_of_lt hlt
     have hqi : (q : Int) <= (n : Int) := by omega
     clear hx1 hx2 cx HDC hd1 HGR HOR HWR
     obtain ⟨W3, hW3⟩ := zEm HGR1.out
     rw [<- hW3] at HGR1 HOR1 ⊢
     clear hW3
     go_wp2_with fail
     go_loopw [5, 7] (fun k k2 wr => ∃ (K J : Nat) (ys : List Int), 1 <= J ∧ q + J <= n ∧ k = .int .i64 (K : Int) ∧ k2 = .int .i64 (J : Int) ∧ K + 1 <= q + J ∧ ys.length = n ∧ ys.take K = compQ xs (q + J) ∧ (∀ j, q + J <= j + 1 -> ys[j]? = xs[j]?) ∧ wr.ownsRow base 2 1 (.slice (some ⟨g, 0, none⟩) n cap) n (ys.map (Value.int .i64)) ∧ w.grownBy wr (some g)) (fun _ k2 _ => n - (intOf k2).toNat)
     case atStart => exact ⟨q, 1, xs, Qb _, by omega, rfl, rfl, Qb _, HN.out.symm, HC1.out.symm, (fun j _ => rfl), HOR1.out, HGR1.out⟩
     case round =>
      obtain ⟨K, J, ys, hJ1, hJn, rfl, rfl, hKJ, hyl, hyt, hyj, hown3, hgr3⟩ := hrel
      have HYL := hid hyl
      have HYT := hid hyt
      have HYJ := hid hyj
      have HO3 := hid hown3
      have HG3 := hid hgr3
      clear hyl hyt hyj hown3 hgr3
      by_cases hlt2 : J < n - q
      ·have hsub : (((n - q : Nat)) : Int) = (n : Int) - (q : Int) := by omega
       have hlt2i : (J : Int) < ((n - q : Nat) : Int) := by omega
       have hJ0 : (0 : Int) <= (J : Int) := by omega
       have hJm : IntKind.i64.wrap ((J : Int) - 1) = ((J - 1 : Nat) : Int) := by rw [Qs _ (by omega)]; omega
       have hJm2 : (((J - 1 : Nat) : Int)).toNat = J - 1 := by omega
       have hJm3 : (0 : Int) <= ((J - 1 : Nat) : Int) := by omega
       have hJm4 : ((J - 1 : Nat) : Int) < ((n - q : Nat) : Int) := by omega
       have hJm5 : (J : Int) - 1 = ((J - 1 : Nat) : Int) := by omega
       have hK0 : (0 : Int) <= (K : Int) := by omega
       have hKn : (K : Int) < (n : Int) := by omega
       have hz1 := getD_at (l := xs) (q := q + J) (by rw [<- HN.out]; omega)
       have hy1 := getD_at (l := xs) (q := q + J - 1) (by rw [<- HN.out]; omega)
       obtain ⟨z1, hz1e⟩ : ∃ z1, z1 = xs.getD (q + J) 0 := ⟨_, rfl⟩
       obtain ⟨y1, hy1e⟩ : ∃ y1, y1 = xs.getD (q + J - 1) 0 := ⟨_, rfl⟩
       rw [<- hz1e] at hz1
       rw [<- hy1e] at hy1
       have hx1 : wr.cell? ⟨g, q + J, none⟩ = some (.int .i64 z1) := by rw [HO3.out.cellAt (q + J) (by omega), Qn, HYJ.out _ (by omega), hz1]; rfl
       have hx2 : wr.cell? ⟨g, q + (J - 1), none⟩ = some (.int .i64 y1) := by rw [HO3.out.cellAt (q + (J - 1)) (by omega), Qn, HYJ.out _ (by omega), show q + (J - 1) = q + J - 1 by omega, hy1]; rfl
       have cx := HXC.out wr HG3.out
       have HDC := hid fun nq => zFz X z1 y1 (wr.drewN nq) cx
       have HZ1 := hid hz1
       have HY1 := hid hy1
       clear hz1e hy1e hz1 hy1
       by_cases hzy1 : z1 = y1
       ·subst hzy1
        have hd1 : decide (z1 = z1) = true := by simp
        rw [hd1] at HDC
        go_upto_region 11 with (fail)
        go_quiet ((go_at_call 164; exact Calls.quiet_of_same (HDC.out _)))
        go_wp2_with fail
        go_roundw
        case rel => exact ⟨K, J + 1, ys, by omega, by omega, rfl, by go_num, by omega, HYL.out, (by rw [<- Je, zCw HZ1.out (by omega) HY1.out]; exact HYT.out), (fun j hj => HYJ.out j (by omega)), HO3.out, zAc HG3.out (zA2 _ _ _)⟩
        case measure => simp [intOf]; omega
       ·have hd1 : decide (z1 = y1) = false := decide_eq_false hzy1
        rw [hd1] at HDC
        have hcK : ∃ u, wr.cell? ⟨g, K, none⟩ = some u := by
         rw [HO3.out.cellAt K (by omega)]
         exact ⟨_, Qd (by rw [Qa, HYL.out]; omega)⟩
        obtain ⟨uK, hcK2⟩ := hcK
        have hfK := HO3.out.frozenAt K
        have hst := fun nq => World.ownsRow.stored (show (wr.drewN nq).ownsRow base 2 1 (.slice (some ⟨g, 0, none⟩) n cap) n (ys.map (Value.int .i64)) from HO3.out) K (.int .i64 z1)
        have HST := hid hst
        clear hst
        go_upto_region 11 with (fail)
        go_quiet ((go_at_call 164; exact Calls.quiet_of_same (HDC.out _)))
        go_wp2_with fail
        go_roundw
        case rel =>
         have hkl : K < ys.length := by rw [HYL.out]; omega
         refine ⟨K + 1, J + 1, ys.set K z1, by omega, by omega, by go_num, by go_num, by omega, by rw [List.length_set]; exact HYL.out, ?_, fun j hj => ?_, ?_, ?_⟩
         ·rw [<- Je, zCr HZ1.out (.inr (by rw [HY1.out]; intro h; exact hzy1 (Option.some.inj h).symm)), <- HYT.out, Qj, List.take_set, Jf, if_pos rfl, if_pos hkl, List.set_eq_of_length_le (by rw [Qi]; omega)]
          rfl
         ·rw [Jf, if_neg (by omega)]
          exact HYJ.out j (by omega)
         ·rw [Qq]
          exact (HST.out _).1
         ·exact zAc HG3.out (zAc (zA2 _ _ _) (HST.out _).2)
        case measure => simp [intOf]; omega
      ·have hJq : q + J = n := by omega
       have hsub : (((n - q : Nat)) : Int) = (n : Int) - (q : Int) := by omega
       have hlt2i : ¬ (J : Int) < ((n - q : Nat) : Int) := by omega
       have hK0 : (0 : Int) <= (K : Int) := by omega
       have hKn : (K : Int) <= (n : Int) := by omega
       have hKn2 : K < n := by omega
       have hcK1 : ¬ (cap = K) := by omega
       have hcK2 : (cap == K) = false := by rw [beq_eq_false_iff_ne]; exact hcK1
       have hKc : K <= cap := by omega
       have hKci : (K : Int) <= (cap : Int) := by omega
       obtain ⟨wc, hcl, hoc, hgc⟩ := zN2 (zK9 HO3.out K (by omega)) HG3.out (n - K) (cap - K) (by omega) (by omega)
       rw [Qg, <- List.map_take, HYT.out, hJq] at hoc
       have HOC := hid (OwnI.of hoc)
       have HGC := hid hgc
       have HKL := hid (show (compQ xs n).length = K from by rw [<- hJq, <- HYT.out, Qi, HYL.out]; omega)
       clear hoc hgc
       go_wp2_with fail
       go_ret
       exact ⟨_, rfl, HOC.out, HGC.out, rfl⟩
    ·have hd1 : decide (z = y) = false := decide_eq_false hzy
     rw [hd1] at HDC
     go_upto_region 6 with (fail)
     go_quiet ((go_at_call 164; exact Calls.quiet_of_same (HDC.out _)))
     go_wp2_with fail
     go_roundw
     case rel =>
      refine ⟨q + 1, by omega, by omega, by go_num, ?_, d + nq, by rw [HWR.out, World.drewN_drewN]⟩
      rw [zCr HZ.out (.inr (by rw [HY.out]; intro h; exact hzy (Option.some.inj h).symm)), HCQ.out, Qj, HZ.out]
      rfl
     case measure => simp [intOf]; omega
   ·have hqn : q = n := by omega
    subst hqn
    have hlti : ¬ (q : Int) < (q : Int) := by omega
    have HE := hid (show compQ xs q = xs from by rw [HCQ.out, HN.out, Jd])
    go_wp2_with fail
    go_ret
    refine ⟨_, rfl, ?_, HGR.out, rfl⟩
    rw [HE.out]
    exact OwnI.of HOR.out
end Go.Proofs.YtmpgnjhgegbdkaaGreat
