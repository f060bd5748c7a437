import Derived.Test.YtmpgnjhgegbdkaaGreatProg
import Derived.Shelf.Strconv.Itoa0
import Derived.Test.YtmpgnjhgegbdkaaGreatAt
import Derived.Laws.IdiomStrings
import Derived.Lib.BufferRead
import Derived.Test.YtmpgnjhgegbdkaaGreatUnpack
import Derived.Test.YtmpgnjhgegbdkaaGreatReadg
import Derived.Test.YtmpgnjhgegbdkaaGreatZig
import Derived.Test.YtmpgnjhgegbdkaaGreatLone
import Derived.Lib.SlBytesConst
set_option linter.unusedVariables false
set_option maxHeartbeats 400000
namespace Go.Proofs
open Go.Shelf
def Tryz.lays129_ren : Go.Shelf.Ren := ⟨fun | 129 => 192 | n => n, fun | 53 => 105 | 3 => 3 | 4 => 4 | 46 => 32 | 5 => 5 | 9 => 9 | n => n, fun | n => n⟩
theorem Tryz.lays129 : Go.Proofs.Lays.n129 Tryz.prog Tryz.lays129_ren := {
 mixed := by kernel_rfl
 f129 := Tryz.func192.trans (congrArg some (by kernel_rfl))
 t3 := Tryz.underlying3
 a3 := Tryz.isAgg3
 z3 := Tryz.sizeOf3
 v3 := Tryz.zeroValue3
 t4 := Tryz.underlying4
 a4 := Tryz.isAgg4
 z4 := Tryz.sizeOf4
 v4 := Tryz.zeroValue4
 t5 := Tryz.underlying5
 a5 := Tryz.isAgg5
 z5 := Tryz.sizeOf5
 v5 := Tryz.zeroValue5
 t9 := Tryz.underlying9
 a9 := Tryz.isAgg9
 z9 := Tryz.sizeOf9
 v9 := Tryz.zeroValue9
 t46 := Tryz.underlying32
 a46 := Tryz.isAgg32
 z46 := Tryz.sizeOf32
 v46 := Tryz.zeroValue32
 t53 := Tryz.underlying105
 a53 := Tryz.isAgg105
 z53 := Tryz.sizeOf105
 v53 := Tryz.zeroValue105 }
theorem Tryz.bits_Len64 (x : Int) (w : World) (h0 : 0 <= x) (h1 : x <= 18446744073709551615) :
  Calls Tryz.prog 192 #[.int .u64 x] w fun e w' => e = .returned (.int .i64 (Lib.bitLen x.toNat)) ∧ w' = w := Any.bits_Len64 Tryz.lays129 x w h0 h1
end Go.Proofs
namespace Go.Proofs.YtmpgnjhgegbdkaaGreat
open Go.RowKit
open _root_.List renaming length_map -> Qa, getD_eq_getElem?_getD -> Qb, getElem?_eq_getElem -> Qc, getElem_mem -> Qd, getElem?_eq_none -> Qe, length_cons -> Qf, length_append -> Qg, mem_append -> Qh
theorem zGu (u : Nat) (w : World) (hu : u < 18446744073709551616) :
  Calls Tryz.prog 159 #[.int .u64 u] w fun e w' => e = .returned (.int .i64 (Lib.bitLen u : Nat)) ∧ w = w' := by
 have h1 : (0 : Int) <= (u : Int) := by omega
 have h2 : (u : Int) <= 18446744073709551615 := by omega
 go_enter Tryz.func159, Tryz.ntmps159
 go_wp2_with (go_at_call 192; refine (Tryz.bits_Len64 _ _ h1 h2).mono ?_; rw [Int.toNat_natCast]; rintro e w' ⟨rfl, rfl⟩)
 go_ret
 exact ⟨rfl, rfl⟩
theorem zRt (l : List Nat) (h : ∀ x ∈ l, x < 256) (i : Nat) : l.getD i 0 < 256 := by
 rw [Qb]
 by_cases hi : i < l.length
 ·rw [Qc hi]; exact h _ (Qd hi)
 ·rw [Qe (by omega)]; decide
theorem lt64 (l : List Nat) (h : ∀ x ∈ l, x < 18446744073709551616) (i : Nat) : l.getD i 0 < 18446744073709551616 := by
 rw [Qb]
 by_cases hi : i < l.length
 ·rw [Qc hi]; exact h _ (Qd hi)
 ·rw [Qe (by omega)]; decide
theorem zQo {n : Int} {v : Value} {us bs : List Nat} {w : World} (hr : Rd w v (us.map u64v)) (h64 : ∀ x ∈ us, x < 18446744073709551616) (hl : us.length <= 17592186044416) (hb : packB (heldN n) us = bs) :
  Calls Tryz.prog 97 #[.int .i64 n, v] w (RetOwn w.heap.size 5 (bs.map u8v) w) := by
 have hr' := hr
 obtain ⟨ao, cap, rfl, _⟩ := hr
 rw [Qa] at hr' ⊢
 rw [<- hb]
 exact zF7 n ao us.length cap us w hr' (lt64 us h64) hl
theorem zNm {n c : Int} {v : Value} {us bs : List Nat} {w : World} (hr : Rd w v (bs.map u8v)) (h256 : ∀ x ∈ bs, x < 256) (hl : bs.length <= 17592186044416) (h0 : 0 <= c) (hb : unpackB bs n c = some us) :
  Calls Tryz.prog 135 #[v, .int .i64 n, .int .i64 c] w (RetOwn2 w.heap.size 105 (us.map u64v) true w) := by
 have hr' := hr
 obtain ⟨ao, cap, rfl, _⟩ := hr
 obtain ⟨C, rfl⟩ := Int.eq_ofNat_of_zero_le h0
 rw [Qa] at hr' ⊢
 exact zEc n C ao bs.length cap bs us w hr' (zRt bs h256) hl hb
theorem zKf {n c : Int} {v : Value} {bs : List Nat} {w : World} (hr : Rd w v (bs.map u8v)) (h256 : ∀ x ∈ bs, x < 256) (hl : bs.length <= 17592186044416) (hb : unpackB bs n c = none) :
  Calls Tryz.prog 135 #[v, .int .i64 n, .int .i64 c] w fun e w' => e = .returned (.tuple #[.slice none 0 0, .bool false]) ∧ Below w.heap.size w w' := by
 have hr' := hr
 obtain ⟨ao, cap, rfl, _⟩ := hr
 rw [Qa] at hr' ⊢
 exact (zE2 n c ao bs.length cap bs w hr' (zRt bs h256) hl hb).mono fun e w' ⟨he, k, hk⟩ => ⟨he, by rw [hk]; exact zB8 _ _ k⟩
theorem zKz (i : Nat) : 2 ^ (7 * (i + 1)) = 128 * 2 ^ (7 * i) := by rw [Nat.mul_add, Nat.pow_add]; omega
theorem zIn (u i : Nat) : u % 128 * 2 ^ (7 * i) + u / 128 * 2 ^ (7 * (i + 1)) = u * 2 ^ (7 * i) := by
 rw [zKz, <- Nat.mul_assoc, <- Nat.add_mul]
 congr 1
 omega
theorem zM1 (u : Nat) (h : u * 2 ^ (7 * 9) < 18446744073709551616) : u <= 1 := by
 have e : (2 : Nat) ^ (7 * 9) = 9223372036854775808 := by decide +kernel
 rw [e] at h
 omega
theorem zJi : ∀ (f i U u : Nat) (rest : List Nat), i + f = 9 -> (i = 0 ∨ 0 < u) -> u * 2 ^ (7 * i) < 18446744073709551616 ->
  nextF i U (numF f u ++ rest) = some (U + u * 2 ^ (7 * i), i + (numF f u).length)
 | f, i, U, u, rest, hf, h0, hu => by
  by_cases hs : u < 128
  ·rw [zIl f u hs, List.singleton_append, nextF]
   have h9 : ¬(i = 9 ∧ 1 < u) := by
    rintro ⟨rfl, h1⟩
    have := zM1 u hu
    omega
   rw [if_neg h9, if_neg (by omega), if_neg (by omega), Nat.mod_eq_of_lt hs]
   rfl
  ·cases f with
   | zero =>
    obtain rfl : i = 9 := by omega
    have := zM1 u hu
    omega
   | succ g =>
    have hq : u / 128 * 2 ^ (7 * (i + 1)) < 18446744073709551616 := by
     have := zIn u i
     omega
    rw [zKo g u hs, List.cons_append, nextF, if_neg (by omega), if_pos (by omega)]
    have hm : (u % 128 + 128) % 128 = u % 128 := by omega
    rw [hm, zJi g (i + 1) _ (u / 128) rest (by omega) (.inr (by omega)) hq, Qf, Nat.add_assoc, zIn]
    congr 2
    omega
theorem zGv (u : Nat) (rest : List Nat) (hu : u < 18446744073709551616) : nextC (numC u ++ rest) = some (u, (numC u).length) := by
 unfold nextC numC
 rw [zJi 9 0 0 u rest rfl (.inl rfl) (by simpa using hu)]
 simp
def rowsC (raw : List Nat) : List Nat -> List Nat
 | [] => [7]
 | u :: r => numC u ++ (bytesC raw ++ rowsC raw r)
def rowsD (raw : List Nat) : List Nat -> List Nat
 | [] => []
 | u :: r => (numC u ++ bytesC raw) ++ rowsD raw r
theorem zJj (raw : List Nat) : ∀ l : List Nat, rowsD raw l ++ [7] = rowsC raw l
 | [] => rfl
 | u :: l => by rw [rowsD, rowsC, <- zJj raw l]; simp
theorem zH1 (u : Nat) : (numC u).length <= 10 ∧ 0 < (numC u).length := zA5 9 u
theorem zJk (raw : List Nat) : ∀ l : List Nat, (rowsD raw l).length <= l.length * (20 + raw.length)
 | [] => by simp [rowsD]
 | u :: l => by
  have := zJk raw l
  have h1 := (zH1 u).1
  have h2 := (zH1 raw.length).1
  simp only [rowsD, bytesC, Qg, Qf, Nat.succ_mul]
  omega
theorem zK0 (raw : List Nat) (hr : ∀ x ∈ raw, x < 256) (hl : raw.length < 18446744073709551616) : ∀ l : List Nat, (∀ u ∈ l, u < 18446744073709551616) -> ∀ x ∈ rowsC raw l, x < 256
 | [], _, x, hx => by simp [rowsC] at hx; omega
 | u :: l, h, x, hx => by
  simp only [rowsC, bytesC, Qh] at hx
  rcases hx with hx | (hx | hx) | hx
  ·exact zCt u (h u List.mem_cons_self) x hx
  ·exact zCt _ hl x hx
  ·exact hr x hx
  ·exact zK0 raw hr hl l (fun v hv => h v (List.mem_cons_of_mem _ hv)) x hx
theorem zO1 (raw : List Nat) (l : List Nat) : (rowsC raw l).length <= l.length * (20 + raw.length) + 1 := by
 rw [<- zJj raw l, Qg]
 have := zJk raw l
 simp
 omega
theorem zO2 (raw : List Nat) (hr : ∀ x ∈ raw, x < 256) (hl : raw.length < 18446744073709551616) : ∀ x ∈ bytesC raw, x < 256 := by
 intro x hx
 unfold bytesC at hx
 rw [Qh] at hx
 rcases hx with hx | hx
 ·exact zCt _ hl x hx
 ·exact hr x hx
structure RowsOk (raw l : List Nat) : Prop where
 raw100 : raw.length <= 100
 l20 : l.length <= 20
 raw256 : ∀ x ∈ raw, x < 256
 l64 : ∀ u ∈ l, u < 18446744073709551616
theorem RowsOk.len {raw l : List Nat} (h : RowsOk raw l) : (rowsC raw l).length <= 2401 := by
 have h1 := zO1 raw l
 have h2 : l.length * (20 + raw.length) <= 20 * 120 := Nat.mul_le_mul h.l20 (by have := h.raw100; omega)
 omega
theorem RowsOk.lt {raw l : List Nat} (h : RowsOk raw l) : ∀ x ∈ rowsC raw l, x < 256 :=
 zK0 raw h.raw256 (by have := h.raw100; omega) l h.l64
end Go.Proofs.YtmpgnjhgegbdkaaGreat
