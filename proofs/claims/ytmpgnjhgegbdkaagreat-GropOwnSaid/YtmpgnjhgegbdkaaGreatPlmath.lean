import Derived.Laws.ShiftsVarLaws
import Derived.Below
import Derived.Laws.Bits64
import Derived.Lib.BitFns
set_option linter.unusedVariables false
namespace Go.Proofs.YtmpgnjhgegbdkaaGreat
open _root_.Nat renaming mod_lt -> Qa, pow_succ -> Qb, mul_comm -> Qd, two_pow_pos -> Qe, pow_le_pow_right -> Qh, pow_add -> Qi, add_comm -> Qj, mul_lt_mul_of_pos_right -> Qk, testBit_mod_two_pow -> Ql, eq_of_testBit_eq -> Qm, lt_of_lt_of_le -> Qn, mul_succ -> Qo, mod_eq_of_lt -> Qp, div_div_eq_div_mul -> Qq, add_assoc -> Qr, mul_assoc -> Qs, lt_of_le_of_lt -> Qt, div_le_self -> Qu, testBit_lt_two_pow -> Ja, mul_add_div -> Jd, div_eq_of_lt -> Je, mul_add_mod -> Jf, or_comm -> Jg
open _root_.List renaming getD_eq_getElem?_getD -> Qc, getElem?_eq_none -> Qf, getElem?_eq_getElem -> Qg, range -> Qw, getElem?_map -> Qx, getElem?_range -> Qy, ext_getElem? -> Qz, replicate -> Jb, getElem?_replicate -> Jc
open _root_.Bool renaming toNat_lt -> Qv, true_and -> Jh
def bitN (bs : List Nat) (p : Nat) : Nat := bs.getD (p / 8) 0 / 2 ^ (7 - p % 8) % 2
def numB (bs : List Nat) (p : Nat) : Nat -> Nat
 | 0 => 0
 | n + 1 => 2 * numB bs p n + bitN bs (p + n)
theorem zRw (bs : List Nat) (p : Nat) : bitN bs p < 2 := Qa _ (by decide)
theorem zIz (bs : List Nat) (p n : Nat) : numB bs p n < 2 ^ n := by
 induction n with
 | zero => simp [numB]
 | succ n ih => have := zRw bs (p + n); rw [numB, Qb]; omega
theorem zOs (bs : List Nat) (p t : Nat) (h : p % 8 + t <= 8) : numB bs p t = bs.getD (p / 8) 0 / 2 ^ (8 - p % 8 - t) % 2 ^ t := by
 induction t with
 | zero => simp [numB, Nat.mod_one]
 | succ t ih =>
  rw [numB, ih (by omega), bitN]
  have e1 : (p + t) / 8 = p / 8 := by omega
  have e2 : 7 - (p + t) % 8 = 8 - p % 8 - (t + 1) := by omega
  rw [e1, e2]
  have e3 : 8 - p % 8 - t = (8 - p % 8 - (t + 1)) + 1 := by omega
  rw [e3]
  generalize bs.getD (p / 8) 0 = x
  generalize 8 - p % 8 - (t + 1) = s
  have e4 : x / 2 ^ (s + 1) = x / 2 ^ s / 2 := by rw [Qb, Qq]
  rw [e4]
  generalize x / 2 ^ s = y
  rw [Qb, Qd (2 ^ t) 2, Nat.mod_mul]
  omega
theorem zQf (bs : List Nat) (p m t : Nat) : numB bs p (m + t) = numB bs p m * 2 ^ t + numB bs (p + m) t := by
 induction t with
 | zero => simp [numB]
 | succ t ih =>
  rw [<- Qr, numB, ih, numB, Qb, Qr]
  rw [Nat.mul_add, <- Qs]
  have : 2 * numB bs p m * 2 ^ t = numB bs p m * (2 ^ t * 2) := by rw [Qd 2, Qs, Qd 2]
  omega
theorem zQg (n : Nat) : (2 : Int) ^ n = ((2 ^ n : Nat) : Int) := by simp
theorem zQh (x n : Nat) : (x : Int) / 2 ^ n = ((x / 2 ^ n : Nat) : Int) := by simp
theorem zQi (x t : Nat) (ht : t <= 8) : x &&& (255 / 2 ^ (8 - t)) = x % 2 ^ t := by
 have : 255 / 2 ^ (8 - t) = 2 ^ t - 1 := by
  have h : t = 0 ∨ t = 1 ∨ t = 2 ∨ t = 3 ∨ t = 4 ∨ t = 5 ∨ t = 6 ∨ t = 7 ∨ t = 8 := by omega
  rcases h with rfl | rfl | rfl | rfl | rfl | rfl | rfl | rfl | rfl <;> decide
 rw [this, Nat.and_two_pow_sub_one_eq_mod]
theorem zKl (x t : Nat) (ht : t <= 8) (hx : x < 256) : bits .and .u8 (x : Int) (255 / 2 ^ (8 - t)) = ((x % 2 ^ t : Nat) : Int) := by
 have e : (255 : Int) / 2 ^ (8 - t) = ((255 / 2 ^ (8 - t) : Nat) : Int) := by simp
 have hb : 255 / 2 ^ (8 - t) < 256 := Qt (Qu _ _) (by decide)
 rw [e, u8_and_nat _ _ hx hb, zQi x t ht]
theorem zL9 (a b t : Nat) (hb : b < 2 ^ t) (ha : a * 2 ^ t < 18446744073709551616) (h64 : b < 18446744073709551616) :
  bits .or .u64 ((a : Int) * 2 ^ t) (b : Int) = ((a * 2 ^ t + b : Nat) : Int) := by
 have e : (a : Int) * 2 ^ t = ((a * 2 ^ t : Nat) : Int) := by simp
 rw [e, u64_or_nat _ _ ha h64]
 rw [nat_join t (a * 2 ^ t) b (Nat.mul_mod_left a (2 ^ t)) hb]
theorem wrap_small (n : Nat) (h : n < 18446744073709551616) : IntKind.u64.wrap (n : Int) = (n : Int) := by
 rw [IntKind.wrap_u64]; omega
theorem zKm (U x s t m : Nat) (hU : U < 2 ^ m) (hmt : m + t <= 64) (ht : t <= 8) (hx : x < 256) :
  bits .or .u64 (IntKind.u64.wrap ((U : Int) * 2 ^ t)) (IntKind.u64.wrap (bits .and .u8 ((x : Int) / 2 ^ s) (255 / 2 ^ (8 - t)))) = ((U * 2 ^ t + x / 2 ^ s % 2 ^ t : Nat) : Int) := by
 have h1 : U * 2 ^ t < 2 ^ (m + t) := by rw [Qi]; exact Qk hU (Qe t)
 have h2 : (2 : Nat) ^ (m + t) <= 2 ^ 64 := Qh (by decide) hmt
 have h3 : (2 : Nat) ^ 64 = 18446744073709551616 := by decide
 have h4 : U * 2 ^ t < 18446744073709551616 := by omega
 have h5 : x / 2 ^ s % 2 ^ t < 2 ^ t := Qa _ (Qe t)
 have h6 : (2 : Nat) ^ t <= 2 ^ 8 := Qh (by decide) ht
 have h8 : (2 : Nat) ^ 8 = 256 := by decide
 have h7 : x / 2 ^ s < 256 := Qt (Qu _ _) hx
 have e1 : (U : Int) * 2 ^ t = ((U * 2 ^ t : Nat) : Int) := by simp
 rw [zQh, zKl _ t ht h7, wrap_small _ (by omega), e1, wrap_small _ h4, <- e1]
 exact zL9 _ _ _ h5 h4 (by omega)
theorem zJf (bs : List Nat) (p m t : Nat) (h : (p + m) % 8 + t <= 8) :
  numB bs p (m + t) = numB bs p m * 2 ^ t + bs.getD ((p + m) / 8) 0 / 2 ^ (8 - (p + m) % 8 - t) % 2 ^ t := by
 rw [zQf, zOs bs (p + m) t h]
def bitB (bs : List Nat) (p : Nat) : Bool := (bs.getD (p / 8) 0).testBit (7 - p % 8)
theorem zOt (bs : List Nat) (p : Nat) : bitN bs p = (bitB bs p).toNat := by
 unfold bitN bitB
 rw [Nat.testBit_eq_decide_div_mod_eq]
 have h : bs.getD (p / 8) 0 / 2 ^ (7 - p % 8) % 2 < 2 := Qa _ (by decide)
 by_cases h1 : bs.getD (p / 8) 0 / 2 ^ (7 - p % 8) % 2 = 1
 ·rw [h1]; rfl
 ·have h0 : bs.getD (p / 8) 0 / 2 ^ (7 - p % 8) % 2 = 0 := by omega
  rw [h0]; rfl
theorem zOu (bs : List Nat) (p n k : Nat) : (numB bs p n).testBit k = (decide (k < n) && bitB bs (p + (n - 1 - k))) := by
 induction n generalizing k with
 | zero => simp [numB]
 | succ n ih =>
  rw [numB, zOt]
  cases k with
  | zero =>
   simp only [Nat.testBit_zero]
   cases h : bitB bs (p + n) <;> simp [h]
  | succ k =>
   rw [Nat.testBit_succ]
   have e : (2 * numB bs p n + (bitB bs (p + n)).toNat) / 2 = numB bs p n := by
    have := Qv (bitB bs (p + n)); omega
   rw [e, ih]
   have e2 : n + 1 - 1 - (k + 1) = n - 1 - k := by omega
   rw [e2]
   simp
theorem zQj (x u n t q c : Nat) (hx : ∀ k, k < 8 - q -> x.testBit k = false) (hq : q < 8) (ht : t <= 8 - q) (_hn : t <= n) (_hc : c < 8) :
  (x ||| u / 2 ^ (n - t) % 2 ^ t * 2 ^ (8 - q - t)).testBit c =
   if 8 - q <= c then x.testBit c else if 8 - q - t <= c then u.testBit (n - t + (c - (8 - q - t))) else false := by
 rw [Nat.testBit_or, <- Nat.shiftLeft_eq, Nat.testBit_shiftLeft, Ql, Nat.testBit_div_two_pow]
 by_cases h1 : 8 - q <= c
 ·rw [if_pos h1]
  have : ¬ c - (8 - q - t) < t := by omega
  simp [this]
 ·rw [if_neg h1, hx c (by omega)]
  by_cases h2 : 8 - q - t <= c
  ·have : c - (8 - q - t) < t := by omega
   simp [h2, this, Qj]
  ·simp [h2]
theorem zMz (x u s t e : Nat) (hx : x < 256) (het : e + t <= 8) :
  bits .or .u8 (x : Int) (bits .and .u8 ((u : Int) / 2 ^ s % 256) (255 / 2 ^ (8 - t)) * 2 ^ e % 256) = ((x ||| u / 2 ^ s % 2 ^ t * 2 ^ e : Nat) : Int) := by
 have e1 : (u : Int) / 2 ^ s % 256 = ((u / 2 ^ s % 256 : Nat) : Int) := by simp
 have h1 : u / 2 ^ s % 256 < 256 := Qa _ (by decide)
 rw [e1, zKl _ t (by omega) h1]
 have h2 : u / 2 ^ s % 256 % 2 ^ t = u / 2 ^ s % 2 ^ t := by
  have : (256 : Nat) = 2 ^ t * 2 ^ (8 - t) := by rw [<- Qi, show t + (8 - t) = 8 from by omega]
  rw [this, Nat.mod_mul_right_mod]
 rw [h2]
 have h3 : u / 2 ^ s % 2 ^ t < 2 ^ t := Qa _ (Qe t)
 have h4 : u / 2 ^ s % 2 ^ t * 2 ^ e < 256 := by
  have h5 : u / 2 ^ s % 2 ^ t * 2 ^ e < 2 ^ t * 2 ^ e := Qk h3 (Qe _)
  rw [<- Qi] at h5
  have h6 : (2 : Nat) ^ (t + e) <= 2 ^ 8 := Qh (by decide) (by omega)
  have h7 : (2 : Nat) ^ 8 = 256 := by decide
  omega
 have e2 : ((u / 2 ^ s % 2 ^ t : Nat) : Int) * 2 ^ e % 256 = ((u / 2 ^ s % 2 ^ t * 2 ^ e : Nat) : Int) := by
  rw [zQg, <- Int.natCast_mul]; omega
 rw [e2, u8_or_nat _ _ hx h4]
theorem zQk (x u s t : Nat) (hx : x < 256) (ht : t <= 8) :
  bits .or .u8 (x : Int) (bits .and .u8 ((u : Int) / 2 ^ s % 256) (255 / 2 ^ (8 - t)) % 256) = ((x ||| u / 2 ^ s % 2 ^ t * 2 ^ 0 : Nat) : Int) := by
 have := zMz x u s t 0 hx (by omega)
 rw [Int.pow_zero, Int.mul_one] at this
 exact this
def PutTo (bs0 bs : List Nat) (p n u m : Nat) : Prop :=
 bs.length = bs0.length ∧ (∀ i, bs.getD i 0 < 256) ∧ ∀ q, q < 8 * bs0.length -> bitB bs q = if q < p then bitB bs0 q else if q < p + m then u.testBit (n - 1 - (q - p)) else false
theorem zNf {bs : List Nat} {p n u : Nat} (h256 : ∀ i, bs.getD i 0 < 256) (h0 : ∀ q, p <= q -> bitB bs q = false) : PutTo bs bs p n u 0 := by
 refine ⟨rfl, h256, fun q _ => ?_⟩
 split
 ·rfl
 ·rw [h0 q (by omega)]; simp; intro h; omega
theorem zHz {α : Type} (l : List α) (i j : Nat) (x d : α) : (l.set i x).getD j d = if i = j ∧ i < l.length then x else l.getD j d := by
 simp only [Qc, List.getElem?_set]
 split
 ·rename_i h; subst h
  split
  ·simp [*]
  ·rename_i h; simp [h]
 ·rename_i h; simp [h]
theorem zIj {bs0 bs : List Nat} {p n u m t : Nat} (h : PutTo bs0 bs p n u m) (hm : m + t <= n) (ht : (p + m) % 8 + t <= 8) (hfit : p + n <= 8 * bs0.length) (ht0 : 0 < t) :
  PutTo bs0 (bs.set ((p + m) / 8) (bs.getD ((p + m) / 8) 0 ||| u / 2 ^ (n - m - t) % 2 ^ t * 2 ^ (8 - (p + m) % 8 - t))) p n u (m + t) := by
 obtain ⟨hl, h256, hb⟩ := h
 generalize hP : p + m = P at *
 have hjlt : P / 8 < bs0.length := by omega
 have hx0 : ∀ k, k < 8 - P % 8 -> (bs.getD (P / 8) 0).testBit k = false := by
  intro k hk
  have := hb (P / 8 * 8 + (7 - k)) (by omega)
  unfold bitB at this
  rw [show (P / 8 * 8 + (7 - k)) / 8 = P / 8 from by omega, show 7 - (P / 8 * 8 + (7 - k)) % 8 = k from by omega] at this
  rw [this, if_neg (by omega), if_neg (by omega)]
 have hlow : u / 2 ^ (n - m - t) % 2 ^ t * 2 ^ (8 - P % 8 - t) < 256 := by
  have h1 : u / 2 ^ (n - m - t) % 2 ^ t < 2 ^ t := Qa _ (Qe t)
  have h2 : u / 2 ^ (n - m - t) % 2 ^ t * 2 ^ (8 - P % 8 - t) < 2 ^ t * 2 ^ (8 - P % 8 - t) := Qk h1 (Qe _)
  rw [<- Qi] at h2
  have h3 : (2 : Nat) ^ (t + (8 - P % 8 - t)) <= 2 ^ 8 := Qh (by decide) (by omega)
  have h4 : (2 : Nat) ^ 8 = 256 := by decide
  omega
 refine ⟨by simpa using hl, fun i => ?_, fun q hq => ?_⟩
 ·rw [zHz]
  split
  ·exact Nat.or_lt_two_pow (n := 8) (h256 _) hlow
  ·exact h256 i
 ·by_cases hqj : q / 8 = P / 8
  ·have hpb := zQj (bs.getD (P / 8) 0) u (n - m) t (P % 8) (7 - q % 8) hx0 (by omega) (by omega) (by omega) (by omega)
   show ((bs.set _ _).getD (q / 8) 0).testBit _ = _
   rw [zHz, if_pos ⟨hqj.symm, by omega⟩, hpb]
   by_cases h1 : q < P
   ·rw [if_pos (by omega)]
    have h2 := hb q hq
    unfold bitB at h2
    rw [hqj] at h2
    rw [h2]
    by_cases h3 : q < p
    ·rw [if_pos h3, if_pos h3]; unfold bitB; rw [hqj]
    ·rw [if_neg h3, if_neg h3, if_pos (by omega), if_pos (by omega)]
   ·rw [if_neg (by omega), if_neg (show ¬ q < p by omega)]
    by_cases h2 : q < P + t
    ·rw [if_pos (by omega), if_pos (by omega)]; congr 1; omega
    ·rw [if_neg (by omega), if_neg (by omega)]
  ·show ((bs.set _ _).getD (q / 8) 0).testBit _ = _
   rw [zHz, if_neg (by intro h; omega)]
   have h2 := hb q hq
   unfold bitB at h2
   rw [h2]
   by_cases h3 : q < p
   ·rw [if_pos h3, if_pos h3]; rfl
   ·rw [if_neg h3, if_neg h3]
    by_cases h4 : q < P
    ·rw [if_pos (by omega), if_pos (by omega)]
    ·rw [if_neg (by omega), if_neg (by omega)]
def heldN (n : Int) : Nat := (min (max n 0) 64).toNat
theorem zF3 (n : Int) : heldN n <= 64 := by unfold heldN; omega
def byteOf (f : Nat -> Bool) : Nat :=
 (f 0).toNat * 128 + (f 1).toNat * 64 + (f 2).toNat * 32 + (f 3).toNat * 16 + (f 4).toNat * 8 + (f 5).toNat * 4 + (f 6).toNat * 2 + (f 7).toNat
theorem zOv (f : Nat -> Bool) : byteOf f < 256 := by
 unfold byteOf
 have h := fun k => Qv (f k)
 have := h 0; have := h 1; have := h 2; have := h 3; have := h 4; have := h 5; have := h 6; have := h 7
 omega
theorem zOw : ∀ a b c d e f g h : Bool, ∀ k : Fin 8, (a.toNat * 128 + b.toNat * 64 + c.toNat * 32 + d.toNat * 16 + e.toNat * 8 + f.toNat * 4 + g.toNat * 2 + h.toNat).testBit (7 - k.1) =
  (match k with | 0 => a | 1 => b | 2 => c | 3 => d | 4 => e | 5 => f | 6 => g | 7 => h) := by decide +kernel
theorem zNg (f : Nat -> Bool) (k : Nat) (hk : k < 8) : (byteOf f).testBit (7 - k) = f k := by
 have := zOw (f 0) (f 1) (f 2) (f 3) (f 4) (f 5) (f 6) (f 7) ⟨k, hk⟩
 unfold byteOf
 rw [this]
 have h : k = 0 ∨ k = 1 ∨ k = 2 ∨ k = 3 ∨ k = 4 ∨ k = 5 ∨ k = 6 ∨ k = 7 := by omega
 rcases h with rfl | rfl | rfl | rfl | rfl | rfl | rfl | rfl <;> rfl
def bytesOf (c : Nat) (f : Nat -> Bool) : List Nat := (Qw ((c + 7) / 8)).map fun j => byteOf fun k => decide (8 * j + k < c) && f (8 * j + k)
theorem bytesOf_length (c : Nat) (f : Nat -> Bool) : (bytesOf c f).length = (c + 7) / 8 := by simp [bytesOf]
theorem zGt (c : Nat) (f : Nat -> Bool) (j : Nat) (hj : j < (c + 7) / 8) : (bytesOf c f).getD j 0 = byteOf fun k => decide (8 * j + k < c) && f (8 * j + k) := by
 unfold bytesOf
 rw [Qc, Qx, Qy hj]
 rfl
theorem zIk (c : Nat) (f : Nat -> Bool) (j : Nat) : (bytesOf c f).getD j 0 < 256 := by
 by_cases hj : j < (c + 7) / 8
 ·rw [zGt c f j hj]; exact zOv _
 ·rw [Qc, Qf (by rw [bytesOf_length]; omega)]; decide
theorem zFj (c : Nat) (f : Nat -> Bool) (q : Nat) (hq : q < 8 * ((c + 7) / 8)) : bitB (bytesOf c f) q = (decide (q < c) && f q) := by
 unfold bitB
 rw [zGt c f (q / 8) (by omega), zNg _ _ (by omega)]
 have e : 8 * (q / 8) + q % 8 = q := by omega
 rw [e]
theorem zOx {a b : List Nat} (hl : a.length = b.length) (ha : ∀ i, a.getD i 0 < 256) (hb : ∀ i, b.getD i 0 < 256) (h : ∀ q, q < 8 * a.length -> bitB a q = bitB b q) : a = b := by
 apply Qz ; intro i
 by_cases hi : i < a.length
 ·have key : a.getD i 0 = b.getD i 0 := by
   apply Qm; intro k
   by_cases hk : k < 8
   ·have := h (8 * i + (7 - k)) (by omega)
    unfold bitB at this
    rw [show (8 * i + (7 - k)) / 8 = i from by omega, show 7 - (8 * i + (7 - k)) % 8 = k from by omega] at this
    exact this
   ·have h256 : (2 : Nat) ^ 8 <= 2 ^ k := Qh (by decide) (by omega)
    have e8 : (2 : Nat) ^ 8 = 256 := by decide
    rw [Ja (Qn (ha i) (by omega)), Ja (Qn (hb i) (by omega))]
  rw [Qg hi, Qg (by omega)]
  rw [Qc, Qc, Qg hi, Qg (by omega : i < b.length)] at key
  simpa using key
 ·rw [Qf (by omega), Qf (by omega)]
def packB (n : Nat) (us : List Nat) : List Nat := bytesOf (n * us.length) fun q => (us.getD (q / n) 0).testBit (n - 1 - q % n)
def PackTo (bs us : List Nat) (n k : Nat) : Prop :=
 bs.length = (n * us.length + 7) / 8 ∧ (∀ i, bs.getD i 0 < 256) ∧ ∀ q, q < 8 * bs.length -> bitB bs q = (decide (q < n * k) && (us.getD (q / n) 0).testBit (n - 1 - q % n))
theorem zDp (L i : Nat) : (Jb L 0).getD i 0 = 0 := by
 rw [Qc]
 by_cases h : i < L
 ·rw [Jc, if_pos h]; rfl
 ·rw [Jc, if_neg h]; rfl
theorem zMa (us : List Nat) (n : Nat) : PackTo (Jb ((n * us.length + 7) / 8) 0) us n 0 := by
 refine ⟨by simp, fun i => by rw [zDp]; decide, fun q _ => ?_⟩
 unfold bitB; rw [zDp]; simp
theorem zQl {bs : List Nat} {q : Nat} (h : 8 * bs.length <= q) : bitB bs q = false := by
 unfold bitB
 rw [Qc, Qf (by omega)]; simp
theorem zMb {bs us : List Nat} {n k : Nat} (h : PackTo bs us n k) : ∀ q, n * k <= q -> bitB bs q = false := by
 intro q hq
 by_cases hl : q < 8 * bs.length
 ·rw [h.2.2 q hl]; simp; omega
 ·exact zQl (by omega)
theorem zMc {bs bs' us : List Nat} {n k : Nat} (h : PackTo bs us n k) (hp : PutTo bs bs' (n * k) n (us.getD k 0) n) : PackTo bs' us n (k + 1) := by
 refine ⟨hp.1.trans h.1, hp.2.1, fun q hq => ?_⟩
 rw [hp.1] at hq
 rw [hp.2.2 q hq]
 by_cases h1 : q < n * k
 ·rw [if_pos h1, h.2.2 q hq]
  have : q < n * (k + 1) := by rw [Qo]; omega
  simp [h1, this]
 ·rw [if_neg h1]
  by_cases h2 : q < n * k + n
  ·rw [if_pos h2]
   have h3 : q < n * (k + 1) := by rw [Qo]; omega
   have hn : 0 < n := by omega
   obtain ⟨r, rfl⟩ : ∃ r, q = n * k + r := ⟨q - n * k, by omega⟩
   have hr : r < n := by omega
   have e1 : (n * k + r) / n = k := by rw [Jd hn, Je hr]; omega
   have e2 : (n * k + r) % n = r := by rw [Jf, Qp hr]
   rw [e1, e2]
   have e3 : n * k + r - n * k = r := by omega
   rw [e3]; simp [h3]
  ·rw [if_neg h2]
   have : ¬ q < n * (k + 1) := by rw [Qo]; omega
   simp [this]
theorem zNh {bs us : List Nat} {n : Nat} (h : PackTo bs us n us.length) : bs = packB n us := by
 refine zOx (by rw [h.1, packB, bytesOf_length]) h.2.1 (zIk _ _) fun q hq => ?_
 rw [h.2.2 q hq, packB, zFj _ _ q (by rw [h.1] at hq; exact hq)]
theorem zAy (n : Nat) (us : List Nat) : (packB n us).length = (n * us.length + 7) / 8 := bytesOf_length _ _
theorem zKn (n : Nat) (us : List Nat) (i : Nat) : (packB n us).getD i 0 < 256 := zIk _ _ _
def spareB (bs : List Nat) (c : Nat) : Bool := bs.getD (bs.length - 1) 0 % 2 ^ (8 * bs.length - c) == 0
def unpackB (bs : List Nat) (n count : Int) : Option (List Nat) :=
 if 0 <= count ∧ count <= 65535 ∧ bs.length = (heldN n * count.toNat + 7) / 8 ∧ spareB bs (heldN n * count.toNat) = true then
  some ((Qw count.toNat).map fun i => numB bs (i * heldN n) (heldN n))
 else none
def numF : Nat -> Nat -> List Nat
 | 0, u => [u]
 | f + 1, u => if u < 128 then [u] else (u % 128 + 128) :: numF f (u / 128)
def numC (u : Nat) : List Nat := numF 9 u
theorem zIl (f u : Nat) (h : u < 128) : numF f u = [u] := by
 cases f with
 | zero => rfl
 | succ f => rw [numF, if_pos h]
theorem zKo (f u : Nat) (h : ¬ u < 128) : numF (f + 1) u = (u % 128 + 128) :: numF f (u / 128) := by rw [numF, if_neg h]
theorem zA5 (f u : Nat) : (numF f u).length <= f + 1 ∧ 0 < (numF f u).length := by
 induction f generalizing u with
 | zero => simp [numF]
 | succ f ih =>
  rw [numF]
  split
  ·simp
  ·simp; exact (ih _).1
theorem zRx (f u : Nat) (h : u < 128 ^ (f + 1)) : ∀ x ∈ numF f u, x < 256 := by
 induction f generalizing u with
 | zero => intro x hx; simp [numF] at hx; subst hx; simp at h; omega
 | succ f ih =>
  intro x hx
  rw [numF] at hx
  split at hx
  ·simp at hx; subst hx; omega
  ·simp at hx
   rcases hx with rfl | hx
   ·omega
   ·exact ih (u / 128) (by rw [Qb] at h; omega) x hx
theorem zCt (u : Nat) (h : u < 18446744073709551616) : ∀ x ∈ numC u, x < 256 :=
 zRx 9 u (Qn h (by decide))
theorem zRy (U : Nat) : bits .or .u8 ((U : Int) % 256) 128 = ((U % 128 + 128 : Nat) : Int) := by
 have e : (U : Int) % 256 = ((U % 256 : Nat) : Int) := by simp
 have e2 : (128 : Int) = ((128 : Nat) : Int) := rfl
 have h1 : U % 256 < 256 := Qa _ (by decide)
 rw [e, e2, u8_or_nat _ _ h1 (by decide)]
 have h2 : U % 256 = U % 128 + U / 128 % 2 * 128 := by omega
 have h3 : U / 128 % 2 = 0 ∨ U / 128 % 2 = 1 := by omega
 have h4 : U % 128 < 128 := Qa _ (by decide)
 have h5 : 128 ||| U % 128 = 128 + U % 128 := nat_join 7 128 (U % 128) (by decide) (by simpa using h4)
 rcases h3 with h3 | h3
 ·rw [h2, h3, Nat.zero_mul, Nat.add_zero, Jg, h5, Qj]
 ·rw [h2, h3, Nat.one_mul]
  have h6 : U % 128 + 128 = 128 ||| U % 128 := by rw [h5, Qj]
  rw [h6, Jg, <- Nat.or_assoc, Nat.or_self]
theorem zI0 (f x : Nat) (hx : x < 2 ^ f) : Lib.bitLenAux f x <= f ∧ x < 2 ^ Lib.bitLenAux f x ∧ (0 < Lib.bitLenAux f x -> x / 2 ^ (Lib.bitLenAux f x - 1) = 1) := by
 induction f generalizing x with
 | zero =>
   have : x = 0 := by simpa using hx
   subst this; simp [Lib.bitLenAux]
 | succ f ih =>
  unfold Lib.bitLenAux
  by_cases h0 : x = 0
  ·subst h0; simp
  ·rw [if_neg h0]
   have hx2 : x / 2 < 2 ^ f := by rw [Qb] at hx; omega
   obtain ⟨i1, i2, i3⟩ := ih (x / 2) hx2
   refine ⟨by omega, ?_, fun _ => ?_⟩
   ·rw [Qj, Qb]; omega
   ·rw [show 1 + Lib.bitLenAux f (x / 2) - 1 = Lib.bitLenAux f (x / 2) from by omega]
    by_cases hz : Lib.bitLenAux f (x / 2) = 0
    ·rw [hz] at i2 ⊢
     simp at i2 ⊢; omega
    ·have := i3 (by omega)
     obtain ⟨k, hk⟩ : ∃ k, Lib.bitLenAux f (x / 2) = k + 1 := ⟨_, (Nat.succ_pred_eq_of_ne_zero hz).symm⟩
     rw [hk] at this ⊢
     rw [show k + 1 - 1 = k from rfl, Qq] at this
     rw [Qb, Qd]; exact this
theorem bitLen_spec (x : Nat) (hx : x < 18446744073709551616) : Lib.bitLen x <= 64 ∧ x < 2 ^ Lib.bitLen x ∧ (0 < Lib.bitLen x -> x / 2 ^ (Lib.bitLen x - 1) = 1) :=
 zI0 64 x (by
   have : (2 : Nat) ^ 64 = 18446744073709551616 := by decide
   omega)
theorem zOy (n : Nat) (us : List Nat) (k : Nat) (hk : k < us.length) : numB (packB n us) (k * n) n = us.getD k 0 % 2 ^ n := by
 apply Qm; intro i
 rw [zOu, Ql]
 by_cases hi : i < n
 ·simp only [hi, decide_true, Jh]
  have hn : 0 < n := by omega
  obtain ⟨r, hr⟩ : ∃ r, r = n - 1 - i := ⟨_, rfl⟩
  rw [<- hr]
  have hrl : r < n := by omega
  have hkn : k * n + n <= n * us.length := by
   have : (k + 1) * n <= us.length * n := Nat.mul_le_mul_right _ hk
   rw [Nat.succ_mul] at this; rw [Qd n]; exact this
  have hq : k * n + r < n * us.length := by omega
  unfold packB
  rw [zFj _ _ _ (by omega)]
  simp only [hq, decide_true, Jh]
  have e1 : (k * n + r) / n = k := by rw [Qd k n, Jd hn, Je hrl]; omega
  have e2 : (k * n + r) % n = r := by rw [Qd k n, Jf, Qp hrl]
  rw [e1, e2, show n - 1 - r = i from by omega]
 ·simp [hi]
theorem zF4 (n : Nat) (h : n <= 64) : heldN (n : Int) = n := by unfold heldN; omega
theorem zNi (n : Nat) (us : List Nat) : spareB (packB n us) (n * us.length) = true := by
 unfold spareB
 rw [beq_iff_eq]
 apply Qm; intro k
 rw [Ql, Nat.zero_testBit]
 by_cases hk : k < 8 * (packB n us).length - n * us.length
 ·have hl := zAy n us
  have hpos : 0 < (packB n us).length := by omega
  have hq : 8 * ((packB n us).length - 1) + (7 - k) < 8 * ((n * us.length + 7) / 8) := by omega
  have hb := zFj (n * us.length) (fun q => (us.getD (q / n) 0).testBit (n - 1 - q % n)) _ hq
  have hc : ¬ 8 * ((packB n us).length - 1) + (7 - k) < n * us.length := by omega
  rw [decide_eq_false hc, Bool.false_and] at hb
  unfold bitB at hb
  rw [show (8 * ((packB n us).length - 1) + (7 - k)) / 8 = (packB n us).length - 1 from by omega, show 7 - (8 * ((packB n us).length - 1) + (7 - k)) % 8 = k from by omega] at hb
  change ((packB n us).getD ((packB n us).length - 1) 0).testBit k = false at hb
  rw [hb, Bool.and_false]
 ·simp [hk]
theorem unpack_pack (n : Nat) (us : List Nat) (hn : n <= 64) (hl : us.length <= 65535) (hu : ∀ x ∈ us, x < 2 ^ n) : unpackB (packB n us) (n : Int) (us.length : Int) = some us := by
 unfold unpackB
 rw [zF4 n hn, Int.toNat_natCast, if_pos ⟨by omega, by omega, zAy n us, zNi n us⟩]
 congr 1
 apply Qz ; intro i
 rw [Qx]
 by_cases hi : i < us.length
 ·rw [Qy hi, Qg hi]
  simp only [Option.map_some]
  rw [zOy n us i hi, Qc, Qg hi]
  simp only [Option.getD_some]
  rw [Qp (hu _ (List.getElem_mem hi))]
 ·rw [Qf (by simp; omega), Qf (by omega)]; rfl
end Go.Proofs.YtmpgnjhgegbdkaaGreat
