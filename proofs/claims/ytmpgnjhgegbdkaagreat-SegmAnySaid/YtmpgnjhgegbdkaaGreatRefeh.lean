import Derived.Test.YtmpgnjhgegbdkaaGreatNullg
import Derived.Test.YtmpgnjhgegbdkaaGreatPlmath
import Derived.Test.YtmpgnjhgegbdkaaGreatAt
import Derived.Deep.DeepCutAuto
import Derived.Deep.RegionHeld3
import Derived.Deep.RegionLaw
set_option linter.unusedVariables false
namespace Go.Proofs.YtmpgnjhgegbdkaaGreat
open Go.RowKit
open _root_.Nat renaming mul_comm -> Qa, le_refl -> Qb, mul_one -> Qd
open _root_.List renaming length_eq_zero_iff -> Qc
theorem zD7 (w : World) (B : Nat) (E : TypeId) (hB : B <= w.heap.size) : (w.alloc (.cells #[] E)).ownsRow B E 1 (.slice (some ⟨w.heap.size, 0, none⟩) 0 0) 0 [] :=
 World.ownsRow_lit (base := B) (size := 1) w #[] 0 hB (by unfold maxLen; omega) rfl
theorem zKe {P : Program} {w : World} {ops : Array Oper} {rest : List Oper} {o : Oper} {a : Act} {Q : Exit -> Act -> World -> Prop} (hgd : o.guard = none) (s x : Operand) (t : TypeId)
  (ho : o.op = .call { callee := .builtin .append, args := #[s, x], argTypes := #[t, t] })
  (base : Nat) (e : TypeId) (i : TypeInfo) (z : Value) (bytes : Nat) (ht : P.underlying t = some (.slice e)) (hi : P.info? e = some i) (hz : i.zero = some z)
  (hsize : i.size = 1) (hby : i.bytes = bytes) (hzs : z.cells.size = 1)
  (v : Value) (n : Nat) (xs : List Value) (hs : a.eval s = v) (hown : w.ownsRow base e 1 v n xs)
  (y : Value) (ys : List Value) (hx : a.eval x = y) (hy : Rd w y ys) (h1 : ∀ u ∈ ys, u.oneCell' = true)
  (h63 : n + ys.length <= maxLen) (hbytes : (n + ys.length) * bytes <= 140737488355328) (hbase : base <= w.heap.size)
  (h : ∀ v' w', w'.ownsRow base e 1 v' (n + ys.length) (xs ++ ys) -> w.grownBy w' v.ownBlock -> wpList P ops Q rest (a.put o.dst v') w') : wpList P ops Q (o :: rest) a w := by
 have hy2 := hy
 obtain ⟨ao, cap, hv, hcap, _⟩ := hy2
 subst hv
 rcases ao with _ | ad
 ·have h0 : cap = 0 := hcap.1 rfl
  have hl := hcap.2
  have hys : ys = [] := Qc.1 (by omega)
  subst hys
  subst h0
  refine wpList_append_own_none hgd s x t ho base e i 1 ht hi v n xs hs hown hx ?_
  refine h v w ?_ ⟨rfl, rfl, rfl, Qb _, fun _ _ _ => rfl⟩
  simpa using hown
 ·exact wpList_append_own w hgd s x t ho base e i z 1 bytes ht hi hz hsize hby hzs (by decide) v n xs hs hown ad ys.length cap ys hx (by rw [Qd]) (zEp hy) h1 h63 hbytes hbase fun v' w' a b _ => h v' w' a b
theorem zCo {P : Program} {w : World} {ops : Array Oper} {o : Oper} {a : Act} {K : Act -> World -> Prop} {Q : Exit -> Act -> World -> Prop} {D : Prop} (hgd : o.guard = none) (s x : Operand) (t : TypeId)
  (ho : o.op = .call { callee := .builtin .append, args := #[s, x], argTypes := #[t, t] })
  (base : Nat) (e : TypeId) (i : TypeInfo) (z : Value) (bytes : Nat) (ht : P.underlying t = some (.slice e)) (hi : P.info? e = some i) (hz : i.zero = some z)
  (hsize : i.size = 1) (hby : i.bytes = bytes) (hzs : z.cells.size = 1)
  (v : Value) (n : Nat) (xs : List Value) (hs : a.eval s = v) (hown : w.ownsRow base e 1 v n xs)
  (y : Value) (ys : List Value) (hx : a.eval x = y) (hy : Rd w y ys) (h1 : ∀ u ∈ ys, u.oneCell' = true)
  (h63 : n + ys.length <= maxLen) (hbytes : (n + ys.length) * bytes <= 140737488355328) (hbase : base <= w.heap.size)
  (h : ∀ v' w', w'.ownsRow base e 1 v' (n + ys.length) (xs ++ ys) -> w.grownBy w' v.ownBlock -> K (a.put o.dst v') w') :
  if Region.wanted o (yielded ops a.tmps) = true then Oper.wp P o a w K Q else D := by
 have hw : Region.wanted o (yielded ops a.tmps) = true := by simp [Region.wanted, hgd]
 rw [if_pos hw]
 have hy2 := hy
 obtain ⟨ao, cap, hv, hcap, _⟩ := hy2
 subst hv
 rcases ao with _ | ad
 ·have h0 : cap = 0 := hcap.1 rfl
  have hl := hcap.2
  have hys : ys = [] := Qc.1 (by omega)
  subst hys
  subst h0
  have hrun := run_append_owned_none (P := P) (w := w) base t o.type e i 1 ht hi v n xs hown
  have hk := h v w (by simpa using hown) ⟨rfl, rfl, rfl, Qb _, fun _ _ _ => rfl⟩
  simp only [List.length_nil] at hx
  unfold Oper.wp
  simp [execOp, ho, resolve, invoke, builtin, hs, hx, hrun, Result.andThen]
  exact hk
 ·exact wp_append_own w s x t ho base e i z 1 bytes ht hi hz hsize hby hzs (by decide) v n xs hs hown ad ys.length cap ys hx (by rw [Qd]) (zEp hy) h1 h63 hbytes hbase fun v' w' a b _ => h v' w' a b
theorem zBn (B : Nat) (w : World) : Below B w w.drew := ⟨rfl, rfl, rfl, Qb _, fun _ _ => rfl⟩
def numsB (bs : List Nat) (N C : Nat) : List Nat := (List.range C).map fun i => numB bs (i * N) N
theorem zEk (bs : List Nat) (N C : Nat) : (numsB bs N C).length = C := by simp [numsB]
theorem zS2 (bs : List Nat) (N C i : Nat) (h : i < C) : (numsB bs N C).getD i 0 = numB bs (i * N) N := by
 unfold numsB; rw [List.getD_eq_getElem?_getD, List.getElem?_map, List.getElem?_range h]; rfl
theorem zS3 {bs : List Nat} {N C : Nat} (h256 : ∀ i, bs.getD i 0 < 256) (hl : bs.length = (N * C + 7) / 8) : (packB N (numsB bs N C) == bs) = spareB bs (N * C) := by
 rw [Bool.eq_iff_iff, beq_iff_eq]
 constructor
 ·intro h
  have := zKl N (numsB bs N C)
  rwa [h, zEk] at this
 ·intro h
  unfold spareB at h
  rw [beq_iff_eq] at h
  refine zLw (by rw [zAw, zEk, hl]) (zJw _ _) h256 fun q hq => ?_
  rw [zAw, zEk] at hq
  unfold packB
  rw [zEk, zEz _ _ q hq]
  by_cases hqc : q < N * C
  ·have hN : 0 < N := by
    rcases Nat.eq_zero_or_pos N with h0 | h0
    ·subst h0; omega
    ·exact h0
   have hd : q / N < C := by rw [Nat.div_lt_iff_lt_mul hN, Qa]; exact hqc
   rw [zS2 _ _ _ _ hd, zLv]
   have hm := Nat.mod_lt q hN
   have e1 : N - 1 - (N - 1 - q % N) = q % N := by omega
   have e2 : q / N * N + q % N = q := by rw [Qa]; exact Nat.div_add_mod q N
   have e3 : N - 1 - q % N < N := by omega
   rw [e1, e2]
   simp [hqc, e3]
  ·have hlast : q / 8 = bs.length - 1 := by omega
   simp only [hqc, decide_false, Bool.false_and]
   unfold bitB
   rw [hlast]
   have h7 : 7 - q % 8 < 8 * bs.length - N * C := by omega
   have := congrArg (fun z => z.testBit (7 - q % 8)) h
   simp only [Nat.testBit_mod_two_pow, Nat.zero_testBit] at this
   simpa [h7] using this.symm
def BytesAt (w : World) (v : Value) : Prop := ∃ bs : List Nat, Rd w v (bs.map u8v) ∧ (∀ x ∈ bs, x < 256) ∧ bs.length <= 17592186044416
theorem BytesAt.kept {w w' : World} {v : Value} (h : BytesAt w v) (hb : Below w.heap.size w w') : BytesAt w' v := by
 obtain ⟨bs, h1, h2⟩ := h
 exact ⟨bs, h1.kept hb, h2⟩
theorem zWs (a : Int) : 0 <= bits .and .i64 a 65535 ∧ bits .and .i64 a 65535 <= 65535 := by
 have h : bits .and .i64 a 65535 = IntKind.i64.wrap ((BitVec.ofInt 64 a &&& BitVec.ofInt 64 65535).toNat : Int) := rfl
 have h1 : (BitVec.ofInt 64 a &&& BitVec.ofInt 64 65535).toNat <= 65535 := by
  rw [BitVec.toNat_and]
  exact Nat.le_trans Nat.and_le_right (by decide)
 rw [h, IntWalk.i64_in _ (by omega)]
 omega
theorem zQ5 (a : Int) (N : Nat) (h : 0 < N) : ∃ c d : Nat, bits .and .i64 a 65535 = (c : Int) ∧ (c : Int).tmod (N : Int) = (d : Int) ∧ d < N ∧ c <= 65535 := by
 obtain ⟨i1, i2⟩ := zWs a
 have hd : (bits .and .i64 a 65535).toNat % N < N := Nat.mod_lt _ h
 refine ⟨(bits .and .i64 a 65535).toNat, (bits .and .i64 a 65535).toNat % N, by omega, ?_, hd, by omega⟩
 rw [Int.tmod_eq_emod_of_nonneg (by omega)]
 omega
theorem zS4 {w : World} {B : Nat} {E : TypeId} {size n : Nat} {v : Value} {xs : List Value} (h : w.ownsRow B E size v n xs) : ∀ k, v.ownBlock = some k -> B <= k := by
 intro k hk
 rcases h.2 with ⟨h, _⟩ | ⟨g', cap', cur, h, hbg, _⟩
 ·rw [h] at hk; cases hk
 ·rw [h] at hk; cases hk; exact hbg
def RowsAt (w : World) (g n : Nat) : Prop := ∀ j, j < n -> ∃ v, w.cell? ⟨g, j, none⟩ = some v ∧ BytesAt w v
theorem RowsAt.kept {w w' : World} {g n : Nat} (h : RowsAt w g n) (hb : Below w.heap.size w w') : RowsAt w' g n := by
 intro j hj
 obtain ⟨v, hc, hv⟩ := h j hj
 exact ⟨v, (hb.cell (p := ⟨g, j, none⟩) (World.block_lt_of_cell? _ _ hc)).trans hc, hv.kept hb⟩
theorem zPb : ∀ (l : List Nat) (i U u m : Nat), (∀ x ∈ l, x < 256) -> i <= 9 -> nextF i U l = some (u, m) -> ∃ t, u = U + t * 2 ^ (7 * i) ∧ i < m ∧ l.take (m - i) = numF (9 - i) t ∧ (0 < i -> 0 < t) := by
 intro l
 induction l with
 | nil => intro i U u m _ _ h; cases h
 | cons x r ih =>
  intro i U u m h256 hi h
  have hx := h256 x (by simp)
  unfold nextF at h
  by_cases h9 : i = 9 ∧ 1 < x
  ·rw [if_pos h9] at h; cases h
  ·rw [if_neg h9] at h
   by_cases hx128 : 128 <= x
   ·rw [if_pos hx128] at h
    have hi8 : i <= 8 := by omega
    obtain ⟨t, h1, h2, h3, h4⟩ := ih (i + 1) _ u m (fun y hy => h256 y (by simp [hy])) (by omega) h
    refine ⟨x % 128 + 128 * t, ?_, by omega, ?_, fun _ => by have := h4 (by omega); omega⟩
    ·rw [h1, Nat.add_mul, Nat.add_assoc, show 7 * (i + 1) = 7 * i + 7 by omega, Nat.pow_add]
     congr 2
     rw [show (2 : Nat) ^ 7 = 128 by decide, Qa 128 t, Nat.mul_assoc, Qa 128]
    ·have h5 := h4 (by omega)
     rw [show m - i = (m - (i + 1)) + 1 by omega, List.take_succ_cons, h3, show 9 - i = (9 - (i + 1)) + 1 by omega, zJx _ _ (by omega)]
     rw [show (x % 128 + 128 * t) % 128 + 128 = x by omega, show (x % 128 + 128 * t) / 128 = t by omega]
   ·rw [if_neg hx128] at h
    by_cases hz : x = 0 ∧ 0 < i
    ·rw [if_pos hz] at h; cases h
    ·rw [if_neg hz] at h
     simp only [Option.some.injEq, Prod.mk.injEq] at h
     obtain ⟨h1, h2⟩ := h
     refine ⟨x, by rw [<- h1, Nat.mod_eq_of_lt (by omega)], by omega, ?_, fun _ => by omega⟩
     rw [<- h2, show i + 1 - i = 1 by omega, zHg _ _ (by omega)]
     rfl
theorem zJs (b : List Nat) (n k : Nat) (h256 : ∀ x ∈ b, x < 256) (h : nextC b = some (n, k)) : b.take k = numC n := by
 obtain ⟨t, h1, h2, h3, _⟩ := zPb b 0 0 n k h256 (by omega) h
 simp at h1
 subst h1
 exact h3
end Go.Proofs.YtmpgnjhgegbdkaaGreat
