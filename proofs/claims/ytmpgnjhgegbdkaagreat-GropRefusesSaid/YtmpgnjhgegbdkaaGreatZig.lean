import Derived.WalkKit
import Derived.WalkSmall
import Derived.Test.YtmpgnjhgegbdkaaGreatRows
import Derived.Test.YtmpgnjhgegbdkaaGreatPlmath
import Derived.WalkSpells
import Derived.WalkLawsBesides
import Derived.IntWalk
import Derived.Lib.Hide
set_option linter.unusedVariables false
set_option maxHeartbeats 400000
namespace Go.Proofs.YtmpgnjhgegbdkaaGreat
open Go.RowKit
open _root_.List renaming getD_eq_getElem?_getD -> Qa, length_drop -> Qc, length_take -> Qd, getElem?_eq_getElem -> Qf, getElem?_take -> Qg, length_map -> Qh
open _root_.Nat renaming le_refl -> Qb, lt_of_lt_of_le -> Qe, mod_eq_of_lt -> Qi
theorem zAb {a b c : World} {row : Option Nat} (h : a.grownBy b row) (k : b.grownBy c row) : a.grownBy c row :=
 ⟨k.os.trans h.os, k.tape.trans h.tape, k.output.trans h.output, Nat.le_trans h.size k.size, fun i hi hr => (k.block i (Qe hi h.size) hr).trans (h.block i hi hr)⟩
theorem zA0 (w : World) (row : Option Nat) (n : Nat) : w.grownBy (w.drewN n) row := ⟨rfl, rfl, rfl, Qb _, fun _ _ _ => rfl⟩
def u8v (n : Nat) : Value := .int .u8 n
def u64v (n : Nat) : Value := .int .u64 n
def boolv (b : Bool) : Value := .bool b
theorem zAj (w : World) (a : Addr) (u : Value) : w.grownBy (w.setCell a u) (some a.block) :=
 ⟨rfl, rfl, rfl, by simp [World.setCell], fun k _ hk => heap_setCell_other w a k u (fun e => hk (by simp [e]))⟩
def Rd (w : World) (v : Value) (xs : List Value) : Prop :=
 ∃ ao cap, v = .slice ao xs.length cap ∧ ((ao = none -> cap = 0) ∧ xs.length <= cap) ∧ (0 < xs.length -> ∃ b off, ao = some ⟨b, off, none⟩ ∧ ∀ i, i < xs.length -> w.cell? ⟨b, off + i, none⟩ = some (xs.getD i undef))
theorem Rd.kept {w w' : World} {v : Value} {xs : List Value} (h : Rd w v xs) (hb : Below w.heap.size w w') : Rd w' v xs := by
 obtain ⟨ao, cap, hv, hn, hc⟩ := h
 refine ⟨ao, cap, hv, hn, fun hp => ?_⟩
 obtain ⟨b, off, ha, hcell⟩ := hc hp
 refine ⟨b, off, ha, fun i hi => ?_⟩
 have h1 := hcell i hi
 have hlt : b < w.heap.size := by
  exact World.block_lt_of_cell? _ _ h1
 rw [hb.cell (p := ⟨b, off + i, none⟩) hlt]
 exact h1
theorem Rd.nil (w : World) : Rd w (.slice none 0 0) [] := ⟨none, 0, rfl, ⟨fun _ => rfl, by simp⟩, fun h => absurd h (by simp)⟩
theorem Rd.of_owns {w : World} {base : Nat} {e : TypeId} {v : Value} {n : Nat} {xs : List Value} (h : w.ownsRow base e 1 v n xs) : Rd w v xs := by
 have hl : xs.length = n := by simpa using h.1
 rcases h.2 with ⟨rfl, rfl⟩ | ⟨g, cap, cur, rfl, hbg, hh, r⟩
 ·have : xs = [] := List.length_eq_zero_iff.1 hl
  subst this
  exact Rd.nil _
 ·refine ⟨some ⟨g, 0, none⟩, cap, by rw [hl], ⟨(fun h => by cases h), by rw [hl]; exact r.1⟩, fun _ => ⟨g, 0, rfl, fun i hi => ?_⟩⟩
  have := h.cellAt i (by omega)
  rw [Nat.zero_add, this, Qa, Qf hi]; rfl
theorem zG1 {w : World} {a : Addr} {n c : Nat} {xs : List Value} (h : Rd w (.slice (some a) n c) xs) : ∀ j u, xs[j]? = some u -> w.cell? (a.add j) = some u := by
 intro j u hj
 obtain ⟨ao, cap, hv, _, hc⟩ := h
 have hjl : j < xs.length := (List.getElem?_eq_some_iff.1 hj).1
 obtain ⟨b, off, ha, hcell⟩ := hc (by omega)
 simp only [Value.slice.injEq] at hv
 obtain ⟨rfl, _, _⟩ := hv
 cases ha
 have e : (⟨b, off, none⟩ : Addr).add j = ⟨b, off + j, none⟩ := by simp [Addr.add]
 rw [e, hcell j hjl, Qa, hj]; rfl
theorem zCy {w : World} {b off len cap n : Nat} {xs : List Value} (h : Rd w (.slice (some ⟨b, off, none⟩) len cap) xs) (hn : n <= len) :
  Rd w (.slice (some ⟨b, off + n, none⟩) (len - n) (cap - n)) (xs.drop n) := by
 obtain ⟨ao, cap', hv, hcap, hc⟩ := h
 simp only [Value.slice.injEq] at hv
 obtain ⟨rfl, hl, rfl⟩ := hv
 refine ⟨some ⟨b, off + n, none⟩, cap - n, by rw [Qc, hl], ⟨(fun h => by cases h), by rw [Qc]; omega⟩, fun hp => ⟨b, off + n, rfl, fun i hi => ?_⟩⟩
 rw [Qc] at hp hi
 obtain ⟨b', off', ha, hcell⟩ := hc (by omega)
 cases ha
 have := hcell (n + i) (by omega)
 rw [Qa, List.getElem?_drop, Nat.add_assoc, this, Qa]
theorem zJc {w : World} {ao : Option Addr} {len cap m : Nat} {xs : List Value} (h : Rd w (.slice ao len cap) xs) (hm : m <= len) : Rd w (.slice ao m cap) (xs.take m) := by
 obtain ⟨ao', cap', hv, hcap, hc⟩ := h
 simp only [Value.slice.injEq] at hv
 obtain ⟨rfl, hl, rfl⟩ := hv
 have hl2 : (xs.take m).length = m := by rw [Qd]; omega
 refine ⟨ao, cap, by rw [hl2], ⟨hcap.1, by rw [hl2]; have := hcap.2; omega⟩, fun hp => ?_⟩
 rw [hl2] at hp ⊢
 obtain ⟨b, off, ha, hcell⟩ := hc (by omega)
 refine ⟨b, off, ha, fun i hi => ?_⟩
 rw [hcell i (by omega), Qa, Qa, Qg, if_pos hi]
theorem zCa (w : World) (a : Addr) (cap : Nat) : Rd w (.slice (some a) 0 cap) [] := ⟨some a, cap, rfl, ⟨(fun h => by cases h), by simp⟩, fun h => absurd h (by simp)⟩
theorem zBc {w : World} {B : Nat} {E : TypeId} {size : Nat} {v : Value} {n : Nat} {xs : List Value} (h : w.ownsRow B E size v n xs) : ∃ ao cap, v = .slice ao n cap := by
 rcases h.2 with ⟨rfl, rfl⟩ | ⟨g, cap, cur, rfl, _⟩
 ·exact ⟨none, 0, rfl⟩
 ·exact ⟨_, cap, rfl⟩
theorem zAs (bs : List Nat) : ∀ u ∈ bs.map u8v, u.oneCell' = true := by
 intro u hu; obtain ⟨x, _, rfl⟩ := List.mem_map.1 hu; rfl
def RetOwn (B : Nat) (E : TypeId) (xs : List Value) (w : World) (e : Ending) (w' : World) : Prop :=
 ∃ ao cap, e = .returned (.slice ao xs.length cap) ∧ w'.ownsRow B E 1 (.slice ao xs.length cap) xs.length xs ∧ Below w.heap.size w w'
def RetOwn2 (B : Nat) (E : TypeId) (xs : List Value) (b : Bool) (w : World) (e : Ending) (w' : World) : Prop :=
 ∃ ao cap, e = .returned (.tuple #[.slice ao xs.length cap, .bool b]) ∧ w'.ownsRow B E 1 (.slice ao xs.length cap) xs.length xs ∧ Below w.heap.size w w'
theorem zM3 (w : World) (B : Nat) (E : TypeId) : w.ownsRow B E 1 (.slice none 0 0) 0 [] := ⟨rfl, .inl ⟨rfl, rfl⟩⟩
theorem zD3 (w : World) (B : Nat) (k : Nat) : Below B w (w.drewN k) := ⟨rfl, rfl, rfl, Qb _, fun _ _ => rfl⟩
theorem zAe (B : Nat) (w : World) : Below B w w.drew := ⟨rfl, rfl, rfl, Qb _, fun _ _ => rfl⟩
theorem zAd (w : World) (o : Obj) : Below w.heap.size w (w.alloc o) := (Below.refl _ _).alloc (Qb _) _
theorem zAa {a b c : World} (h : Below a.heap.size a b) (k : Below b.heap.size b c) : Below a.heap.size a c := h.trans (k.mono h.size)
theorem below_draws {a b : World} (h : Below a.heap.size a b) (k : Nat) : Below a.heap.size a (b.drewN k) := h.trans (zD3 _ _ k)
theorem zAn {a b : World} (h : Below a.heap.size a b) (o : Obj) : Below a.heap.size a (b.alloc o) := h.alloc h.size o
def IsRow (k : IntKind) (w : World) (a : Option Addr) (len cap : Nat) (zs : List Int) : Prop :=
 (a = none ∧ len = 0 ∧ cap = 0 ∧ zs = []) ∨
 ∃ x, a = some x ∧ len <= cap ∧ cap <= maxLen ∧ zs.length = cap ∧ (∀ i, i < zs.length -> w.cell? (x.add i) = some (.int k (zs.getD i 0))) ∧ ∀ n ∈ zs, (Lit.int k n).wf = true
theorem zTt {k : IntKind} {w : World} {a : Option Addr} {len cap : Nat} {zs : List Int} (h : IsRow k w a len cap zs) :
  ∃ xs : List Int, xs.length = len ∧ Rd w (.slice a len cap) (xs.map (Value.int k)) ∧ ∀ n ∈ xs, (Lit.int k n).wf = true := by
 rcases h with ⟨rfl, rfl, rfl, rfl⟩ | ⟨x, rfl, hl, hm, hz, hc, hw⟩
 ·exact ⟨[], rfl, Rd.nil _, fun n hn => by cases hn⟩
 ·refine ⟨zs.take len, by rw [Qd]; omega, ?_, fun n hn => hw n (List.mem_of_mem_take hn)⟩
  have hl2 : ((zs.take len).map (Value.int k)).length = len := by rw [Qh, Qd]; omega
  refine ⟨some x, cap, by rw [hl2], ⟨(fun h => by cases h), by rw [hl2]; exact hl⟩, fun hp => ?_⟩
  rw [hl2] at hp ⊢
  obtain ⟨b, off, spot⟩ := x
  have h0 := hc 0 (by omega)
  have hspot : spot = none := by simpa [Addr.add] using World.cell?_spot h0
  subst hspot
  refine ⟨b, off, rfl, fun i hi => ?_⟩
  have h1 := hc i (by omega)
  have e : (⟨b, off, none⟩ : Addr).add i = ⟨b, off + i, none⟩ := by simp [Addr.add]
  rw [e] at h1
  rw [h1]
  simp only [Qa, List.getElem?_map, Qg, if_pos hi, Qf (show i < zs.length by omega)]
  rfl
theorem zFc {α : Type} {f : α -> Value} {w : World} {B : Nat} {E : TypeId} {ao : Option Addr} {cap : Nat} {xs : List α} (h : w.ownsRow B E 1 (.slice ao (xs.map f).length cap) (xs.map f).length (xs.map f)) :
  Rd w (.slice ao xs.length cap) (xs.map f) := by
 have := Rd.of_owns h
 rwa [Qh] at this
open Go.Lib (hid)
theorem zKp {k : IntKind} {a b : Int} (h : a = b) : Ending.returned (.int k a) = Ending.returned (.int k b) := by rw [h]
theorem zH6 (m : Int) : IntKind.u64.wrap (wrap64 m) = m % 18446744073709551616 := by
 rw [IntKind.wrap_u64]; unfold wrap64; omega
theorem zM4 (a : Nat) (ha : a < 18446744073709551616) : a ^^^ 18446744073709551615 = 18446744073709551615 - a := by
 apply Nat.eq_of_testBit_eq; intro i
 have h1 : (18446744073709551615 : Nat) = 2 ^ 64 - 1 := by decide +kernel
 have h2 : 18446744073709551615 - a = 2 ^ 64 - (a + 1) := by omega
 have h3 : a < 2 ^ 64 := by omega
 rw [h2, Nat.testBit_two_pow_sub_succ h3, Nat.testBit_xor, h1, Nat.testBit_two_pow_sub_one]
 by_cases hi : i < 64
 ·simp [hi]
 ·have : a.testBit i = false := Nat.testBit_lt_two_pow (Qe h3 (Nat.pow_le_pow_right (by decide) (by omega)))
  simp [hi, this]
theorem zM5 (n : Nat) (h : n <= 9223372036854775807) : bits .xor .u64 (IntKind.u64.wrap (wrap64 ((n : Int) * 2))) ((n : Int) / 9223372036854775808) = ((2 * n : Nat) : Int) := by
 have e1 : (n : Int) / 9223372036854775808 = ((0 : Nat) : Int) := by omega
 have e2 : (n : Int) * 2 % 18446744073709551616 = ((2 * n : Nat) : Int) := by omega
 rw [zH6, e1, e2, bits_xor_u64_nat _ _ (by omega) (by omega), Nat.xor_zero]
theorem zM6 (n : Int) (h : n < 0) (h2 : -9223372036854775808 <= n) : bits .xor .u64 (IntKind.u64.wrap (wrap64 (n * 2))) (IntKind.u64.wrap (n / 9223372036854775808)) = -2 * n - 1 := by
 obtain ⟨a, ha⟩ : ∃ a : Nat, (a : Int) = n * 2 + 18446744073709551616 := ⟨(n * 2 + 18446744073709551616).toNat, by omega⟩
 have e1 : IntKind.u64.wrap (n / 9223372036854775808) = ((18446744073709551615 : Nat) : Int) := by rw [IntKind.wrap_u64]; omega
 have e2 : n * 2 % 18446744073709551616 = (a : Int) := by omega
 rw [zH6, e1, e2, bits_xor_u64_nat _ _ (by omega) (by omega), zM4 _ (by omega)]
 omega
theorem zM7 (x : Nat) (h : x < 9223372036854775808) : bits .xor .i64 (x : Int) 0 = (x : Int) := by
 show IntKind.i64.wrap ((BitVec.ofInt 64 (x : Int) ^^^ BitVec.ofInt 64 0).toNat : Int) = _
 have e : BitVec.ofInt 64 0 = 0#64 := by decide
 rw [e, BitVec.xor_zero, BitVec.ofInt_natCast, BitVec.toNat_ofNat, Qi (by omega)]
 exact IntWalk.i64_in _ (by omega)
theorem zM8 (x : Nat) (h : x < 9223372036854775808) : bits .xor .i64 (x : Int) (-1) = -(x : Int) - 1 := by
 show IntKind.i64.wrap ((BitVec.ofInt 64 (x : Int) ^^^ BitVec.ofInt 64 (-1)).toNat : Int) = _
 have e : (BitVec.ofInt 64 (-1)).toNat = 18446744073709551615 := by decide +kernel
 rw [BitVec.toNat_xor, e, BitVec.ofInt_natCast, BitVec.toNat_ofNat, Qi (by omega), zM4 _ (by omega), IntKind.wrap_i64]
 omega
theorem zOv (u : Nat) (h : u < 18446744073709551616) : bits .and .u64 (u : Int) 1 = ((u % 2 : Nat) : Int) := by
 have e : (1 : Int) = ((1 : Nat) : Int) := rfl
 rw [e, u64_and_nat _ _ h (by decide), nat_mask1]
theorem zTu (u : Nat) (h : u < 18446744073709551616) : bits .xor .i64 ((u : Int) / 2) (wrap64 (-wrap64 (bits .and .u64 (u : Int) 1))) =
  if u % 2 = 1 then -((u / 2 : Nat) : Int) - 1 else ((u / 2 : Nat) : Int) := by
 have e0 : (u : Int) / 2 = ((u / 2 : Nat) : Int) := by simp
 rw [zOv u h, e0]
 by_cases h1 : u % 2 = 1
 ·have e : wrap64 (-wrap64 ((u % 2 : Nat) : Int)) = -1 := by rw [h1]; unfold wrap64; omega
  rw [e, if_pos h1, zM8 _ (by omega)]
 ·have h0 : u % 2 = 0 := by omega
  have e : wrap64 (-wrap64 ((u % 2 : Nat) : Int)) = 0 := by rw [h0]; unfold wrap64; omega
  rw [e, if_neg h1, zM7 _ (by omega)]
theorem zVh (n : Nat) (w : World) (h : n <= 9223372036854775807) :
  Calls Tryz.prog 190 #[.int .i64 (n : Int)] w fun e w' => e = .returned (.int .u64 (2 * n : Nat)) ∧ w = w' := by
 have h1 : (0 : Int) <= (n : Int) := by omega
 have h2 : (n : Int) <= 9223372036854775807 := by omega
 go_enter Tryz.func190, Tryz.ntmps190
 go_wp2
 go_ret
 exact ⟨zKp (zM5 n h), rfl⟩
theorem zVi (n : Int) (w : World) (h : n < 0) (h2 : -9223372036854775808 <= n) :
  Calls Tryz.prog 190 #[.int .i64 n] w fun e w' => e = .returned (.int .u64 (-2 * n - 1)) ∧ w = w' := by
 go_enter Tryz.func190, Tryz.ntmps190
 go_wp2
 go_ret
 exact ⟨zKp (zM6 n h h2), rfl⟩
def zagN (u : Nat) : Int := if u % 2 = 1 then -((u / 2 : Nat) : Int) - 1 else ((u / 2 : Nat) : Int)
theorem zPm (u : Nat) (w : World) (h : u < 18446744073709551616) :
  Calls Tryz.prog 191 #[.int .u64 (u : Int)] w fun e w' => e = .returned (.int .i64 (zagN u)) ∧ w = w' := by
 have h1 : (0 : Int) <= (u : Int) := by omega
 have h2 : (u : Int) <= 18446744073709551615 := by omega
 have HU := hid h
 clear h
 go_enter Tryz.func191, Tryz.ntmps191
 go_wp2
 go_ret
 exact ⟨zKp (zTu u HU.out), rfl⟩
end Go.Proofs.YtmpgnjhgegbdkaaGreat
