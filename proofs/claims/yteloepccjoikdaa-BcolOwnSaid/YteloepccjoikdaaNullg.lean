/-
  Plain facts: the bytes that bools have, and the bools that bytes begin with.
  Contracts of null's Count, numbers, all.
  Contract of null's Encode.
  Contract of null's decodeMixed.
  Contract of null's Decode.
-/
import Derived.Test.YteloepccjoikdaaCodeRowsm
import Derived.Test.YteloepccjoikdaaPlmath
import Derived.Test.YteloepccjoikdaaUnpack
import Derived.Test.YteloepccjoikdaaAwakb
import Derived.Test.YteloepccjoikdaaAwaka
import Derived.OwnWalk
import Derived.BigRegion
namespace Go.Proofs.Yteloepccjoikdaa
set_option linter.unusedVariables false

/-- How many are true. -/
def countB : List Bool → Nat
  | [] => 0
  | b :: l => b.toNat + countB l

theorem countB_append (a b : List Bool) : countB (a ++ b) = countB a + countB b := by
  induction a with
  | nil => simp [countB]
  | cons x a ih => simp [countB, ih]; omega

theorem countB_le (l : List Bool) : countB l ≤ l.length := by
  induction l with
  | nil => simp [countB]
  | cons x l ih => cases x <;> simp [countB] <;> omega

theorem countB_take (l : List Bool) (k : Nat) (b : Bool) (h : l[k]? = some b) : countB (l.take (k + 1)) = countB (l.take k) + b.toNat := by
  rw [List.take_add_one, h, countB_append]
  simp [countB]

theorem countB_zero (l : List Bool) (h : countB l = 0) : l = List.replicate l.length false := by
  induction l with
  | nil => rfl
  | cons x l ih =>
    cases x
    · simp [countB] at h
      rw [List.length_cons, List.replicate_succ, ← ih h]
    · exact absurd h (by rw [countB]; simp)

theorem countB_all (l : List Bool) (h : countB l = l.length) : l = List.replicate l.length true := by
  induction l with
  | nil => rfl
  | cons x l ih =>
    cases x
    · have h1 := countB_le l
      rw [countB, List.length_cons] at h
      simp at h
      omega
    · rw [countB, List.length_cons] at h
      simp at h
      rw [List.length_cons, List.replicate_succ, ← ih (by omega)]

theorem countB_replicate_true (n : Nat) : countB (List.replicate n true) = n := by
  induction n with
  | zero => rfl
  | succ n ih => rw [List.replicate_succ, countB, ih]; simp; omega

theorem countB_replicate_false (n : Nat) : countB (List.replicate n false) = 0 := by
  induction n with
  | zero => rfl
  | succ n ih => rw [List.replicate_succ, countB, ih]; rfl

def bitsN (l : List Bool) : List Nat := l.map Bool.toNat

theorem bitsN_lt (l : List Bool) : ∀ x ∈ bitsN l, x < 2 ^ 1 := by
  intro x hx
  obtain ⟨b, _, rfl⟩ := List.mem_map.1 hx
  cases b <;> decide

theorem bitsN_back (l : List Bool) : (bitsN l).map (· == 1) = l := by
  unfold bitsN
  rw [List.map_map]
  conv => rhs; rw [← List.map_id l]
  refine List.map_congr_left fun b _ => ?_
  cases b <;> rfl

/-- The bytes of bools. -/
def encN (l : List Bool) : List Nat :=
  numC l.length ++ (if countB l = 0 then [0] else if countB l = l.length then [1] else 2 :: packB 1 (bitsN l))

/-- The bools that bytes begin with behind how many they are, and what stands behind them. -/
def decK (n : Nat) (kind : Nat) (rest : List Nat) : Option (List Bool × List Nat) :=
  if kind = 0 then some (List.replicate n false, rest)
  else if kind = 1 ∧ 0 < n then some (List.replicate n true, rest)
  else if kind = 2 ∧ (n + 7) / 8 ≤ rest.length then
    match unpackB (rest.take ((n + 7) / 8)) 1 n with
    | none => none
    | some us => if countB (us.map (· == 1)) = 0 ∨ countB (us.map (· == 1)) = n then none else some (us.map (· == 1), rest.drop ((n + 7) / 8))
  else none

/-- The bools that bytes begin with. -/
def decN (b : List Nat) : Option (List Bool × List Nat) :=
  match nextC b with
  | none => none
  | some (n, k) => if 65535 < n then none else
    match b.drop k with
    | [] => none
    | kind :: rest => decK n kind rest

theorem decK_short (n : Nat) (rest : List Nat) (h : rest.length < (n + 7) / 8) : decK n 2 rest = none := by
  unfold decK
  rw [if_neg (by decide), if_neg (by omega), if_neg (by omega)]

theorem decK_none (n : Nat) (rest : List Nat) (h : (n + 7) / 8 ≤ rest.length) (hu : unpackB (rest.take ((n + 7) / 8)) 1 n = none) : decK n 2 rest = none := by
  unfold decK
  rw [if_neg (by decide), if_neg (by omega), if_pos ⟨rfl, h⟩, hu]

theorem decK_some (n : Nat) (rest : List Nat) (us : List Nat) (h : (n + 7) / 8 ≤ rest.length) (hu : unpackB (rest.take ((n + 7) / 8)) 1 n = some us) :
    decK n 2 rest = if countB (us.map (· == 1)) = 0 ∨ countB (us.map (· == 1)) = n then none else some (us.map (· == 1), rest.drop ((n + 7) / 8)) := by
  unfold decK
  rw [if_neg (by decide), if_neg (by omega), if_pos ⟨rfl, h⟩, hu]

theorem dec_enc (l : List Bool) (more : List Nat) (h : l.length ≤ 65535) : decN (encN l ++ more) = some (l, more) := by
  unfold decN encN
  rw [List.append_assoc, nextC_num _ _ (by omega)]
  simp only
  rw [if_neg (by omega), List.drop_left]
  by_cases h0 : countB l = 0
  · rw [if_pos h0]
    simp only [List.singleton_append]
    unfold decK
    rw [if_pos rfl, ← countB_zero l h0]
  · rw [if_neg h0]
    by_cases h1 : countB l = l.length
    · rw [if_pos h1]
      simp only [List.singleton_append]
      unfold decK
      rw [if_neg (by decide), if_pos ⟨rfl, by omega⟩, ← countB_all l h1]
    · rw [if_neg h1]
      simp only [List.cons_append]
      have hl : (packB 1 (bitsN l)).length = (l.length + 7) / 8 := by rw [packB_length]; unfold bitsN; rw [List.length_map, Nat.one_mul]
      have hu := unpack_pack 1 (bitsN l) (by decide) (by unfold bitsN; rw [List.length_map]; exact h) (bitsN_lt l)
      have hb : (bitsN l).length = l.length := by unfold bitsN; rw [List.length_map]
      unfold decK
      rw [if_neg (by decide), if_neg (by omega), if_pos ⟨rfl, by rw [List.length_append, hl]; omega⟩, ← hl, List.take_left, List.drop_left]
      rw [hb] at hu
      rw [show ((1 : Int)) = ((1 : Nat) : Int) from rfl, hu]
      simp only [bitsN_back]
      rw [if_neg (by omega)]

theorem encN_len (l : List Bool) : (encN l).length ≤ 11 + (l.length + 7) / 8 := by
  unfold encN
  have := (numC_len l.length).1
  have hl : (packB 1 (bitsN l)).length = (l.length + 7) / 8 := by rw [packB_length]; unfold bitsN; rw [List.length_map, Nat.one_mul]
  rw [List.length_append]
  split
  · simp; omega
  · split
    · simp; omega
    · rw [List.length_cons, hl]; omega

theorem encN_lt (l : List Bool) (h : l.length < 18446744073709551616) : ∀ x ∈ encN l, x < 256 := by
  intro x hx
  unfold encN at hx
  rw [List.mem_append] at hx
  rcases hx with hx | hx
  · exact numC_lt _ h x hx
  · split at hx
    · simp at hx; omega
    · split at hx
      · simp at hx; omega
      · rw [List.mem_cons] at hx
        rcases hx with rfl | hx
        · decide
        · exact packB_mem _ _ x hx

end Go.Proofs.Yteloepccjoikdaa

namespace Go.Proofs.Yteloepccjoikdaa
set_option linter.unusedVariables false
open Go.RowKit

theorem rdb_cells {w : World} {ao : Option Addr} {len cap : Nat} {bs : List Bool} (h : Rd w (.slice ao len cap) (bs.map boolv)) :
    len = bs.length ∧ (0 < len → ∃ b off, ao = some ⟨b, off, none⟩ ∧ ∀ i, i < len → w.cell? ⟨b, off + i, none⟩ = some (.bool (bs.getD i false))) := by
  obtain ⟨ao', cap', hv, _, hc⟩ := h
  simp only [List.length_map, Value.slice.injEq] at hv hc
  obtain ⟨rfl, hl, rfl⟩ := hv
  refine ⟨hl, fun hp => ?_⟩
  obtain ⟨b, off, ha, hcell⟩ := hc (by omega)
  refine ⟨b, off, ha, fun i hi => ?_⟩
  have := hcell i (by omega)
  rw [this, List.getD_eq_getElem?_getD, List.getElem?_map, List.getD_eq_getElem?_getD, List.getElem?_eq_getElem (show i < bs.length by omega)]
  rfl

theorem infob : (Try.prog.info? 4).map (fun i => (i.zero, i.size, i.bytes)) = some (some (.bool false), 1, 1) := by kernel_rfl

theorem madeb (n : Nat) : (madeCells (Value.bool false).cells (n * 1)).toList = (List.replicate n false).map boolv := by
  simp [madeCells, Value.cells, boolv, Nat.mul_one]
  rw [List.eq_replicate_iff]
  refine ⟨by simp, fun b hb => ?_⟩
  simp only [List.mem_map, List.mem_range] at hb
  obtain ⟨j, _, rfl⟩ := hb
  rw [Nat.mod_one]; rfl

/-- The first k of them are set. -/
def setTo {α : Type} (xs zs : List α) (k : Nat) : List α := xs.take k ++ zs.drop k

theorem setTo_step {α : Type} (xs zs : List α) (k : Nat) (x : α) (hx : xs[k]? = some x) (hz : k < zs.length) : (setTo xs zs k).set k x = setTo xs zs (k + 1) := by
  have hk : k < xs.length := (List.getElem?_eq_some_iff.1 hx).1
  unfold setTo
  rw [List.set_append_right _ _ (by rw [List.length_take]; omega), List.length_take, Nat.min_eq_left (by omega), Nat.sub_self, List.take_add_one, hx]
  rw [List.drop_eq_getElem_cons hz, List.set_cons_zero]
  simp

theorem setTo_keep {α : Type} (xs zs : List α) (k : Nat) (x : α) (hx : xs[k]? = some x) (hz : zs[k]? = some x) : setTo xs zs (k + 1) = setTo xs zs k := by
  have hk : k < zs.length := (List.getElem?_eq_some_iff.1 hz).1
  unfold setTo
  rw [List.take_add_one, hx, List.drop_eq_getElem_cons hk]
  rw [List.getElem?_eq_getElem hk] at hz
  simp only [Option.some.injEq] at hz
  rw [hz]
  simp

theorem setTo_length {α : Type} (xs zs : List α) (k : Nat) (h : xs.length = zs.length) (hk : k ≤ xs.length) : (setTo xs zs k).length = xs.length := by
  unfold setTo; rw [List.length_append, List.length_take, List.length_drop]; omega

end Go.Proofs.Yteloepccjoikdaa

namespace Go.Proofs.Yteloepccjoikdaa
set_option linter.unusedVariables false
open Go.RowKit

theorem ret_own {B : Nat} {E : TypeId} {xs : List Value} {v : Value} {n : Nat} {w w3 : World} (h : w3.ownsRow B E 1 v n xs) (hb : Below w.heap.size w w3) : RetOwn B E xs w (.returned v) w3 := by
  have hl : xs.length = n := by simpa using h.1
  subst hl
  obtain ⟨ao', cap', hv⟩ := own_shape h
  subst hv
  exact ⟨ao', cap', rfl, h, hb⟩

/-- Behind a growth of a row of one's own. -/
theorem below_own {w a b : World} {E : TypeId} {v : Value} {n : Nat} {xs : List Value} (hB : Below w.heap.size w a) (HO : a.ownsRow w.heap.size E 1 v n xs) (hg : a.grownBy b v.ownBlock) : Below w.heap.size w b :=
  hB.grown hg hB.size (by
    intro k hk
    rcases HO.2 with ⟨h, _⟩ | ⟨g', cap', cur, h, hbg, _⟩
    · rw [h] at hk; cases hk
    · rw [h] at hk; cases hk; exact hbg)

/-- A row of one's own, behind a call that turned nothing. -/
theorem own_below {a b : World} {B : Nat} {E : TypeId} {v : Value} {n : Nat} {xs : List Value} (h : a.ownsRow B E 1 v n xs) (hb : Below a.heap.size a b) : b.ownsRow B E 1 v n xs :=
  h.kept (grown_of_below hb none) (by
    cases h : v.ownBlock with
    | none => exact .inl rfl
    | some g => exact .inr (by intro h2; cases h2))

end Go.Proofs.Yteloepccjoikdaa

namespace Go.Proofs.Yteloepccjoikdaa
set_option linter.unusedVariables false
open Go.RowKit

/-- The call hands back bools and what stands behind them, or none. -/
def RetDec (o : Option (List Bool × List Nat)) (w : World) (e : Ending) (w' : World) : Prop :=
  (o = none ∧ e = .returned (.tuple #[.slice none 0 0, .slice none 0 0, .bool false]) ∧ Below w.heap.size w w') ∨
  ∃ l r ao len cap ao2 len2 cap2, o = some (l, r) ∧ e = .returned (.tuple #[.slice ao len cap, .slice ao2 len2 cap2, .bool true]) ∧ Rd w' (.slice ao len cap) (l.map boolv) ∧ Rd w' (.slice ao2 len2 cap2) (r.map u8v) ∧ Below w.heap.size w w'

/-- What stands behind the first q. -/
theorem rd_behind {w : World} {ao : Option Addr} {len cap q : Nat} {xs : List Value} (h : Rd w (.slice ao len cap) xs) (hq : q ≤ len) :
    Rd w (.slice (if cap = q then ao else Option.map (fun x => x.add q) ao) (len - q) (cap - q)) (xs.drop q) := by
  have hcl := rd_cap h
  by_cases hc : cap = q
  · rw [if_pos hc]
    have hl : len = q := by omega
    obtain ⟨ao', cap', hv, _, _⟩ := h
    simp only [Value.slice.injEq] at hv
    have hd : xs.drop q = [] := List.drop_of_length_le (by omega)
    rw [hd, show len - q = 0 by omega, show cap - q = 0 by omega]
    exact ⟨ao, 0, rfl, ⟨fun _ => rfl, by simp⟩, fun hp => by simp at hp⟩
  · rw [if_neg hc]
    have h' := h
    obtain ⟨ao', cap', hv, hcap, hcell⟩ := h
    simp only [Value.slice.injEq] at hv
    obtain ⟨rfl, hl, rfl⟩ := hv
    rcases ao with _ | a
    · have := hcap.1 rfl; omega
    · have hl2 : (xs.drop q).length = len - q := by rw [List.length_drop, hl]
      refine ⟨_, _, by rw [hl2], ⟨(fun h => by cases h), by rw [hl2]; omega⟩, fun hp => ?_⟩
      rw [hl2] at hp
      obtain ⟨b, off, ha, _⟩ := hcell (by omega)
      cases ha
      have h2 := rd_drop h' hq
      obtain ⟨a2, c2, hv2, _, hc2⟩ := h2
      simp only [Value.slice.injEq] at hv2
      obtain ⟨rfl, _, _⟩ := hv2
      obtain ⟨b2, off2, ha2, hc3⟩ := hc2 (by rw [hl2]; exact hp)
      cases ha2
      exact ⟨b, off + q, by simp [Addr.add], hc3⟩

theorem rd_drewN {w : World} {v : Value} {xs : List Value} (h : Rd w v xs) (k : Nat) : Rd (w.drewN k) v xs := h

end Go.Proofs.Yteloepccjoikdaa

namespace Go.Proofs.Yteloepccjoikdaa
set_option linter.unusedVariables false
open Go.RowKit

theorem nextF_bound : ∀ (l : List Nat) (i U u n : Nat), nextF i U l = some (u, n) → i < n ∧ n ≤ i + l.length
  | [], i, U, u, n, h => by rw [nextF] at h; cases h
  | c :: l, i, U, u, n, h => by
    rw [nextF] at h
    split at h
    · cases h
    · split at h
      · have := nextF_bound l _ _ u n h
        rw [List.length_cons]; omega
      · split at h
        · cases h
        · simp only [Option.some.injEq, Prod.mk.injEq] at h
          rw [List.length_cons]; omega

theorem nextC_bound (l : List Nat) (u n : Nat) (h : nextC l = some (u, n)) : 0 < n ∧ n ≤ l.length := by
  have := nextF_bound l 0 0 u n h
  omega

theorem decN_none (b : List Nat) (h : nextC b = none) : decN b = none := by unfold decN; rw [h]
theorem decN_many (b : List Nat) (n k : Nat) (h : nextC b = some (n, k)) (hn : 65535 < n) : decN b = none := by unfold decN; rw [h]; simp only; rw [if_pos hn]
theorem decN_end (b : List Nat) (n k : Nat) (h : nextC b = some (n, k)) (hd : b.drop k = []) : decN b = none := by
  unfold decN; rw [h]; simp only; rw [hd]; simp
theorem decN_kind (b : List Nat) (n k kind : Nat) (rest : List Nat) (h : nextC b = some (n, k)) (hn : n ≤ 65535) (hd : b.drop k = kind :: rest) : decN b = decK n kind rest := by
  unfold decN; rw [h]; simp only; rw [if_neg (by omega), hd]

end Go.Proofs.Yteloepccjoikdaa
