/-
  What the walks stand on.
  Contract of layer 6's Schema: a schema that may be.
  Slices of things of some cells each, as they read; values, rows of them, schemas.
  Plain: orders told by -1, 0, 1; those of values and of rows.
  Contracts: bytes.Compare, cmp.Compare at int64, schm.Compare, schm.Rows.
  Contract of layer 6's Value.
  Contracts: schm.Compare, Rows, fits, Fits; the reference's SameVal, SameRow.
  Contracts: the reference's SameVal, SameRow; schm.Rows, schm.Fits.
  Contracts: the reference's SameRow; how values lie.
  Contracts: slices.CompareFunc at values, schm.Rows.
  Contract of schm.Fits.
  Contract of layer 6's Row.
  Plain: rows of numbers are such as may be; their order.
-/
import Derived.Test.YtnfjdoeemnhkbaaRows
import Derived.Test.YtnfjdoeemnhkbaaLone
import Derived.WalkSpells
import Derived.WalkLawsBesides
import Derived.BigQuiet
import Derived.IntWalk
import Derived.Lib.Hide
import Derived.OwnWalk
import Derived.Deep.RegionHeld3
import Derived.Deep.AppendLies
import Derived.Deep.RegionLaw
import Derived.BigRegion
import Derived.RegionTactic
import Derived.Shelf.Slices.Clone
import Derived.StillTactics
import Derived.Laws.Pointers
import Derived.Lib.BytesEntry
import Derived.Laws.IdiomStrings
import Derived.Lib.BufferRead
import Derived.Lib.SmallJoins
namespace Go.Proofs.Ytnfjdoeemnhkbaa
set_option linter.unusedVariables false
open Go.RowKit


theorem own_base {w : World} {B : Nat} {E : TypeId} {size n : Nat} {v : Value} {xs : List Value} (h : w.ownsRow B E size v n xs) : ∀ k, v.ownBlock = some k → B ≤ k := by
  intro k hk
  rcases h.2 with ⟨rfl, _⟩ | ⟨g, cap, cur, rfl, hbg, _⟩
  · cases hk
  · have h2 : g = k := by simpa [Value.ownBlock] using hk
    omega

theorem rdz_cells {w : World} {ao : Option Addr} {len cap : Nat} {xs : List Int} (h : Rd w (.slice ao len cap) (xs.map (Value.int .i64))) :
    len = xs.length ∧ (0 < len → ∃ b off, ao = some ⟨b, off, none⟩ ∧ ∀ i, i < len → w.cell? ⟨b, off + i, none⟩ = some (.int .i64 (xs.getD i 0))) := by
  obtain ⟨ao', cap', hv, _, hc⟩ := h
  simp only [List.length_map, Value.slice.injEq] at hv hc
  obtain ⟨rfl, hl, rfl⟩ := hv
  refine ⟨hl, fun hp => ?_⟩
  obtain ⟨b, off, ha, hcell⟩ := hc (by omega)
  refine ⟨b, off, ha, fun i hi => ?_⟩
  have := hcell i (by omega)
  rw [this, List.getD_eq_getElem?_getD, List.getElem?_map, List.getD_eq_getElem?_getD, List.getElem?_eq_getElem (show i < xs.length by omega)]
  rfl

theorem and_some (a M : Int) (m : Nat) (hM : M = (m : Int)) (hm : m ≤ 1000000) : ∃ c : Nat, bits .and .i64 a M = (c : Int) ∧ c ≤ m := by
  subst hM
  have h : bits .and .i64 a (m : Int) = IntKind.i64.wrap ((BitVec.ofInt 64 a &&& BitVec.ofInt 64 (m : Int)).toNat : Int) := rfl
  have h1 : (BitVec.ofInt 64 a &&& BitVec.ofInt 64 (m : Int)).toNat ≤ m := by
    rw [BitVec.toNat_and]
    refine Nat.le_trans Nat.and_le_right ?_
    rw [BitVec.ofInt_natCast, BitVec.toNat_ofNat]
    exact Nat.mod_le _ _
  refine ⟨(BitVec.ofInt 64 a &&& BitVec.ofInt 64 (m : Int)).toNat, ?_, h1⟩
  rw [h, IntWalk.i64_in _ (by omega)]

theorem below_own_any {w a b : World} {E : TypeId} {sz : Nat} {v : Value} {n : Nat} {xs : List Value} (hB : Below w.heap.size w a) (HO : a.ownsRow w.heap.size E sz v n xs) (hg : a.grownBy b v.ownBlock) : Below w.heap.size w b :=
  hB.grown hg hB.size (own_base HO)

end Go.Proofs.Ytnfjdoeemnhkbaa

namespace Go.Proofs.Ytnfjdoeemnhkbaa
set_option linter.unusedVariables false
open Go.RowKit

/-- A column. -/
structure Co where
  n : ByteArray
  k : Int
  u : Bool
def Co.cells (c : Co) : List Value := [.string c.n, .int .i64 c.k, .bool c.u]
def flatC : List Co → List Value
  | [] => []
  | t :: r => t.cells ++ flatC r
theorem flatC_len (l : List Co) : (flatC l).length = l.length * 3 := by
  induction l with
  | nil => rfl
  | cons t r ih => rw [flatC, List.length_append, ih, List.length_cons, Nat.succ_mul]; simp [Co.cells]; omega
theorem flatC_append (a b : List Co) : flatC (a ++ b) = flatC a ++ flatC b := by
  induction a with
  | nil => rfl
  | cons t r ih => rw [List.cons_append, flatC, ih, flatC, List.append_assoc]

theorem infoCol : (Try.prog.info? 55).map (fun i => (i.zero, i.size, i.bytes)) = some (some (.agg #[.string .empty, .int .i64 0, .bool false]), 3, 32) := by kernel_rfl

theorem and_one (x : Int) : bits .and .i64 x 1 = x % 2 := by
  have h : bits .and .i64 x 1 = IntKind.i64.wrap ((BitVec.ofInt 64 x &&& BitVec.ofInt 64 1).toNat : Int) := rfl
  have h1 : (BitVec.ofInt 64 x &&& BitVec.ofInt 64 1).toNat = (x % 2).toNat := by
    rw [BitVec.toNat_and, show (BitVec.ofInt 64 1).toNat = 1 from rfl, Nat.and_one_is_mod, BitVec.toNat_ofInt]
    omega
  rw [h, h1, IntWalk.i64_in _ (by omega)]
  omega

def nameOf (i : Nat) : ByteArray := match i with
  | 0 => ⟨#[97]⟩
  | 1 => ⟨#[98, 98]⟩
  | 2 => ⟨#[99, 99, 99]⟩
  | 3 => ⟨#[110, 117, 108, 108]⟩
  | _ => ⟨#[97, 110, 100]⟩
/-- The columns of a number, so many. -/
def colsOf (l : List (Int × Bool)) : List Co := ⟨⟨#[107, 101, 121]⟩, 1, false⟩ :: (l.zipIdx.map fun (c, i) => ⟨nameOf i, c.1, c.2⟩)

/-- The columns so far: each a kind of two, and whether it may be null. -/
def Kinds (l : List (Int × Bool)) : Prop := ∀ c ∈ l, c.1 = 1 ∨ c.1 = 2

structure SInv (w : World) (l : List (Int × Bool)) (v : Value) (wr : World) : Prop where
  h2 : wr.heap[w.heap.size]? = some (.cells #[.slice none 0 0] 25 (0, 0))
  h3 : wr.heap[w.heap.size + 1 + 1]? = some (.cells #[v] 25 (0, 0))
  h4 : wr.heap[w.heap.size + 1 + 1 + 1]? = some (.cells #[.string ⟨#[97]⟩, .string ⟨#[98, 98]⟩, .string ⟨#[99, 99, 99]⟩, .string ⟨#[110, 117, 108, 108]⟩, .string ⟨#[97, 110, 100]⟩] 9 (0, 0))
  own : wr.ownsRow w.heap.size 55 3 v (l.length + 1) (flatC (colsOf l))
  far : ∀ g, v.ownBlock = some g → g ≠ w.heap.size ∧ g ≠ w.heap.size + 1 + 1 ∧ g ≠ w.heap.size + 1 + 1 + 1
  bel : Below w.heap.size w wr

theorem cols_more (l : List (Int × Bool)) (c : Int × Bool) : colsOf (l ++ [c]) = colsOf l ++ [⟨nameOf l.length, c.1, c.2⟩] := by
  unfold colsOf
  rw [List.zipIdx_append, List.map_append]
  simp

theorem kinds_more {l : List (Int × Bool)} (h : Kinds l) (a : Int) (b : Bool) (ha : a = 1 ∨ a = 2) : Kinds (l ++ [(a, b)]) := fun c hc => by
  rcases List.mem_append.1 hc with h1 | h1
  · exact h c h1
  · have : c = (a, b) := by simpa using h1
    rw [this]; exact ha

theorem sinv_next {w wo w1 : World} {l : List (Int × Bool)} {ao : Option Addr} {k cap gg cap1 : Nat} {A : Int} {B : Bool} {o : Obj} (h : SInv w l (.slice ao (k + 1) cap) wo) (hll : l.length = k)
    (hgrow : (wo.alloc o).drew.grownBy w1 (Value.slice ao (k + 1) cap).ownBlock) (hat : (Value.slice ao (k + 1) cap).ownBlock = some gg ∨ gg = wo.heap.size + 1)
    (hown1 : w1.ownsRow w.heap.size 55 3 (.slice (some ⟨gg, 0, none⟩) (k + 1 + 1) cap1) (k + 1 + 1) (flatC (colsOf l) ++ [.string (nameOf k), .int .i64 A, .bool B])) :
    SInv w (l ++ [(A, B)]) (.slice (some ⟨gg, 0, none⟩) (k + 1 + 1) cap1) (w1.setCell ⟨w.heap.size + 1 + 1, 0, none⟩ (.slice (some ⟨gg, 0, none⟩) (k + 1 + 1) cap1)) := by
  have hs : (wo.alloc o).drew.heap.size = wo.heap.size + 1 := by simp
  have lt4 : w.heap.size + 1 + 1 + 1 < wo.heap.size := (Array.getElem?_eq_some_iff.1 h.h4).1
  have keep : ∀ X ob, X < wo.heap.size → (∀ g, (Value.slice ao (k + 1) cap).ownBlock = some g → g ≠ X) → wo.heap[X]? = some ob → w1.heap[X]? = some ob := fun X ob hX hne hx =>
    (hgrow.block X (by rw [hs]; omega) (fun e => hne X e.symm rfl)).trans ((heap_alloc_old wo _ hX).trans hx)
  have hgg : gg ≠ w.heap.size ∧ gg ≠ w.heap.size + 1 + 1 ∧ gg ≠ w.heap.size + 1 + 1 + 1 := by
    rcases hat with h1 | h1
    · exact h.far gg h1
    · omega
  have h2 := keep _ _ (by omega) (fun g hg => (h.far g hg).1) h.h2
  have h3 := keep _ _ (by omega) (fun g hg => (h.far g hg).2.1) h.h3
  have h4 := keep _ _ (by omega) (fun g hg => (h.far g hg).2.2) h.h4
  refine ⟨?_, ?_, ?_, ?_, fun g hg => ?_, ?_⟩
  · rw [heap_setCell_other w1 ⟨w.heap.size + 1 + 1, 0, none⟩ _ _ (show w.heap.size ≠ w.heap.size + 1 + 1 by omega)]; exact h2
  · exact heap_setCell_same w1 (w.heap.size + 1 + 1) 0 _ _ _ h3
  · rw [heap_setCell_other w1 ⟨w.heap.size + 1 + 1, 0, none⟩ _ _ (show w.heap.size + 1 + 1 + 1 ≠ w.heap.size + 1 + 1 by omega)]; exact h4
  · have k1 := hown1.kept (grown_setCell w1 ⟨w.heap.size + 1 + 1, 0, none⟩ (.slice (some ⟨gg, 0, none⟩) (k + 1 + 1) cap1)) (.inr (by simp [Value.ownBlock]; exact hgg.2.1))
    rw [List.length_append, hll, cols_more, flatC_append, hll]
    exact k1
  · have : gg = g := by simpa [Value.ownBlock] using hg
    rw [← this]; exact hgg
  · exact ((((h.bel.alloc h.bel.size o).drew).grown hgrow (by rw [hs]; have := h.bel.size; omega) (own_base h.own)).setCell (show w.heap.size ≤ w.heap.size + 1 + 1 by omega) _)

theorem infoSchema : (Try.prog.info? 25).map (·.size) = some 1 := by kernel_rfl

theorem sinv_start (w : World) : SInv w [] (.slice (some ⟨w.heap.size + 1, 0, none⟩) 1 1) ((((w.alloc (.cells #[.slice none 0 0] 25)).alloc (.cells #[.string ⟨#[107, 101, 121]⟩, .int .i64 1, .bool false] 55)).alloc (.cells #[.slice (some ⟨w.heap.size + 1, 0, none⟩) 1 1] 25)).alloc (.cells #[.string ⟨#[97]⟩, .string ⟨#[98, 98]⟩, .string ⟨#[99, 99, 99]⟩, .string ⟨#[110, 117, 108, 108]⟩, .string ⟨#[97, 110, 100]⟩] 9)) := by
  have n1 := heap_alloc_new w (.cells #[.slice none 0 0] 25)
  have s1 : (w.alloc (.cells #[.slice none 0 0] 25)).heap.size = w.heap.size + 1 := by simp
  have hb1 := (Below.refl w.heap.size w).alloc (Nat.le_refl _) (.cells #[.slice none 0 0] 25)
  have hown := World.ownsRow_lit (base := w.heap.size) (size := 3) (e := 55) (w.alloc (.cells #[.slice none 0 0] 25)) #[.string ⟨#[107, 101, 121]⟩, .int .i64 1, .bool false] 1 (by rw [s1]; omega) (by decide) rfl
  rw [s1] at hown
  revert n1 s1 hb1 hown
  generalize w.alloc (.cells #[.slice none 0 0] 25) = w1
  intro n1 s1 hb1 hown
  have o2 := heap_alloc_old w1 (.cells #[.string ⟨#[107, 101, 121]⟩, .int .i64 1, .bool false] 55) (r := w.heap.size) (by omega)
  rw [n1] at o2
  have s2 : (w1.alloc (.cells #[.string ⟨#[107, 101, 121]⟩, .int .i64 1, .bool false] 55)).heap.size = w.heap.size + 1 + 1 := by simp [s1]
  have hb2 := hb1.alloc (by omega) (.cells #[.string ⟨#[107, 101, 121]⟩, .int .i64 1, .bool false] 55)
  revert o2 s2 hb2 hown
  generalize w1.alloc (.cells #[.string ⟨#[107, 101, 121]⟩, .int .i64 1, .bool false] 55) = w2
  intro hown o2 s2 hb2
  have n3 := heap_alloc_new w2 (.cells #[.slice (some ⟨w.heap.size + 1, 0, none⟩) 1 1] 25)
  rw [s2] at n3
  have o3 := (heap_alloc_old w2 (.cells #[.slice (some ⟨w.heap.size + 1, 0, none⟩) 1 1] 25) (r := w.heap.size) (by omega)).trans o2
  have s3 : (w2.alloc (.cells #[.slice (some ⟨w.heap.size + 1, 0, none⟩) 1 1] 25)).heap.size = w.heap.size + 1 + 1 + 1 := by simp [s2]
  have hb3 := hb2.alloc (by omega) (.cells #[.slice (some ⟨w.heap.size + 1, 0, none⟩) 1 1] 25)
  have hown3 := hown.kept (World.grownBy_alloc w2 (.cells #[.slice (some ⟨w.heap.size + 1, 0, none⟩) 1 1] 25) none) (by first | exact .inr (by simp [Value.ownBlock]) | simp [Value.ownBlock])
  revert n3 o3 s3 hb3 hown3
  generalize w2.alloc (.cells #[.slice (some ⟨w.heap.size + 1, 0, none⟩) 1 1] 25) = w3
  intro n3 o3 s3 hb3 hown3
  have n4 := heap_alloc_new w3 (.cells #[.string ⟨#[97]⟩, .string ⟨#[98, 98]⟩, .string ⟨#[99, 99, 99]⟩, .string ⟨#[110, 117, 108, 108]⟩, .string ⟨#[97, 110, 100]⟩] 9)
  rw [s3] at n4
  refine ⟨(heap_alloc_old w3 _ (by omega)).trans o3, (heap_alloc_old w3 _ (by omega)).trans n3, n4, ?_, fun g hg => ?_, hb3.alloc (by omega) _⟩
  · exact hown3.kept (World.grownBy_alloc w3 _ none) (by first | exact .inr (by simp [Value.ownBlock]) | simp [Value.ownBlock])
  · have : w.heap.size + 1 = g := by simpa [Value.ownBlock] using hg
    omega

/-- The kind of the k-th column behind the key, and whether it may be null. -/
def kdOf (n : Int) (k : Nat) : Int × Bool := (n / 2 ^ min (IntKind.u64.wrap (8 + 2 * (k : Int))).toNat 64 % 2 + 1, n / 2 ^ min (IntKind.u64.wrap (9 + 2 * (k : Int))).toNat 64 % 2 == 1)
/-- The columns behind the key, of a number. -/
def kindsOf (n : Int) : List (Int × Bool) := (List.range ((bits .and .i64 n 255).toNat % 6)).map (kdOf n)

set_option maxRecDepth 100000 in
set_option maxHeartbeats 4000000 in
theorem schema_is (n : Int) (w : World) :
    Calls Try.prog 9 #[.int .i64 n] w fun e w' => ∃ ao cap l, e = .returned (.agg #[.slice ao (l.length + 1) cap]) ∧ l.length ≤ 5 ∧ Kinds l ∧
      w'.ownsRow w.heap.size 55 3 (.slice ao (l.length + 1) cap) (l.length + 1) (flatC (colsOf l)) ∧ Below w.heap.size w w' ∧ l = kindsOf n := by
  obtain ⟨i0, hi, hz0, hz1, hz2⟩ := info_parts infoCol
  obtain ⟨c, hc, hc1⟩ := and_some n 255 255 rfl (by decide)
  have HCN := Lib.hid (show kindsOf n = (List.range (c % 6)).map (kdOf n) by unfold kindsOf; rw [hc]; rfl)
  go_enter Try.func9, Try.ntmps9
  go_wp2_with fail
  have hW := sinv_start w
  go_loopw [5] (fun i wr => ∃ k : Nat, ∃ l ao cap, k ≤ 5 ∧ i = .int .i64 (k : Int) ∧ l.length = k ∧ Kinds l ∧ (k ≤ c % 6 ∧ l = (List.range k).map (kdOf n)) ∧ SInv w l (.slice ao (k + 1) cap) wr) (fun i _ => 5 - (intOf i).toNat)
  case atStart => exact ⟨0, [], _, _, by omega, rfl, rfl, (fun c h => by cases h), ⟨by omega, rfl⟩, hW⟩
  case round =>
    obtain ⟨k, l, ao, cap, hk, rfl, hll, hkk, hke, hinv⟩ := hrel
    have HKE := Lib.hid hke
    obtain ⟨wo, rfl⟩ : ∃ wo : World, wo = wr := ⟨_, rfl⟩
    have HI := Lib.hid hinv
    have HL := Lib.hid hll
    have HK := Lib.hid hkk
    clear hinv hll hkk hW hke
    by_cases hlt : k < c % 6 ∧ k < 5
    · obtain ⟨hlt1, hlt2⟩ := hlt
      have hd1 : decide ((k : Int) < (c : Int) % 6) = true := by rw [decide_eq_true_eq]; omega
      have hd2 : decide ((k : Int) < 5) = true := by rw [decide_eq_true_eq]; omega
      have c3 : wo.cell? ⟨w.heap.size + 1 + 1, 0, none⟩ = some (.slice ao (k + 1) cap) := by rw [cell_of_row wo _ 0 _ _ _ HI.out.h3]; rfl
      have f3 : wo.frozen? ⟨w.heap.size + 1 + 1, 0, none⟩ = false := frozen_of_row wo _ 0 _ _ HI.out.h3
      have c4 : wo.cell? ⟨w.heap.size + 1 + 1 + 1, k, none⟩ = some (.string (nameOf k)) := by
        rw [cell_of_row wo _ k _ _ _ HI.out.h4]
        rcases (by omega : k = 0 ∨ k = 1 ∨ k = 2 ∨ k = 3 ∨ k = 4) with rfl | rfl | rfl | rfl | rfl <;> rfl
      have hb := and_one
      have hi5 : (k : Int) < 5 := by omega
      have e1 : IntKind.i64.wrap (2 * (k : Int)) = 2 * (k : Int) := IntWalk.i64_in _ (by omega)
      have e2 : IntKind.i64.wrap (8 + 2 * (k : Int)) = 8 + 2 * (k : Int) := IntWalk.i64_in _ (by omega)
      have e3 : IntKind.i64.wrap (9 + 2 * (k : Int)) = 9 + 2 * (k : Int) := IntWalk.i64_in _ (by omega)
      have e4 : ∀ x : Int, IntKind.i64.wrap (x % 2 + 1) = x % 2 + 1 := fun x => IntWalk.i64_in _ (by omega)
      have hsz := HI.out.bel.size
      have HO := Lib.hid (show wo.ownsRow w.heap.size 55 3 (.slice ao (k + 1) cap) (k + 1) (flatC (colsOf l)) by have := HI.out.own; rw [HL.out] at this; exact this)
      have hx3 := World.block_lt_of_cell? wo _ c3
      have HNE := Lib.hid (show (Value.slice ao (k + 1) cap).ownBlock ≠ some (w.heap.size + 1 + 1) from fun h => (HI.out.far _ h).2.1 rfl)
      go_wp2_with fail
      go_region_law
        ((refine step_append_lies _ (by rfl) _ _ _ (by rfl) w.heap.size 55 i0 _ 3 32 Try.underlying23 hi hz0 hz1 hz2 rfl (by omega) (.slice ao (k + 1) cap) (k + 1) (flatC (colsOf l)) (by rfl) ((HO.out.alloc _).drew)
            ⟨wo.heap.size, 0, none⟩ 1 1 [.string (nameOf k), .int .i64 (n / 2 ^ min (IntKind.u64.wrap (8 + 2 * (k : Int))).toNat 64 % 2 + 1), .bool (n / 2 ^ min (IntKind.u64.wrap (9 + 2 * (k : Int))).toNat 64 % 2 == 1)] (by rfl) (by rfl) (World.news_of_block (cs := #[.string (nameOf k), .int .i64 (n / 2 ^ min (IntKind.u64.wrap (8 + 2 * (k : Int))).toNat 64 % 2 + 1), .bool (n / 2 ^ min (IntKind.u64.wrap (9 + 2 * (k : Int))).toNat 64 % 2 == 1)]) (t := 55) (fr := (0, 0)) (heap_alloc_new wo _)) (by simp [Value.oneCell'])
            (by omega) (by unfold maxLen; omega) (by omega) (by simp; omega) (wo.heap.size + 1) (by simp) ?_; intro gg cap1 w1 hown1 hgrow hat hlt; have hf1 : w1.frozen? ⟨w.heap.size + 1 + 1, 0, none⟩ = false := (World.frozen?_of_block (a := ⟨w.heap.size + 1 + 1, 0, none⟩) (hgrow.block (w.heap.size + 1 + 1) (by simp; omega) (Ne.symm HNE.out))).trans ((frozen?_alloc_cells _ _ _ _).trans f3); have hcw : w1.cell? ⟨w.heap.size + 1 + 1, 0, none⟩ = some (.slice ao (k + 1) cap) := (hgrow.cell_far ⟨w.heap.size + 1 + 1, 0, none⟩ (by simp; omega) (Ne.symm HNE.out)).trans (Lib.cell?_alloc_some _ c3)))
      all_goals
        go_wp2
        go_roundw
        case rel => exact ⟨k + 1, l ++ [((n / 2 ^ min (IntKind.u64.wrap (8 + 2 * (k : Int))).toNat 64 % 2 + 1), (n / 2 ^ min (IntKind.u64.wrap (9 + 2 * (k : Int))).toNat 64 % 2 == 1))], _, _, by omega, by go_num, by rw [List.length_append, HL.out]; rfl, kinds_more HK.out _ _ (by omega), ⟨by omega, by rw [List.range_succ, List.map_append, ← HKE.out.2]; rfl⟩, sinv_next HI.out HL.out hgrow hat hown1⟩
        case measure => simp [intOf]; omega
    · have h2 := HI.out.h2
      have h3 := HI.out.h3
      have c3 : wo.cell? ⟨w.heap.size + 1 + 1, 0, none⟩ = some (.slice ao (k + 1) cap) := by rw [cell_of_row wo _ 0 _ _ _ h3]; rfl
      have c2 : wo.cell? ⟨w.heap.size, 0, none⟩ = some (.slice none 0 0) := by rw [cell_of_row wo _ 0 _ _ _ h2]; rfl
      have f2 : wo.frozen? ⟨w.heap.size, 0, none⟩ = false := frozen_of_row wo _ 0 _ _ h2
      have HE := Lib.hid (heap_setCell_same wo w.heap.size 0 _ _ (.slice ao (k + 1) cap) h2)
      have HF := Lib.hid (show (Value.slice ao (k + 1) cap).ownBlock ≠ some w.heap.size from fun h => (HI.out.far _ h).1 rfl)
      have HO := Lib.hid (show wo.ownsRow w.heap.size 55 3 (.slice ao (l.length + 1) cap) (l.length + 1) (flatC (colsOf l)) by have := HI.out.own; rw [HL.out] at this ⊢; exact this)
      clear h2 h3
      have hg : (decide ((k : Int) < (c : Int) % 6) && decide ((k : Int) < 5)) = false := by
        rw [Bool.and_eq_false_iff, decide_eq_false_iff_not, decide_eq_false_iff_not]; omega
      go_wp2_with fail
      refine bodyPost_ret (results_cell_row rfl _ _ w.heap.size _ _ (0, 0) _ rfl HE.out Try.underlying25 rfl infoSchema) rfl ?_
      exact ⟨ao, cap, l, by rw [HL.out]; rfl, by rw [HL.out]; exact hk, HK.out, HO.out.kept (grown_setCell wo ⟨w.heap.size, 0, none⟩ (.slice ao (k + 1) cap)) (.inr (by rw [HL.out]; exact HF.out)), HI.out.bel.setCell (Nat.le_refl _) _, by
        rw [HCN.out, HKE.out.2]
        have h1 := HKE.out.1
        have h2 : k = c % 6 := by omega
        rw [h2]⟩

theorem schema_any (n : Int) (w : World) :
    Calls Try.prog 9 #[.int .i64 n] w fun e w' => ∃ ao cap l, e = .returned (.agg #[.slice ao (l.length + 1) cap]) ∧ l.length ≤ 5 ∧ Kinds l ∧
      w'.ownsRow w.heap.size 55 3 (.slice ao (l.length + 1) cap) (l.length + 1) (flatC (colsOf l)) ∧ Below w.heap.size w w' :=
  (schema_is n w).mono fun e w' ⟨ao, cap, l, h1, h2, h3, h4, h5, _⟩ => ⟨ao, cap, l, h1, h2, h3, h4, h5⟩

end Go.Proofs.Ytnfjdoeemnhkbaa

namespace Go.Proofs.Ytnfjdoeemnhkbaa
set_option linter.unusedVariables false
open Go.RowKit

/-- v is a slice that reads as these things, of sz cells each. -/
def RdS (w : World) (sz : Nat) (v : Value) (ls : List (List Value)) : Prop :=
  ∃ ao cap, v = .slice ao ls.length cap ∧ ((ao = none → cap = 0) ∧ ls.length ≤ cap) ∧
    ∀ k t, ls[k]? = some t → ∃ b off, ao = some ⟨b, off, none⟩ ∧ ∀ j u, t[j]? = some u → w.cell? ⟨b, off + k * sz + j, none⟩ = some u

theorem RdS.kept {w w' : World} {sz : Nat} {v : Value} {ls : List (List Value)} (h : RdS w sz v ls) (hb : Below w.heap.size w w') : RdS w' sz v ls := by
  obtain ⟨ao, cap, hv, hn, hc⟩ := h
  refine ⟨ao, cap, hv, hn, fun k t ht => ?_⟩
  obtain ⟨b, off, ha, hcell⟩ := hc k t ht
  refine ⟨b, off, ha, fun j u hu => ?_⟩
  have h1 := hcell j u hu
  exact (hb.cell (p := ⟨b, off + k * sz + j, none⟩) (World.block_lt_of_cell? _ _ h1)).trans h1

theorem flatten_at : ∀ (ls : List (List Value)) (sz : Nat), (∀ t ∈ ls, t.length = sz) → ∀ k t j u, ls[k]? = some t → t[j]? = some u → ls.flatten[k * sz + j]? = some u
  | [], _, _, k, t, j, u, hk, _ => by simp at hk
  | x :: r, sz, hl, 0, t, j, u, hk, hj => by
    simp only [List.getElem?_cons_zero, Option.some.injEq] at hk
    subst hk
    rw [List.flatten_cons, Nat.zero_mul, Nat.zero_add, List.getElem?_append_left (List.getElem?_eq_some_iff.1 hj).1]
    exact hj
  | x :: r, sz, hl, k + 1, t, j, u, hk, hj => by
    rw [List.getElem?_cons_succ] at hk
    have hx := hl x List.mem_cons_self
    rw [List.flatten_cons, List.getElem?_append_right (by rw [hx, Nat.add_mul]; omega), hx, show (k + 1) * sz + j - sz = k * sz + j by rw [Nat.add_mul]; omega]
    exact flatten_at r sz (fun t ht => hl t (List.mem_cons_of_mem _ ht)) k t j u hk hj

theorem flatten_len (ls : List (List Value)) (sz : Nat) (h : ∀ t ∈ ls, t.length = sz) : ls.flatten.length = ls.length * sz := by
  induction ls with
  | nil => simp
  | cons x r ih => rw [List.flatten_cons, List.length_append, ih (fun t ht => h t (List.mem_cons_of_mem _ ht)), h x List.mem_cons_self, List.length_cons, Nat.add_mul]; omega

theorem rdS_own {w : World} {B : Nat} {E : TypeId} {sz : Nat} {v : Value} {n : Nat} {ls : List (List Value)} (h : w.ownsRow B E sz v n ls.flatten) (hn : n = ls.length) (hl : ∀ t ∈ ls, t.length = sz) : RdS w sz v ls := by
  subst hn
  have h0 := h
  rcases h.2 with ⟨rfl, h1⟩ | ⟨g, cap, cur, rfl, hbg, hh, r⟩
  · have : ls = [] := List.length_eq_zero_iff.1 h1
    subst this
    exact ⟨none, 0, rfl, ⟨fun _ => rfl, by simp⟩, fun k t hk => by simp at hk⟩
  · refine ⟨some ⟨g, 0, none⟩, cap, rfl, ⟨(fun h => by cases h), r.1⟩, fun k t hk => ⟨g, 0, rfl, fun j u hu => ?_⟩⟩
    have hkl := (List.getElem?_eq_some_iff.1 hk).1
    have hjl := (List.getElem?_eq_some_iff.1 hu).1
    have htl := hl t (List.mem_of_getElem? hk)
    have hlt : k * sz + j < ls.length * sz := by
      have : (k + 1) * sz ≤ ls.length * sz := Nat.mul_le_mul_right _ hkl
      rw [Nat.add_mul] at this
      omega
    rw [Nat.zero_add, h0.cellAt (k * sz + j) hlt]
    exact flatten_at ls sz hl k t j u hk hu

theorem rdS_shape {w : World} {sz : Nat} {v : Value} {ls : List (List Value)} (h : RdS w sz v ls) : ∃ ao cap, v = .slice ao ls.length cap := by
  obtain ⟨ao, cap, hv, _⟩ := h
  exact ⟨ao, cap, hv⟩

/-- The cells of the k-th thing. -/
theorem RdS.at {w : World} {sz : Nat} {ao : Option Addr} {len cap : Nat} {ls : List (List Value)} (h : RdS w sz (.slice ao len cap) ls) {k : Nat} {t : List Value} (hk : ls[k]? = some t) :
    ∃ b off, ao = some ⟨b, off, none⟩ ∧ ∀ j u, t[j]? = some u → w.cell? ⟨b, off + k * sz + j, none⟩ = some u := by
  obtain ⟨ao', cap', hv, _, hc⟩ := h
  simp only [Value.slice.injEq] at hv
  rw [hv.1]
  exact hc k t hk

theorem RdS.nil (w : World) (sz : Nat) : RdS w sz (.slice none 0 0) [] := ⟨none, 0, rfl, ⟨fun _ => rfl, by simp⟩, fun k t h => by simp at h⟩

/-! Columns. -/
theorem flatC_eq (l : List Co) : flatC l = (l.map Co.cells).flatten := by
  induction l with
  | nil => rfl
  | cons t r ih => rw [flatC, ih]; rfl
/-- v is a slice that reads as these columns. -/
def RdC (w : World) (v : Value) (l : List Co) : Prop := RdS w 3 v (l.map Co.cells)
theorem rdC_own {w : World} {B : Nat} {v : Value} {n : Nat} {l : List Co} {E : TypeId} (h : w.ownsRow B E 3 v n (flatC l)) (hn : n = l.length) : RdC w v l := by
  rw [flatC_eq] at h
  refine rdS_own h (by simpa using hn) fun t ht => ?_
  obtain ⟨c, _, rfl⟩ := List.mem_map.1 ht
  rfl
def Co.agg (c : Co) : Value := .agg #[.string c.n, .int .i64 c.k, .bool c.u]

/-! Values. -/
/-- What a value is. -/
structure Vc where
  u : Bool
  k : Int
  n : Int
  b : List Nat
/-- The cells of a value whose bytes lie in that slice. -/
def cellsV (p : Vc × Value) : List Value := [.bool p.1.u, .int .i64 p.1.k, .int .i64 p.1.n, p.2]
def aggV (p : Vc × Value) : Value := .agg #[.bool p.1.u, .int .i64 p.1.k, .int .i64 p.1.n, p.2]
/-- They do lie there. -/
def OkV (w : World) (p : Vc × Value) : Prop := Rd w p.2 (p.1.b.map u8v) ∧ ∀ x ∈ p.1.b, x < 256
theorem OkV.kept {w w' : World} {p : Vc × Value} (h : OkV w p) (hb : Below w.heap.size w w') : OkV w' p := ⟨h.1.kept hb, h.2⟩
/-- v is a slice that reads as these values. -/
def RdP (w : World) (v : Value) (l : List (Vc × Value)) : Prop := RdS w 4 v (l.map cellsV) ∧ ∀ t ∈ l, OkV w t
theorem RdP.kept {w w' : World} {v : Value} {l : List (Vc × Value)} (h : RdP w v l) (hb : Below w.heap.size w w') : RdP w' v l := ⟨h.1.kept hb, fun t ht => (h.2 t ht).kept hb⟩
/-- .. wherever their bytes lie. -/
def RdRow (w : World) (v : Value) (cs : List Vc) : Prop := ∃ l : List (Vc × Value), l.map Prod.fst = cs ∧ RdP w v l
theorem RdRow.kept {w w' : World} {v : Value} {cs : List Vc} (h : RdRow w v cs) (hb : Below w.heap.size w w') : RdRow w' v cs := by
  obtain ⟨l, h1, h2⟩ := h
  exact ⟨l, h1, h2.kept hb⟩
theorem rdRow_shape {w : World} {v : Value} {cs : List Vc} (h : RdRow w v cs) : ∃ ao cap, v = .slice ao cs.length cap := by
  obtain ⟨l, rfl, h2, _⟩ := h
  obtain ⟨ao, cap, hv⟩ := rdS_shape h2
  exact ⟨ao, cap, by simpa using hv⟩
theorem rdP_own {w : World} {B : Nat} {E : TypeId} {v : Value} {n : Nat} {l : List (Vc × Value)} (h : w.ownsRow B E 4 v n (l.map cellsV).flatten) (hn : n = l.length) (hk : ∀ t ∈ l, OkV w t) : RdP w v l := by
  refine ⟨rdS_own h (by simpa using hn) fun t ht => ?_, hk⟩
  obtain ⟨c, _, rfl⟩ := List.mem_map.1 ht
  rfl

theorem infoVal : (Try.prog.info? 36).map (fun i => (i.zero, i.size, i.bytes)) = some (some (.agg #[.bool false, .int .i64 0, .int .i64 0, .slice none 0 0]), 4, 48) := by kernel_rfl

/-- Lower bits. -/
theorem and_low (x : Int) (j : Nat) (hj : j ≤ 20) (m : Int) (hm : m = 2 ^ j - 1) : bits .and .i64 x m = x % 2 ^ j := by
  subst hm
  have hp : (2 ^ j : Int) = ((2 ^ j : Nat) : Int) := by simp
  have hpos : 0 < 2 ^ j := Nat.two_pow_pos j
  have hle : 2 ^ j ≤ 2 ^ 20 := Nat.pow_le_pow_right (by decide) hj
  have h : bits .and .i64 x (2 ^ j - 1) = IntKind.i64.wrap ((BitVec.ofInt 64 x &&& BitVec.ofInt 64 (2 ^ j - 1)).toNat : Int) := rfl
  have e1 : (BitVec.ofInt 64 ((2 : Int) ^ j - 1)).toNat = 2 ^ j - 1 := by
    rw [hp, show (((2 ^ j : Nat) : Int) - 1) = ((2 ^ j - 1 : Nat) : Int) by omega, BitVec.ofInt_natCast, BitVec.toNat_ofNat]
    exact Nat.mod_eq_of_lt (by omega)
  have h1 : (BitVec.ofInt 64 x &&& BitVec.ofInt 64 (2 ^ j - 1)).toNat = (x % 2 ^ j).toNat := by
    rw [BitVec.toNat_and, e1, Nat.and_two_pow_sub_one_eq_mod, BitVec.toNat_ofInt]
    have hd : ((2 ^ j : Nat) : Int) ∣ ((2 ^ 64 : Nat) : Int) := Int.natCast_dvd_natCast.2 (Nat.pow_dvd_pow 2 (by omega))
    have h64 : 0 ≤ x % ((2 ^ 64 : Nat) : Int) := Int.emod_nonneg _ (by decide)
    have hm2 : (x % ((2 ^ 64 : Nat) : Int)) % ((2 ^ j : Nat) : Int) = x % ((2 ^ j : Nat) : Int) := Int.emod_emod_of_dvd x hd
    have : (((x % ((2 ^ 64 : Nat) : Int)).toNat % 2 ^ j : Nat) : Int) = x % ((2 ^ j : Nat) : Int) := by
      rw [Int.natCast_emod, Int.toNat_of_nonneg h64]
      exact hm2
    rw [hp, ← this]
    rfl
  rw [h, h1]
  have h0 : 0 ≤ x % (2 : Int) ^ j := Int.emod_nonneg _ (by rw [hp]; omega)
  have h2 : x % (2 : Int) ^ j < (2 : Int) ^ j := Int.emod_lt_of_pos _ (by rw [hp]; omega)
  rw [Int.toNat_of_nonneg h0]
  exact IntWalk.i64_in _ (by rw [hp] at *; omega)

end Go.Proofs.Ytnfjdoeemnhkbaa

namespace Go.Proofs.Ytnfjdoeemnhkbaa
set_option linter.unusedVariables false
open Go.RowKit

structure Cmp3 {α : Type} (f : α → α → Int) : Prop where
  anti : ∀ a b, f b a = - f a b
  tri : ∀ a b, f a b = -1 ∨ f a b = 0 ∨ f a b = 1
  eq : ∀ a b, f a b = 0 ↔ a = b
  tr : ∀ a b c, f a b ≤ 0 → f b c ≤ 0 → f a c ≤ 0 ∧ (f a c = 0 → f a b = 0 ∧ f b c = 0)

def cmpZ (a b : Int) : Int := if a < b then -1 else if b < a then 1 else 0
theorem cmpZ_ok : Cmp3 cmpZ := by
  refine ⟨fun a b => ?_, fun a b => ?_, fun a b => ?_, fun a b c => ?_⟩ <;> unfold cmpZ
  · split <;> split <;> (try split) <;> omega
  · split <;> (try split) <;> omega
  · split <;> (try split) <;> omega
  · repeat' split
    all_goals omega

def lexL {α : Type} (f : α → α → Int) : List α → List α → Int
  | [], [] => 0
  | [], _ :: _ => -1
  | _ :: _, [] => 1
  | a :: x, b :: y => if f a b = 0 then lexL f x y else f a b

theorem lexL_ok {α : Type} {f : α → α → Int} (h : Cmp3 f) : Cmp3 (lexL f) := by
  refine ⟨?_, ?_, ?_, ?_⟩
  · intro a
    induction a with
    | nil => intro b; cases b <;> rfl
    | cons x l ih =>
      intro b
      cases b with
      | nil => rfl
      | cons y r =>
        unfold lexL
        rw [h.anti x y, ih r]
        split <;> split <;> omega
  · intro a
    induction a with
    | nil => intro b; cases b <;> simp [lexL]
    | cons x l ih =>
      intro b
      cases b with
      | nil => simp [lexL]
      | cons y r =>
        unfold lexL
        split
        · exact ih r
        · exact h.tri x y
  · intro a
    induction a with
    | nil => intro b; cases b <;> simp [lexL]
    | cons x l ih =>
      intro b
      cases b with
      | nil => simp [lexL]
      | cons y r =>
        unfold lexL
        rw [List.cons.injEq, ← h.eq x y, ← ih r]
        split <;> rename_i hx <;> simp [hx]
  · intro a
    induction a with
    | nil => intro b c; cases b <;> cases c <;> simp [lexL]
    | cons x l ih =>
      intro b c
      cases b with
      | nil => cases c <;> simp [lexL]
      | cons y r =>
        cases c with
        | nil => simp [lexL]
        | cons z s =>
          have h1 := h.tr x y z
          have h2 := ih r s
          unfold lexL
          by_cases e1 : f x y = 0
          · have e1' := (h.eq x y).1 e1
            subst e1'
            rw [if_pos e1]
            by_cases e2 : f x z = 0
            · rw [if_pos e2, if_pos e2]; exact h2
            · rw [if_neg e2, if_neg e2]
              intro _ k2
              exact ⟨k2, fun k3 => absurd k3 e2⟩
          · rw [if_neg e1]
            by_cases e2 : f y z = 0
            · have e2' := (h.eq y z).1 e2
              subst e2'
              rw [if_pos e2, if_neg e1]
              intro k1 _
              exact ⟨k1, fun k3 => absurd k3 e1⟩
            · rw [if_neg e2]
              intro k1 k2
              have k3 := h1 k1 k2
              have e3 : ¬ f x z = 0 := fun k4 => e1 (k3.2 k4).1
              rw [if_neg e3]
              exact ⟨k3.1, fun k4 => absurd k4 e3⟩

def pairC {α β : Type} (f : α → α → Int) (g : β → β → Int) (p q : α × β) : Int := if f p.1 q.1 = 0 then g p.2 q.2 else f p.1 q.1
theorem pairC_ok {α β : Type} {f : α → α → Int} {g : β → β → Int} (h : Cmp3 f) (k : Cmp3 g) : Cmp3 (pairC f g) := by
  refine ⟨fun a b => ?_, fun a b => ?_, fun a b => ?_, fun a b c => ?_⟩ <;> unfold pairC
  · rw [h.anti a.1 b.1, k.anti a.2 b.2]
    split <;> split <;> omega
  · split
    · exact k.tri _ _
    · exact h.tri _ _
  · rw [Prod.ext_iff, ← h.eq a.1 b.1, ← k.eq a.2 b.2]
    split <;> rename_i hx <;> simp [hx]
  · have h1 := h.tr a.1 b.1 c.1
    have h2 := k.tr a.2 b.2 c.2
    by_cases e1 : f a.1 b.1 = 0
    · have e1' := (h.eq _ _).1 e1
      rw [if_pos e1]
      rw [e1']
      by_cases e2 : f b.1 c.1 = 0
      · rw [if_pos e2, if_pos e2]; exact h2
      · rw [if_neg e2, if_neg e2]
        intro _ k2
        exact ⟨k2, fun k3 => absurd k3 e2⟩
    · rw [if_neg e1]
      by_cases e2 : f b.1 c.1 = 0
      · have e2' := (h.eq _ _).1 e2
        rw [if_pos e2, ← e2', if_neg e1]
        intro k1 _
        exact ⟨k1, fun k3 => absurd k3 e1⟩
      · rw [if_neg e2]
        intro k1 k2
        have k3 := h1 k1 k2
        have e3 : ¬ f a.1 c.1 = 0 := fun k4 => e1 (k3.2 k4).1
        rw [if_neg e3]
        exact ⟨k3.1, fun k4 => absurd k4 e3⟩

def cmpN (a b : Nat) : Int := cmpZ a b
theorem cmpN_ok : Cmp3 cmpN := by
  refine ⟨fun a b => cmpZ_ok.anti _ _, fun a b => cmpZ_ok.tri _ _, fun a b => ?_, fun a b c => cmpZ_ok.tr _ _ _⟩
  unfold cmpN
  rw [cmpZ_ok.eq]; omega
def cmpB : List Nat → List Nat → Int := lexL cmpN

/-- Of two values, as they are held against each other. -/
def cmpT (a b : Vc) : Int := if a.u = true then (if b.u = true then 0 else -1) else if b.u = true then 1 else if a.k = 2 ∨ b.k = 2 then cmpB a.b b.b else cmpZ a.n b.n
def cmpR : List Vc → List Vc → Int := lexL cmpT
def sameT (a b : Vc) : Bool := a.u == b.u && a.k == b.k && a.n == b.n && a.b == b.b
def sameR : List Vc → List Vc → Bool
  | [], [] => true
  | a :: x, b :: y => sameT a b && sameR x y
  | _, _ => false

theorem sameT_iff (a b : Vc) : sameT a b = true ↔ a = b := by
  obtain ⟨a1, a2, a3, a4⟩ := a
  obtain ⟨b1, b2, b3, b4⟩ := b
  simp [sameT, and_assoc]
theorem sameR_iff : ∀ (a b : List Vc), sameR a b = true ↔ a = b
  | [], [] => by simp [sameR]
  | [], b :: y => by simp [sameR]
  | a :: x, [] => by simp [sameR]
  | a :: x, b :: y => by rw [sameR, Bool.and_eq_true, sameT_iff, sameR_iff x y, List.cons.injEq]

/-- A value such as may be. -/
def NormV (a : Vc) : Prop := (a.u = true → a.n = 0 ∧ a.b = []) ∧ (a.k = 2 → a.n = 0) ∧ (a.k ≠ 2 → a.b = [])
def keyV (a : Vc) : (Int × Int) × List Nat := ((if a.u = true then 0 else 1, a.n), a.b)
def cmpK : (Int × Int) × List Nat → (Int × Int) × List Nat → Int := pairC (pairC cmpZ cmpZ) (lexL cmpN)
theorem cmpK_ok : Cmp3 cmpK := pairC_ok (pairC_ok cmpZ_ok cmpZ_ok) (lexL_ok cmpN_ok)

theorem cmpZ_self (a : Int) : cmpZ a a = 0 := by unfold cmpZ; split <;> (try split) <;> omega
theorem cmpT_key {a b : Vc} (ha : NormV a) (hb : NormV b) (hk : a.k = b.k) : cmpT a b = cmpK (keyV a) (keyV b) := by
  obtain ⟨au, ak, an, ab⟩ := a
  obtain ⟨bu, bk, bn, bb⟩ := b
  obtain ⟨a1, a2, a3⟩ := ha
  obtain ⟨b1, b2, b3⟩ := hb
  simp only at *
  subst hk
  unfold cmpT cmpK keyV pairC
  cases au <;> cases bu <;> simp only [Bool.false_eq_true, if_false, if_true, cmpZ_self, cmpB]
  · by_cases hk : ak = 2
    · rw [a2 hk, b2 hk, cmpZ_self]; simp [hk]
    · rw [a3 hk, b3 hk]
      simp only [hk, or_self, if_false]
      by_cases h : cmpZ an bn = 0
      · rw [h]; simp [lexL]
      · simp [h]
  · simp [cmpZ]
  · simp [cmpZ]
  · obtain ⟨h1, h2⟩ := a1 rfl
    obtain ⟨h3, h4⟩ := b1 rfl
    rw [h1, h2, h3, h4]
    simp [cmpZ, lexL]

theorem key_eq {a b : Vc} (hk : a.k = b.k) : keyV a = keyV b ↔ a = b := by
  obtain ⟨au, ak, an, ab⟩ := a
  obtain ⟨bu, bk, bn, bb⟩ := b
  simp only at hk
  subst hk
  unfold keyV
  cases au <;> cases bu <;> simp

/-- Rows of the same kinds. -/
theorem cmpR_key : ∀ (x y : List Vc), (∀ v ∈ x, NormV v) → (∀ v ∈ y, NormV v) → x.map (·.k) = y.map (·.k) → cmpR x y = lexL cmpK (x.map keyV) (y.map keyV)
  | [], [], _, _, _ => rfl
  | [], b :: y, _, _, h => by simp at h
  | a :: x, [], _, _, h => by simp at h
  | a :: x, b :: y, hx, hy, h => by
    simp only [List.map_cons, List.cons.injEq] at h
    have ih := cmpR_key x y (fun v hv => hx v (List.mem_cons_of_mem _ hv)) (fun v hv => hy v (List.mem_cons_of_mem _ hv)) h.2
    have e := cmpT_key (hx a List.mem_cons_self) (hy b List.mem_cons_self) h.1
    unfold cmpR at ih ⊢
    rw [List.map_cons, List.map_cons, lexL, lexL, ih, e]

theorem keys_eq : ∀ (x y : List Vc), x.map (·.k) = y.map (·.k) → (x.map keyV = y.map keyV ↔ x = y)
  | [], [], _ => by simp
  | [], b :: y, h => by simp at h
  | a :: x, [], h => by simp at h
  | a :: x, b :: y, h => by
    simp only [List.map_cons, List.cons.injEq] at h
    rw [List.map_cons, List.map_cons, List.cons.injEq, List.cons.injEq, key_eq h.1, keys_eq x y h.2]

end Go.Proofs.Ytnfjdoeemnhkbaa

namespace Go.Proofs.Ytnfjdoeemnhkbaa
set_option linter.unusedVariables false
open Go.RowKit

/-- What the entries read of a slice of bytes. -/
theorem run_bytesOf {P : Program} {w : World} {v : Value} {bs : List Nat} (hr : Rd w v (bs.map u8v)) : (Extern.Bytes.bytesOf v).run P w = .ok ⟨(bs.map UInt8.ofNat).toArray⟩ w := by
  obtain ⟨ao, cap, rfl, _, hc⟩ := hr
  rcases ao with _ | a
  · have h0 : bs = [] := by
      rcases bs with _ | ⟨x, r⟩
      · rfl
      · obtain ⟨b, off, h1, _⟩ := hc (by simp)
        cases h1
    subst h0
    rfl
  · rcases Nat.eq_zero_or_pos (bs.map u8v).length with h0 | hp
    · have : bs = [] := by simpa using h0
      subst this
      rfl
    · obtain ⟨b, off, h1, h2⟩ := hc hp
      cases h1
      have := Lib.run_loadBytesX (P := P) (w := w) (bs.map fun x : Nat => (x : Int)) ⟨b, off, none⟩ .empty (fun j x hj => by
        rw [List.getElem?_map] at hj
        have hjl : j < bs.length := by
          rcases Nat.lt_or_ge j bs.length with h | h
          · exact h
          · rw [List.getElem?_eq_none h] at hj; cases hj
        rw [List.getElem?_eq_getElem hjl] at hj
        simp only [Option.map_some, Option.some.injEq] at hj
        have e : (⟨b, off, none⟩ : Addr).add j = ⟨b, off + j, none⟩ := by simp [Addr.add]
        rw [e, h2 j (by simpa using hjl), List.getD_eq_getElem?_getD, List.getElem?_map, List.getElem?_eq_getElem hjl, ← hj]
        rfl)
      rw [List.length_map] at this
      show (Extern.Bytes.loadBytes ⟨b, off, none⟩ (bs.map u8v).length .empty).run P w = _
      rw [List.length_map]
      refine this.trans ?_
      simp [Lib.bytesOf, UInt8.ofNat]

theorem compareBytes_eq : ∀ (x y : List Nat), (∀ a ∈ x, a < 256) → (∀ a ∈ y, a < 256) → Lib.compareBytes (x.map UInt8.ofNat) (y.map UInt8.ofNat) = cmpB x y
  | [], [], _, _ => rfl
  | [], _ :: _, _, _ => rfl
  | _ :: _, [], _, _ => rfl
  | a :: x, b :: y, hx, hy => by
    have ih := compareBytes_eq x y (fun v hv => hx v (List.mem_cons_of_mem _ hv)) (fun v hv => hy v (List.mem_cons_of_mem _ hv))
    have ha := hx a List.mem_cons_self
    have hb := hy b List.mem_cons_self
    have l1 : (UInt8.ofNat a < UInt8.ofNat b) ↔ a < b := by rw [UInt8.lt_iff_toNat_lt, UInt8.toNat_ofNat', UInt8.toNat_ofNat', Nat.mod_eq_of_lt ha, Nat.mod_eq_of_lt hb]
    have l2 : (UInt8.ofNat b < UInt8.ofNat a) ↔ b < a := by rw [UInt8.lt_iff_toNat_lt, UInt8.toNat_ofNat', UInt8.toNat_ofNat', Nat.mod_eq_of_lt ha, Nat.mod_eq_of_lt hb]
    unfold cmpB at ih ⊢
    rw [List.map_cons, List.map_cons, Lib.compareBytes, lexL, ih]
    unfold cmpN cmpZ
    by_cases h1 : a < b
    · rw [if_pos (l1.2 h1), if_pos (show (a : Int) < b by omega), if_neg (by decide)]
    · rw [if_neg (fun h => h1 (l1.1 h)), if_neg (show ¬ (a : Int) < b by omega)]
      by_cases h2 : b < a
      · rw [if_pos (l2.2 h2), if_pos (show (b : Int) < a by omega), if_neg (by decide)]
      · rw [if_neg (fun h => h2 (l2.1 h)), if_neg (show ¬ (b : Int) < a by omega), if_pos rfl]

set_option maxHeartbeats 1000000 in
set_option maxRecDepth 100000 in
theorem bcompare_any (v1 v2 : Value) (x y : List Nat) (w : World) (h1 : Rd w v1 (x.map u8v)) (h2 : Rd w v2 (y.map u8v)) (hx : ∀ a ∈ x, a < 256) (hy : ∀ a ∈ y, a < 256) :
    Calls Try.prog 109 #[v1, v2] w fun e w' => e = .returned (.int .i64 (cmpB x y)) ∧ w = w' := by
  have hrun : (Extern.BytealgCompare.compare #[v1, v2]).run Try.prog w = .ok (.int .i64 (cmpB x y)) w := by
    show (do pure (goInt (Extern.BytealgCompare.cmp (← Extern.Bytes.bytesOf v1) (← Extern.Bytes.bytesOf v2))) : Sem Value).run Try.prog w = _
    simp only [Sem.run_bind, run_bytesOf h1, run_bytesOf h2, Result.andThen_ok, Sem.run_pure]
    rw [Lib.cmp_eq, ← compareBytes_eq x y hx hy]
    rfl
  have HR := Lib.hid hrun
  clear hrun h1 h2
  go_enter Try.func109, Try.ntmps109
  go_wp2
  rw [run_callFunc_extern Try.func123 (by kernel_rfl) (by kernel_rfl) (by kernel_rfl) (e := Extern.BytealgCompare.compare) (by kernel_rfl), HR.out]
  simp only [Result.andThen]
  rw [Oper.upon_value]
  go_wp2
  go_ret
  exact ⟨rfl, rfl⟩

set_option maxHeartbeats 1000000 in
theorem zcompare_any (a b : Int) (w : World) :
    Calls Try.prog 110 #[.int .i64 a, .int .i64 b] w fun e w' => e = .returned (.int .i64 (cmpZ a b)) ∧ w = w' := by
  unfold cmpZ
  rcases (by omega : a < b ∨ a = b ∨ b < a) with h | h | h
  · have q1 : decide (a < b) = true := decide_eq_true h
    rw [if_pos h]
    clear h
    go_enter Try.func110, Try.ntmps110
    go_wp2
    go_ret
    exact ⟨rfl, rfl⟩
  · subst h
    rw [if_neg (Int.lt_irrefl a)]
    go_enter Try.func110, Try.ntmps110
    go_wp2
    go_ret
    exact ⟨rfl, rfl⟩
  · rw [if_neg (by omega), if_pos h]
    go_enter Try.func110, Try.ntmps110
    go_wp2
    go_ret
    exact ⟨rfl, rfl⟩

end Go.Proofs.Ytnfjdoeemnhkbaa

namespace Go.Proofs.Ytnfjdoeemnhkbaa
set_option linter.unusedVariables false
open Go.RowKit

/-- Four cells of a block, written one behind the other: what stands there. -/
theorem four_heap {w : World} {X : Nat} {a b c d a' b' c' d' : Value} {T : TypeId} (h : w.heap[X]? = some (.cells #[a, b, c, d] T (0, 0))) :
    ((((w.setCell ⟨X, 0, none⟩ a').setCell ⟨X, 1, none⟩ b').setCell ⟨X, 2, none⟩ c').setCell ⟨X, 3, none⟩ d').heap[X]? = some (.cells #[a', b', c', d'] T (0, 0)) := by
  have h0 := heap_setCell_same w X 0 _ _ a' h
  have h1 := heap_setCell_same (w.setCell ⟨X, 0, none⟩ a') X 1 _ _ b' h0
  have h2 := heap_setCell_same _ X 2 _ _ c' h1
  have h3 := heap_setCell_same _ X 3 _ _ d' h2
  rw [h3]
  simp
theorem infoVal4 : (Try.prog.info? 36).map (·.size) = some 4 := by kernel_rfl

/-- That slice lies in memory from B on. -/
def FreshV (B : Nat) (s : Value) : Prop := ∀ a n c, s = .slice (some a) n c → B ≤ a.block
theorem fresh_nil (B : Nat) : FreshV B (.slice none 0 0) := fun a n c h => by cases h

/-- The number of a value. -/
def numOf (n : Int) : Int :=
  if n / 64 % 16 = 0 then wrap64 (n * 712544676207699905) else if n / 64 % 16 = 1 then -(n / 8 % 8) else if n / 64 % 16 = 2 then 9223372036854775807 - n / 8 % 8 else n / 8 % 8
def abcs : List Nat := [97, 98, 99, 97, 98, 99, 97, 98]
/-- A value of a number, of a column. -/
def valOf (c : Co) (n : Int) : Vc :=
  if c.u = true ∧ n % 8 = 0 then ⟨true, c.k, 0, []⟩ else if c.k = 1 then ⟨false, 1, numOf n, []⟩ else ⟨false, c.k, 0, (abcs.drop (n / 8 % 4).toNat).take (n / 32 % 4).toNat⟩

theorem heap2 (w : World) (o1 o2 : Obj) : ((w.alloc o1).alloc o2).heap[w.heap.size + 1]? = some o2 := by
  have := heap_alloc_new (w.alloc o1) o2
  rwa [show (w.alloc o1).heap.size = w.heap.size + 1 by simp] at this
theorem heap3 (w : World) (o1 o2 o3 : Obj) : (((w.alloc o1).alloc o2).alloc o3).heap[w.heap.size + 1]? = some o2 :=
  (heap_alloc_old _ o3 (by simp)).trans (heap2 w o1 o2)
theorem heap4 (w : World) (o1 o2 o3 o4 : Obj) : ((((w.alloc o1).alloc o2).alloc o3).alloc o4).heap[w.heap.size + 1]? = some o2 :=
  (heap_alloc_old _ o4 (by simp)).trans (heap3 w o1 o2 o3)
theorem rd_abc (w : World) (t : TypeId) (fr : Nat × Nat) (X P Q : Nat) (hX : X = w.heap.size) (h : P + Q ≤ 8) :
    Rd (w.alloc (.cells #[.int .u8 97, .int .u8 98, .int .u8 99, .int .u8 97, .int .u8 98, .int .u8 99, .int .u8 97, .int .u8 98] t fr)) (.slice (some ⟨X, P, none⟩) Q (8 - P)) (((abcs.drop P).take Q).map u8v) := by
  have hl : (((abcs.drop P).take Q).map u8v).length = Q := by simp [abcs]; omega
  refine ⟨some ⟨X, P, none⟩, 8 - P, by rw [hl], ⟨(fun h => by cases h), by rw [hl]; omega⟩, fun hp => ⟨X, P, rfl, fun i hi => ?_⟩⟩
  rw [hl] at hi
  rw [Joins.cell_alloc_mark_at w _ t fr X (P + i) hX, show #[Value.int .u8 97, .int .u8 98, .int .u8 99, .int .u8 97, .int .u8 98, .int .u8 99, .int .u8 97, .int .u8 98] = (abcs.map u8v).toArray from rfl]
  rw [List.getElem?_toArray, List.getD_eq_getElem?_getD, List.getElem?_map, List.getElem?_map, List.getElem?_take, if_pos hi, List.getElem?_drop]
  have : P + i < abcs.length := by simp [abcs]; omega
  rw [List.getElem?_eq_getElem this]
  rfl
theorem abcs_lt (P Q : Nat) : ∀ x ∈ (abcs.drop P).take Q, x < 256 := fun x hx => by
  have := List.mem_of_mem_drop (List.mem_of_mem_take hx)
  simp [abcs] at this
  omega
theorem below2 (w : World) (o1 o2 : Obj) : Below w.heap.size w ((w.alloc o1).alloc o2) := below_lay (below_alloc w o1) o2
theorem below3 (w : World) (o1 o2 o3 : Obj) : Below w.heap.size w (((w.alloc o1).alloc o2).alloc o3) := below_lay (below2 w o1 o2) o3

set_option maxRecDepth 100000 in
set_option maxHeartbeats 1000000 in
theorem value_any (c : Co) (n : Int) (w : World) :
    Calls Try.prog 21 #[c.agg, .int .i64 n] w fun e w' => ∃ s, e = .returned (aggV (valOf c n, s)) ∧ OkV w' (valOf c n, s) ∧ Below w.heap.size w w' ∧ FreshV w.heap.size s := by
  obtain ⟨nm, k, u⟩ := c
  have b7 : ∀ x, bits .and .i64 x 7 = x % 8 := fun x => and_low x 3 (by decide) 7 rfl
  have b15 : ∀ x, bits .and .i64 x 15 = x % 16 := fun x => and_low x 4 (by decide) 15 rfl
  have b3 : ∀ x, bits .and .i64 x 3 = x % 4 := fun x => and_low x 2 (by decide) 3 rfl
  unfold Co.agg
  by_cases hz : u = true ∧ n % 8 = 0
  · have HV := Lib.hid (show valOf ⟨nm, k, u⟩ n = ⟨true, k, 0, []⟩ by unfold valOf; rw [if_pos hz])
    obtain ⟨hu, hm⟩ := hz
    subst hu
    have q0 : (n % 8 == 0) = true := by rw [beq_iff_eq]; exact hm
    clear hm
    go_enter Try.func21, Try.ntmps21
    go_wp2_with fail
    refine bodyPost_ret (results_cell_row rfl _ _ (w.heap.size + 1) _ _ (0, 0) _ rfl (heap2 w _ _) Try.underlying36 rfl infoVal4) rfl ?_
    rw [HV.out]
    exact ⟨.slice none 0 0, rfl, ⟨Rd.nil _, fun x hx => by cases hx⟩, below2 w _ _, fresh_nil _⟩
  · by_cases hk : k = 1
    · subst hk
      have HV := Lib.hid (show valOf ⟨nm, 1, u⟩ n = ⟨false, 1, numOf n, []⟩ by unfold valOf; rw [if_neg hz, if_pos rfl])
      have hq : (u && (n % 8 == 0)) = false := by
        rw [Bool.and_eq_false_iff, beq_eq_false_iff_ne]
        cases u
        · exact .inl rfl
        · exact .inr fun h => hz ⟨rfl, h⟩
      clear hz
      rcases (by omega : n / 64 % 16 = 0 ∨ n / 64 % 16 = 1 ∨ n / 64 % 16 = 2 ∨ (n / 64 % 16 ≠ 0 ∧ n / 64 % 16 ≠ 1 ∧ n / 64 % 16 ≠ 2)) with h | h | h | h
      · have HN := Lib.hid (show numOf n = wrap64 (n * 712544676207699905) by unfold numOf; rw [if_pos h])
        have q0 : (n / 64 % 16 == 0) = true := by rw [beq_iff_eq]; exact h
        clear h
        cases u
        all_goals
          try (have q9 : (n % 8 == 0) = false := hq)
          clear hq
          go_enter Try.func21, Try.ntmps21
          go_wp2_with fail
          refine bodyPost_ret (results_cell_row rfl _ _ (w.heap.size + 1) _ _ (0, 0) _ rfl (heap3 w _ _ _) Try.underlying36 rfl infoVal4) rfl ?_
          rw [HV.out, HN.out]
          exact ⟨.slice none 0 0, rfl, ⟨Rd.nil _, fun x hx => by cases hx⟩, below3 w _ _ _, fresh_nil _⟩
      · have HN := Lib.hid (show numOf n = -(n / 8 % 8) by unfold numOf; rw [if_neg (by omega), if_pos h])
        have q0 : (n / 64 % 16 == 0) = false := by rw [beq_eq_false_iff_ne]; omega
        have q1 : (n / 64 % 16 == 1) = true := by rw [beq_iff_eq]; exact h
        clear h
        cases u
        all_goals
          try (have q9 : (n % 8 == 0) = false := hq)
          clear hq
          go_enter Try.func21, Try.ntmps21
          go_wp2_with fail
          refine bodyPost_ret (results_cell_row rfl _ _ (w.heap.size + 1) _ _ (0, 0) _ rfl (heap3 w _ _ _) Try.underlying36 rfl infoVal4) rfl ?_
          rw [HV.out, HN.out]
          exact ⟨.slice none 0 0, rfl, ⟨Rd.nil _, fun x hx => by cases hx⟩, below3 w _ _ _, fresh_nil _⟩
      · have HN := Lib.hid (show numOf n = 9223372036854775807 - n / 8 % 8 by unfold numOf; rw [if_neg (by omega), if_neg (by omega), if_pos h])
        have q0 : (n / 64 % 16 == 0) = false := by rw [beq_eq_false_iff_ne]; omega
        have q1 : (n / 64 % 16 == 1) = false := by rw [beq_eq_false_iff_ne]; omega
        have q2 : (n / 64 % 16 == 2) = true := by rw [beq_iff_eq]; exact h
        clear h
        cases u
        all_goals
          try (have q9 : (n % 8 == 0) = false := hq)
          clear hq
          go_enter Try.func21, Try.ntmps21
          go_wp2_with fail
          refine bodyPost_ret (results_cell_row rfl _ _ (w.heap.size + 1) _ _ (0, 0) _ rfl (heap3 w _ _ _) Try.underlying36 rfl infoVal4) rfl ?_
          rw [HV.out, HN.out]
          exact ⟨.slice none 0 0, rfl, ⟨Rd.nil _, fun x hx => by cases hx⟩, below3 w _ _ _, fresh_nil _⟩
      · have HN := Lib.hid (show numOf n = n / 8 % 8 by unfold numOf; rw [if_neg h.1, if_neg h.2.1, if_neg h.2.2])
        have q0 : (n / 64 % 16 == 0) = false := by rw [beq_eq_false_iff_ne]; exact h.1
        have q1 : (n / 64 % 16 == 1) = false := by rw [beq_eq_false_iff_ne]; exact h.2.1
        have q2 : (n / 64 % 16 == 2) = false := by rw [beq_eq_false_iff_ne]; exact h.2.2
        clear h
        cases u
        all_goals
          try (have q9 : (n % 8 == 0) = false := hq)
          clear hq
          go_enter Try.func21, Try.ntmps21
          go_wp2_with fail
          refine bodyPost_ret (results_cell_row rfl _ _ (w.heap.size + 1) _ _ (0, 0) _ rfl (heap3 w _ _ _) Try.underlying36 rfl infoVal4) rfl ?_
          rw [HV.out, HN.out]
          exact ⟨.slice none 0 0, rfl, ⟨Rd.nil _, fun x hx => by cases hx⟩, below3 w _ _ _, fresh_nil _⟩
    · have HV := Lib.hid (show valOf ⟨nm, k, u⟩ n = ⟨false, k, 0, (abcs.drop (n / 8 % 4).toNat).take (n / 32 % 4).toNat⟩ by unfold valOf; rw [if_neg hz, if_neg hk])
      have hq : (u && (n % 8 == 0)) = false := by
        rw [Bool.and_eq_false_iff, beq_eq_false_iff_ne]
        cases u
        · exact .inl rfl
        · exact .inr fun h => hz ⟨rfl, h⟩
      have q0 : (k == 1) = false := by rw [beq_eq_false_iff_ne]; exact hk
      clear hz hk
      cases u
      all_goals
        try (have q9 : (n % 8 == 0) = false := hq)
        clear hq
        first
          | (have kc := Joins.run_convert_bytes_const_at (P := Try.prog) (((w.alloc (.cells #[.string nm, .int .i64 k, .bool false] 55)).alloc (.cells #[.bool false, .int .i64 0, .int .i64 0, .slice none 0 0] 36)).alloc (.cells #[.bool false, .int .i64 k, .int .i64 0, .slice none 0 0] 36))
              34 5 #[.int .u8 97, .int .u8 98, .int .u8 99, .int .u8 97, .int .u8 98, .int .u8 99, .int .u8 97, .int .u8 98] 8 8 (w.heap.size + 1 + 1 + 1) (by simp) Try.underlying34 Try.underlying5
             go_enter Try.func21, Try.ntmps21
             go_wp2_with fail
             refine bodyPost_ret (results_cell_row rfl _ _ (w.heap.size + 1) _ _ (0, 0) _ rfl (heap4 w _ _ _ _) Try.underlying36 rfl infoVal4) rfl ?_)
          | (have kc := Joins.run_convert_bytes_const_at (P := Try.prog) (((w.alloc (.cells #[.string nm, .int .i64 k, .bool true] 55)).alloc (.cells #[.bool false, .int .i64 0, .int .i64 0, .slice none 0 0] 36)).alloc (.cells #[.bool false, .int .i64 k, .int .i64 0, .slice none 0 0] 36))
              34 5 #[.int .u8 97, .int .u8 98, .int .u8 99, .int .u8 97, .int .u8 98, .int .u8 99, .int .u8 97, .int .u8 98] 8 8 (w.heap.size + 1 + 1 + 1) (by simp) Try.underlying34 Try.underlying5
             go_enter Try.func21, Try.ntmps21
             go_wp2_with fail
             refine bodyPost_ret (results_cell_row rfl _ _ (w.heap.size + 1) _ _ (0, 0) _ rfl (heap4 w _ _ _ _) Try.underlying36 rfl infoVal4) rfl ?_)
        rw [HV.out, show (n / 8 % 4 + n / 32 % 4).toNat - (n / 8 % 4).toNat = (n / 32 % 4).toNat by omega]
        exact ⟨_, rfl, ⟨rd_abc _ _ _ _ _ _ (by simp) (by omega), abcs_lt _ _⟩, below_lay (below3 w _ _ _) _, fun a n c h => by cases h; simp; omega⟩

end Go.Proofs.Ytnfjdoeemnhkbaa

namespace Go.Proofs.Ytnfjdoeemnhkbaa
set_option linter.unusedVariables false
set_option linter.unusedSimpArgs false
open Go.RowKit

theorem rd_shape8 {w : World} {v : Value} {bs : List Nat} (h : Rd w v (bs.map u8v)) : ∃ ao cap, v = .slice ao bs.length cap := by
  obtain ⟨ao, cap, hv, _⟩ := h
  exact ⟨ao, cap, by simpa using hv⟩

set_option maxRecDepth 100000 in
set_option maxHeartbeats 1000000 in
theorem compare_any (p q : Vc × Value) (w : World) (hp : OkV w p) (hq : OkV w q) :
    Calls Try.prog 79 #[aggV p, aggV q] w fun e w' => e = .returned (.int .i64 (cmpT p.1 q.1)) ∧ Below w.heap.size w w' := by
  have HP := Lib.hid (hp.kept (below2 w (.cells #[.bool p.1.u, .int .i64 p.1.k, .int .i64 p.1.n, p.2] 36) (.cells #[.bool q.1.u, .int .i64 q.1.k, .int .i64 q.1.n, q.2] 36)))
  have HQ := Lib.hid (hq.kept (below2 w (.cells #[.bool p.1.u, .int .i64 p.1.k, .int .i64 p.1.n, p.2] 36) (.cells #[.bool q.1.u, .int .i64 q.1.k, .int .i64 q.1.n, q.2] 36)))
  clear hp hq
  obtain ⟨⟨au, ak, an, ab⟩, s⟩ := p
  obtain ⟨⟨bu, bk, bn, bb⟩, t⟩ := q
  unfold aggV
  simp only at HP HQ ⊢
  cases au <;> cases bu
  · by_cases h2 : ak = 2 ∨ bk = 2
    · have HC := Lib.hid (show cmpT ⟨false, ak, an, ab⟩ ⟨false, bk, bn, bb⟩ = cmpB ab bb by unfold cmpT; simp [h2])
      have q1 : (ak == 2) = true ∨ ((ak == 2) = false ∧ (bk == 2) = true) := by
        by_cases h : ak = 2
        · exact .inl (by rw [beq_iff_eq]; exact h)
        · exact .inr ⟨by rw [beq_eq_false_iff_ne]; exact h, by rw [beq_iff_eq]; rcases h2 with h2 | h2; exact absurd h2 h; exact h2⟩
      clear h2
      rcases q1 with q1 | ⟨q1, q2⟩
      all_goals
        go_enter Try.func79, Try.ntmps79
        go_wp2_with (go_at_call 109; go_must (refine (bcompare_any _ _ ab bb _ HP.out.1 HQ.out.1 HP.out.2 HQ.out.2).mono ?_); rintro e w2 ⟨rfl, rfl⟩)
        go_ret
        exact ⟨by rw [HC.out]; rfl, below2 w _ _⟩
    · have HC := Lib.hid (show cmpT ⟨false, ak, an, ab⟩ ⟨false, bk, bn, bb⟩ = cmpZ an bn by unfold cmpT; simp [h2])
      have q1 : (ak == 2) = false := by rw [beq_eq_false_iff_ne]; exact fun h => h2 (.inl h)
      have q2 : (bk == 2) = false := by rw [beq_eq_false_iff_ne]; exact fun h => h2 (.inr h)
      clear h2
      go_enter Try.func79, Try.ntmps79
      go_wp2_with (go_at_call 110; go_must (refine (zcompare_any an bn _).mono ?_); rintro e w2 ⟨rfl, rfl⟩)
      go_ret
      exact ⟨by rw [HC.out]; rfl, below2 w _ _⟩
  all_goals
    go_enter Try.func79, Try.ntmps79
    go_wp2_with fail
    go_ret
    exact ⟨rfl, below2 w _ _⟩

def fitsT (c : Co) (v : Vc) : Bool :=
  (v.k == c.k) && ((v.k == 1) || (v.k == 2)) && (if v.u = true then c.u && (v.n == 0) && (v.b.length == 0) else if (v.k == 1) = true then v.b.length == 0 else (v.n == 0) && decide (v.b.length ≤ 64))

set_option maxRecDepth 100000 in
set_option maxHeartbeats 4000000 in
theorem fits_any (c : Co) (q : Vc × Value) (w : World) (hq : OkV w q) :
    Calls Try.prog 92 #[c.agg, aggV q] w fun e w' => e = .returned (.bool (fitsT c q.1)) ∧ Below w.heap.size w w' := by
  obtain ⟨ao, cap, hs⟩ := rd_shape8 hq.1
  obtain ⟨⟨u, k, n, b⟩, s⟩ := q
  obtain ⟨nm, ck, cu⟩ := c
  simp only at hs
  subst hs
  obtain ⟨L, hL⟩ : ∃ L, L = b.length := ⟨_, rfl⟩
  have HF := Lib.hid (show fitsT ⟨nm, ck, cu⟩ ⟨u, k, n, b⟩ = ((k == ck) && ((k == 1) || (k == 2)) && (if u = true then cu && (n == 0) && (L == 0) else if (k == 1) = true then L == 0 else (n == 0) && decide (L ≤ 64))) by unfold fitsT; simp only; rw [hL])
  unfold aggV Co.agg
  simp only
  rw [← hL]
  have hl : ((L : Int) == 0) = (L == 0) := by rw [Bool.eq_iff_iff, beq_iff_eq, beq_iff_eq]; omega
  have hl2 : decide ((L : Int) ≤ 64) = decide (L ≤ 64) := by rw [decide_eq_decide]; omega
  clear hq hL
  cases h0 : (k == ck)
  · have q0 : (k != ck) = true := by rw [bne, h0]; rfl
    go_enter Try.func92, Try.ntmps92
    go_wp2
    go_ret
    exact ⟨by rw [HF.out, h0]; rfl, below2 w _ _⟩
  · have h0' : k = ck := by simpa using h0
    subst h0'
    cases h1 : (k == 1)
    · cases h2 : (k == 2)
      · go_enter Try.func92, Try.ntmps92
        go_wp2
        go_ret
        exact ⟨by rw [HF.out, h0, h1, h2]; rfl, below2 w _ _⟩
      · cases u
        · cases hn : (n == 0)
          all_goals
            go_enter Try.func92, Try.ntmps92
            go_wp2
            go_ret
            exact ⟨by rw [HF.out, h0, h1, h2, hn]; simp [hl2], below2 w _ _⟩
        · cases cu <;> cases hn : (n == 0)
          all_goals
            go_enter Try.func92, Try.ntmps92
            go_wp2
            go_ret
            exact ⟨by rw [HF.out, h0, h1, h2, hn]; simp [hl], below2 w _ _⟩
    · cases u
      · go_enter Try.func92, Try.ntmps92
        go_wp2
        go_ret
        exact ⟨by rw [HF.out, h0, h1]; simp [hl], below2 w _ _⟩
      · cases cu <;> cases hn : (n == 0)
        all_goals
          go_enter Try.func92, Try.ntmps92
          go_wp2
          go_ret
          exact ⟨by rw [HF.out, h0, h1, hn]; simp [hl], below2 w _ _⟩

end Go.Proofs.Ytnfjdoeemnhkbaa

namespace Go.Proofs.Ytnfjdoeemnhkbaa
set_option linter.unusedVariables false
set_option linter.unusedSimpArgs false
open Go.RowKit

/-- The text that bytes are. -/
def txtOf (bs : List Nat) : ByteArray := ⟨(bs.map UInt8.ofNat).toArray⟩
theorem txtOf_toList (bs : List Nat) : (txtOf bs).toList = bs.map UInt8.ofNat := by rw [ByteArray.toList_eq]; rfl
theorem run_txt {P : Program} (w : World) (src dst e : TypeId) (hs : P.underlying src = some (.slice e)) (he : P.underlying e = some (.int .u8)) (hd : P.underlying dst = some .string)
    {v : Value} {bs : List Nat} (hr : Rd w v (bs.map u8v)) (h256 : ∀ x ∈ bs, x < 256) : (Go.convert src dst v).run P w = .ok (.string (txtOf bs)) w := by
  obtain ⟨ao, cap, rfl, _, hc⟩ := hr
  rcases ao with _ | a
  · have h0 : bs = [] := by
      rcases bs with _ | ⟨x, r⟩
      · rfl
      · obtain ⟨b, off, h1, _⟩ := hc (by simp)
        cases h1
    subst h0
    exact Lib.run_convert_nil_bytes w src dst e cap hs he hd
  · have hlen : (bs.map u8v).length = (bs.map UInt8.ofNat).length := by simp
    rw [hlen]
    refine run_convert_bytes_back w src dst e a cap _ hs he hd fun j hj => ?_
    have hj' : j < bs.length := by simpa using hj
    obtain ⟨b, off, h1, h2⟩ := hc (by rw [List.length_map]; omega)
    cases h1
    have e : (⟨b, off, none⟩ : Addr).add j = ⟨b, off + j, none⟩ := by simp [Addr.add]
    rw [e, h2 j (by rw [List.length_map]; exact hj')]
    congr 1
    have h4 := h256 bs[j] (List.getElem_mem hj')
    rw [List.getD_eq_getElem?_getD, List.getElem?_map, List.getElem?_eq_getElem hj', List.getElem_map, UInt8.toNat_ofNat', Nat.mod_eq_of_lt h4]
    rfl
theorem map_ofNat_inj : ∀ (a b : List Nat), (∀ x ∈ a, x < 256) → (∀ x ∈ b, x < 256) → (a.map UInt8.ofNat = b.map UInt8.ofNat ↔ a = b)
  | [], [], _, _ => by simp
  | [], y :: b, _, _ => by simp
  | x :: a, [], _, _ => by simp
  | x :: a, y :: b, ha, hb => by
    have ih := map_ofNat_inj a b (fun v hv => ha v (List.mem_cons_of_mem _ hv)) (fun v hv => hb v (List.mem_cons_of_mem _ hv))
    have h1 := ha x List.mem_cons_self
    have h2 := hb y List.mem_cons_self
    rw [List.map_cons, List.map_cons, List.cons.injEq, List.cons.injEq, ih]
    have : UInt8.ofNat x = UInt8.ofNat y ↔ x = y := by
      rw [← UInt8.toNat_inj, UInt8.toNat_ofNat', UInt8.toNat_ofNat', Nat.mod_eq_of_lt h1, Nat.mod_eq_of_lt h2]
    rw [this]
theorem txtOf_beq {a b : List Nat} (ha : ∀ x ∈ a, x < 256) (hb : ∀ x ∈ b, x < 256) : ((txtOf a).toList == (txtOf b).toList) = (a == b) := by
  rw [txtOf_toList, txtOf_toList, Bool.eq_iff_iff, beq_iff_eq, beq_iff_eq]
  exact map_ofNat_inj a b ha hb

set_option maxRecDepth 100000 in
set_option maxHeartbeats 1000000 in
theorem sameVal_any (p q : Vc × Value) (w : World) (hp : OkV w p) (hq : OkV w q) :
    Calls Try.prog 56 #[aggV p, aggV q] w fun e w' => e = .returned (.bool (sameT p.1 q.1)) ∧ Below w.heap.size w w' := by
  have HP := hp.kept (below2 w (.cells #[.bool p.1.u, .int .i64 p.1.k, .int .i64 p.1.n, p.2] 36) (.cells #[.bool q.1.u, .int .i64 q.1.k, .int .i64 q.1.n, q.2] 36))
  have HQ := hq.kept (below2 w (.cells #[.bool p.1.u, .int .i64 p.1.k, .int .i64 p.1.n, p.2] 36) (.cells #[.bool q.1.u, .int .i64 q.1.k, .int .i64 q.1.n, q.2] 36))
  have c1 := run_txt (P := Try.prog) _ 34 9 5 Try.underlying34 Try.underlying5 Try.underlying9 HP.1 HP.2
  have c2 := run_txt (P := Try.prog) _ 34 9 5 Try.underlying34 Try.underlying5 Try.underlying9 HQ.1 HQ.2
  have hb := txtOf_beq HP.2 HQ.2
  clear hp hq HP HQ
  obtain ⟨⟨au, ak, an, ab⟩, s⟩ := p
  obtain ⟨⟨bu, bk, bn, bb⟩, t⟩ := q
  unfold aggV
  simp only at c1 c2 hb ⊢
  have HS := Lib.hid (show sameT ⟨au, ak, an, ab⟩ ⟨bu, bk, bn, bb⟩ = ((au == bu) && (ak == bk) && (an == bn) && (ab == bb)) from rfl)
  cases h0 : (au == bu)
  · have hx : au ≠ bu := by simpa using h0
    cases au <;> cases bu <;> simp at hx
    all_goals
      clear c1 c2 hb
      go_enter Try.func56, Try.ntmps56
      go_wp2_with fail
      go_ret
      exact ⟨by rw [HS.out]; rfl, below2 w _ _⟩
  · have hx : au = bu := by simpa using h0
    subst hx
    cases h1 : (ak == bk)
    · clear c1 c2 hb
      cases au
      all_goals
        go_enter Try.func56, Try.ntmps56
        go_wp2_with fail
        go_ret
        exact ⟨by rw [HS.out, h1]; rfl, below2 w _ _⟩
    · cases h2 : (an == bn)
      · clear c1 c2 hb
        cases au
        all_goals
          go_enter Try.func56, Try.ntmps56
          go_wp2_with fail
          go_ret
          exact ⟨by rw [HS.out, h1, h2]; rfl, below2 w _ _⟩
      · have HB := Lib.hid hb
        clear hb
        cases au
        all_goals
          go_enter Try.func56, Try.ntmps56
          go_wp2_with fail
          go_ret
          exact ⟨by rw [HS.out, h1, h2, HB.out]; rfl, below2 w _ _⟩

end Go.Proofs.Ytnfjdoeemnhkbaa

namespace Go.Proofs.Ytnfjdoeemnhkbaa
set_option linter.unusedVariables false
set_option linter.unusedSimpArgs false
open Go.RowKit

/-- The cells of the k-th value. -/
theorem RdP.at {w : World} {ao : Option Addr} {len cap : Nat} {l : List (Vc × Value)} (h : RdP w (.slice ao len cap) l) {k : Nat} {t : Vc × Value} (hk : l[k]? = some t) :
    ∃ b off, ao = some ⟨b, off, none⟩ ∧ w.cell? ⟨b, off + k * 4, none⟩ = some (.bool t.1.u) ∧ w.cell? ⟨b, off + k * 4 + 1, none⟩ = some (.int .i64 t.1.k) ∧ w.cell? ⟨b, off + k * 4 + 2, none⟩ = some (.int .i64 t.1.n) ∧
      w.cell? ⟨b, off + k * 4 + 3, none⟩ = some t.2 ∧ OkV w t := by
  obtain ⟨b, off, ha, hc⟩ := h.1.at (k := k) (t := cellsV t) (by rw [List.getElem?_map, hk]; rfl)
  exact ⟨b, off, ha, hc 0 _ rfl, hc 1 _ rfl, hc 2 _ rfl, hc 3 _ rfl, h.2 t (List.mem_of_getElem? hk)⟩
theorem rdP_shape {w : World} {v : Value} {l : List (Vc × Value)} (h : RdP w v l) : ∃ ao cap, v = .slice ao l.length cap := by
  obtain ⟨ao, cap, hv⟩ := rdS_shape h.1
  exact ⟨ao, cap, by simpa using hv⟩

theorem sameR_drop {x y : List Vc} {k : Nat} {a b : Vc} (hx : x[k]? = some a) (hy : y[k]? = some b) : sameR (x.drop k) (y.drop k) = (sameT a b && sameR (x.drop (k + 1)) (y.drop (k + 1))) := by
  obtain ⟨h1, h2⟩ := List.getElem?_eq_some_iff.1 hx
  obtain ⟨h3, h4⟩ := List.getElem?_eq_some_iff.1 hy
  rw [List.drop_eq_getElem_cons h1, List.drop_eq_getElem_cons h3, sameR, h2, h4]
theorem sameR_len : ∀ (x y : List Vc), x.length ≠ y.length → sameR x y = false
  | [], [], h => absurd rfl h
  | [], _ :: _, _ => rfl
  | _ :: _, [], _ => rfl
  | a :: x, b :: y, h => by rw [sameR, sameR_len x y (by simpa using h)]; simp
theorem cmpR_drop {x y : List Vc} {k : Nat} {a b : Vc} (hx : x[k]? = some a) (hy : y[k]? = some b) : cmpR (x.drop k) (y.drop k) = if cmpT a b = 0 then cmpR (x.drop (k + 1)) (y.drop (k + 1)) else cmpT a b := by
  obtain ⟨h1, h2⟩ := List.getElem?_eq_some_iff.1 hx
  obtain ⟨h3, h4⟩ := List.getElem?_eq_some_iff.1 hy
  unfold cmpR
  rw [List.drop_eq_getElem_cons h1, List.drop_eq_getElem_cons h3, lexL, h2, h4]

theorem map_at {l : List (Vc × Value)} {k : Nat} {t : Vc × Value} (h : l[k]? = some t) : (l.map Prod.fst)[k]? = some t.1 := by rw [List.getElem?_map, h]; rfl

set_option maxRecDepth 100000 in
set_option maxHeartbeats 4000000 in
theorem sameRow_any (v1 v2 : Value) (x y : List Vc) (w : World) (hx : RdRow w v1 x) (hy : RdRow w v2 y) (hl : x.length ≤ 1000000) (hl2 : y.length ≤ 1000000) :
    Calls Try.prog 25 #[v1, v2] w fun e w' => e = .returned (.bool (sameR x y)) ∧ Below w.heap.size w w' := by
  obtain ⟨l, rfl, hx⟩ := hx
  obtain ⟨m, rfl, hy⟩ := hy
  rw [List.length_map] at hl hl2
  obtain ⟨a1, c1, rfl⟩ := rdP_shape hx
  obtain ⟨a2, c2, rfl⟩ := rdP_shape hy
  by_cases hn : l.length = m.length
  · obtain ⟨n, hN⟩ : ∃ n, n = l.length := ⟨_, rfl⟩
    rw [← hN] at hn hx hl ⊢
    rw [← hn] at hy ⊢
    have HX := Lib.hid hx
    have HY := Lib.hid hy
    have HN := Lib.hid hN
    have HM := Lib.hid hn
    clear hx hy hN hn hl2
    go_enter Try.func25, Try.ntmps25
    go_wp2_with fail
    go_loopw [5] (fun i wr => ∃ k : Nat, k ≤ n ∧ i = .int .i64 (k : Int) ∧ sameR (l.map Prod.fst) (m.map Prod.fst) = sameR ((l.map Prod.fst).drop k) ((m.map Prod.fst).drop k) ∧ Below w.heap.size w wr) (fun i _ => n - (intOf i).toNat)
    case atStart => exact ⟨0, Nat.zero_le _, rfl, rfl, Below.refl _ _⟩
    case round =>
      obtain ⟨k, hk, rfl, hs, hbel⟩ := hrel
      have HS := Lib.hid hs
      have HB := Lib.hid hbel
      clear hs hbel
      by_cases hlt : k < n
      · obtain ⟨t, ht⟩ : ∃ t, l[k]? = some t := ⟨_, List.getElem?_eq_getElem (by rw [← HN.out]; exact hlt)⟩
        obtain ⟨u, hu⟩ : ∃ u, m[k]? = some u := ⟨_, List.getElem?_eq_getElem (by rw [← HM.out]; exact hlt)⟩
        obtain ⟨b1, o1, rfl, p0, p1, p2, p3, ok1⟩ := (HX.out.kept HB.out).at ht
        obtain ⟨b2, o2, rfl, q0, q1, q2, q3, ok2⟩ := (HY.out.kept HB.out).at hu
        have HE := Lib.hid (sameR_drop (map_at ht) (map_at hu))
        have HO1 := Lib.hid ok1
        have HO2 := Lib.hid ok2
        clear ht hu ok1 ok2
        have HC := fun w1 (h : Below wr.heap.size wr w1) => Lib.hid (sameVal_any t u w1 (HO1.out.kept h) (HO2.out.kept h))
        unfold aggV at HC
        cases hsm : sameT t.1 u.1
        · rw [hsm] at HC
          have HR := Lib.hid (show sameR (l.map Prod.fst) (m.map Prod.fst) = false by rw [HS.out, HE.out, hsm]; rfl)
          clear hsm
          go_wp2_with fail
          go_region_with (go_at_call 56; refine ((HC _ (below_draws (Below.refl _ _) _)).out).mono ?_; rintro e w2 ⟨rfl, hb⟩)
          all_goals
            have HB2 := Lib.hid (below_then (below_draws HB.out _) hb)
            clear hb
            go_wp2_with fail
            go_ret
            exact ⟨by rw [HR.out] <;> rfl, HB2.out⟩
        · rw [hsm] at HC
          have HR := Lib.hid (show sameR (l.map Prod.fst) (m.map Prod.fst) = sameR ((l.map Prod.fst).drop (k + 1)) ((m.map Prod.fst).drop (k + 1)) by rw [HS.out, HE.out, hsm]; rfl)
          clear hsm
          go_wp2_with fail
          go_region_with (go_at_call 56; refine ((HC _ (below_draws (Below.refl _ _) _)).out).mono ?_; rintro e w2 ⟨rfl, hb⟩)
          all_goals
            have HB2 := Lib.hid (below_then (below_draws HB.out _) hb)
            clear hb
            go_wp2_with fail
            go_roundw
            case rel => exact ⟨k + 1, by omega, by go_num, HR.out, HB2.out⟩
            case measure => simp [intOf]; omega
      · have HR := Lib.hid (show sameR (l.map Prod.fst) (m.map Prod.fst) = true by
          have e : k = n := by omega
          rw [HS.out, e, List.drop_of_length_le (by rw [List.length_map, HN.out]; omega), List.drop_of_length_le (by rw [List.length_map, ← HM.out]; omega)]
          rfl)
        go_wp2_with fail
        go_ret
        exact ⟨by rw [HR.out] <;> rfl, HB.out⟩
  · have HR := Lib.hid (show sameR (l.map Prod.fst) (m.map Prod.fst) = false from sameR_len _ _ (by rw [List.length_map, List.length_map]; exact hn))
    obtain ⟨n1, hN1⟩ : ∃ n1, n1 = l.length := ⟨_, rfl⟩
    obtain ⟨n2, hN2⟩ : ∃ n2, n2 = m.length := ⟨_, rfl⟩
    rw [← hN1] at hn ⊢
    rw [← hN2] at hn ⊢
    have q : ((n1 : Int) != (n2 : Int)) = true := by rw [bne_iff_ne]; omega
    clear hn hN1 hN2 hx hy
    go_enter Try.func25, Try.ntmps25
    go_wp2_with fail
    go_ret
    exact ⟨by rw [HR.out] <;> rfl, Below.refl _ _⟩

end Go.Proofs.Ytnfjdoeemnhkbaa

namespace Go.Proofs.Ytnfjdoeemnhkbaa
set_option linter.unusedVariables false
set_option linter.unusedSimpArgs false
open Go.RowKit

theorem cmpR_ends : ∀ (x y : List Vc), x.length ≤ y.length → ∀ k, k = x.length → cmpR (x.drop k) (y.drop k) = if x.length < y.length then -1 else 0 := by
  intro x y h k hk
  subst hk
  rw [List.drop_length]
  by_cases hl : x.length < y.length
  · rw [if_pos hl, List.drop_eq_getElem_cons hl]; rfl
  · rw [if_neg hl, List.drop_of_length_le (by omega)]; rfl
theorem cmpR_over (x y : List Vc) (k : Nat) (h : y.length ≤ k) (hk : k < x.length) : cmpR (x.drop k) (y.drop k) = 1 := by
  rw [List.drop_eq_getElem_cons hk, List.drop_of_length_le h]; rfl

set_option maxRecDepth 100000 in
set_option maxHeartbeats 4000000 in
theorem compareFunc_any (v1 v2 : Value) (x y : List Vc) (w : World) (hx : RdRow w v1 x) (hy : RdRow w v2 y) (hl : x.length ≤ 1000000) (hl2 : y.length ≤ 1000000) :
    Calls Try.prog 87 #[v1, v2, .func (.func 79) #[] #[]] w
      fun e w' => e = .returned (.int .i64 (cmpR x y)) ∧ Below w.heap.size w w' := by
  obtain ⟨l, rfl, hx⟩ := hx
  obtain ⟨m, rfl, hy⟩ := hy
  rw [List.length_map] at hl hl2
  obtain ⟨a1, c1, rfl⟩ := rdP_shape hx
  obtain ⟨a2, c2, rfl⟩ := rdP_shape hy
  obtain ⟨n, hN⟩ : ∃ n, n = l.length := ⟨_, rfl⟩
  obtain ⟨n2, hN2⟩ : ∃ n2, n2 = m.length := ⟨_, rfl⟩
  rw [← hN] at hx hl ⊢
  rw [← hN2] at hy hl2 ⊢
  have HX := Lib.hid hx
  have HY := Lib.hid hy
  have HN := Lib.hid hN
  have HM := Lib.hid hN2
  clear hx hy hN hN2
  go_enter Try.func87, Try.ntmps87
  go_wp2_with fail
  go_loopw [13] (fun i wr => ∃ k : Nat, k ≤ n ∧ k ≤ n2 ∧ i = .int .i64 (k : Int) ∧ cmpR (l.map Prod.fst) (m.map Prod.fst) = cmpR ((l.map Prod.fst).drop k) ((m.map Prod.fst).drop k) ∧ Below w.heap.size w wr) (fun i _ => n - (intOf i).toNat)
  case atStart => exact ⟨0, Nat.zero_le _, Nat.zero_le _, rfl, rfl, Below.refl _ _⟩
  case round =>
    obtain ⟨k, hk, hk2, rfl, hs, hbel⟩ := hrel
    have HS := Lib.hid hs
    have HB := Lib.hid hbel
    clear hs hbel
    by_cases hlt : k < n
    · obtain ⟨t, ht⟩ : ∃ t, l[k]? = some t := ⟨_, List.getElem?_eq_getElem (by rw [← HN.out]; exact hlt)⟩
      obtain ⟨b1, o1, rfl, p0, p1, p2, p3, ok1⟩ := (HX.out.kept HB.out).at ht
      obtain ⟨sa, sc, hs1⟩ := rd_shape8 ok1.1
      obtain ⟨tv, ts⟩ := t
      simp only at hs1 p0 p1 p2 p3
      subst hs1
      have HO1 := Lib.hid ok1
      clear ok1
      by_cases hlt2 : k < n2
      · obtain ⟨u, hu⟩ : ∃ u, m[k]? = some u := ⟨_, List.getElem?_eq_getElem (by rw [← HM.out]; exact hlt2)⟩
        obtain ⟨b2, o2, rfl, q0, q1, q2, q3, ok2⟩ := (HY.out.kept HB.out).at hu
        have HE := Lib.hid (cmpR_drop (map_at ht) (map_at hu))
        obtain ⟨sa2, sc2, hs2⟩ := rd_shape8 ok2.1
        obtain ⟨uv, us⟩ := u
        simp only at hs2 q0 q1 q2 q3
        subst hs2
        replace q0 := fun o => Lib.cell?_alloc_some (W := wr) o q0
        replace q1 := fun o => Lib.cell?_alloc_some (W := wr) o q1
        replace q2 := fun o => Lib.cell?_alloc_some (W := wr) o q2
        replace q3 := fun o => Lib.cell?_alloc_some (W := wr) o q3
        have HO2 := Lib.hid ok2
        clear ht hu ok2
        have HC := fun w1 (h : Below wr.heap.size wr w1) => Lib.hid (compare_any (tv, _) (uv, _) w1 (HO1.out.kept h) (HO2.out.kept h))
        unfold aggV at HC
        simp only at HC
        obtain ⟨z, hz⟩ : ∃ z, z = cmpT tv uv := ⟨_, rfl⟩
        rw [← hz] at HC
        by_cases h0 : z = 0
        · have HR := Lib.hid (show cmpR (l.map Prod.fst) (m.map Prod.fst) = cmpR ((l.map Prod.fst).drop (k + 1)) ((m.map Prod.fst).drop (k + 1)) by rw [HS.out, HE.out, ← hz, if_pos h0])
          subst h0
          clear hz
          go_wp2_with (go_at_call 79; go_must (refine ((HC _ (below2 _ _ _)).out).mono ?_); rintro e w2 ⟨rfl, hb⟩; have HB2 := Lib.hid (below_then (below_lay (below_lay HB.out _) _) hb); clear hb)
          go_roundw
          case rel => exact ⟨k + 1, by omega, by omega, by go_num, HR.out, HB2.out⟩
          case measure => simp [intOf]; omega
        · have HR := Lib.hid (show cmpR (l.map Prod.fst) (m.map Prod.fst) = z by rw [HS.out, HE.out, ← hz, if_neg h0])
          have q : (z != 0) = true := by rw [bne_iff_ne]; exact h0
          clear hz h0
          go_wp2_with (go_at_call 79; go_must (refine ((HC _ (below2 _ _ _)).out).mono ?_); rintro e w2 ⟨rfl, hb⟩; have HB2 := Lib.hid (below_then (below_lay (below_lay HB.out _) _) hb); clear hb)
          go_ret
          exact ⟨by rw [HR.out] <;> rfl, HB2.out⟩
      · have HR := Lib.hid (show cmpR (l.map Prod.fst) (m.map Prod.fst) = 1 by rw [HS.out]; exact cmpR_over _ _ _ (by rw [List.length_map, ← HM.out]; omega) (by rw [List.length_map, ← HN.out]; exact hlt))
        clear ht
        go_wp2_with fail
        go_ret
        exact ⟨by rw [HR.out] <;> rfl, below_lay HB.out _⟩
    · have HR := Lib.hid (show cmpR (l.map Prod.fst) (m.map Prod.fst) = if n < n2 then -1 else 0 by
        rw [HS.out, cmpR_ends _ _ (by rw [List.length_map, List.length_map, ← HN.out, ← HM.out]; omega) k (by rw [List.length_map, ← HN.out]; omega), List.length_map, List.length_map, ← HN.out, ← HM.out])
      by_cases hnn : n < n2
      · rw [if_pos hnn] at HR
        go_wp2_with fail
        go_ret
        exact ⟨by rw [HR.out] <;> rfl, HB.out⟩
      · rw [if_neg hnn] at HR
        go_wp2_with fail
        go_ret
        exact ⟨by rw [HR.out] <;> rfl, HB.out⟩

set_option maxHeartbeats 1000000 in
theorem rows_any (v1 v2 : Value) (x y : List Vc) (w : World) (hx : RdRow w v1 x) (hy : RdRow w v2 y) (hl : x.length ≤ 1000000) (hl2 : y.length ≤ 1000000) :
    Calls Try.prog 51 #[v1, v2] w fun e w' => e = .returned (.int .i64 (cmpR x y)) ∧ Below w.heap.size w w' := by
  have HC := Lib.hid (compareFunc_any v1 v2 x y w hx hy hl hl2)
  obtain ⟨a1, c1, rfl⟩ := rdRow_shape hx
  obtain ⟨a2, c2, rfl⟩ := rdRow_shape hy
  clear hx hy
  go_enter Try.func51, Try.ntmps51
  go_wp2_with fail
  refine HC.out.mono ?_
  rintro e w2 ⟨rfl, hb⟩
  have HB := Lib.hid hb
  clear hb
  go_wp2_with fail
  go_ret
  exact ⟨rfl, HB.out⟩

end Go.Proofs.Ytnfjdoeemnhkbaa

namespace Go.Proofs.Ytnfjdoeemnhkbaa
set_option linter.unusedVariables false
set_option linter.unusedSimpArgs false
open Go.RowKit

def fitsR : List Co → List Vc → Bool
  | [], [] => true
  | c :: cs, v :: vs => fitsT c v && fitsR cs vs
  | _, _ => false
theorem fitsR_len : ∀ (x : List Co) (y : List Vc), x.length ≠ y.length → fitsR x y = false
  | [], [], h => absurd rfl h
  | [], _ :: _, _ => rfl
  | _ :: _, [], _ => rfl
  | a :: x, b :: y, h => by rw [fitsR, fitsR_len x y (by simpa using h)]; simp
theorem fitsR_drop {x : List Co} {y : List Vc} {k : Nat} {a : Co} {b : Vc} (hx : x[k]? = some a) (hy : y[k]? = some b) : fitsR (x.drop k) (y.drop k) = (fitsT a b && fitsR (x.drop (k + 1)) (y.drop (k + 1))) := by
  obtain ⟨h1, h2⟩ := List.getElem?_eq_some_iff.1 hx
  obtain ⟨h3, h4⟩ := List.getElem?_eq_some_iff.1 hy
  rw [List.drop_eq_getElem_cons h1, List.drop_eq_getElem_cons h3, fitsR, h2, h4]

theorem RdC.at {w : World} {ao : Option Addr} {len cap : Nat} {l : List Co} (h : RdC w (.slice ao len cap) l) {k : Nat} {t : Co} (hk : l[k]? = some t) :
    ∃ b off, ao = some ⟨b, off, none⟩ ∧ w.cell? ⟨b, off + k * 3, none⟩ = some (.string t.n) ∧ w.cell? ⟨b, off + k * 3 + 1, none⟩ = some (.int .i64 t.k) ∧ w.cell? ⟨b, off + k * 3 + 2, none⟩ = some (.bool t.u) := by
  obtain ⟨b, off, ha, hc⟩ := RdS.at h (k := k) (t := t.cells) (by rw [List.getElem?_map, hk]; rfl)
  exact ⟨b, off, ha, hc 0 _ rfl, hc 1 _ rfl, hc 2 _ rfl⟩
theorem rdC_shape {w : World} {v : Value} {l : List Co} (h : RdC w v l) : ∃ ao cap, v = .slice ao l.length cap := by
  obtain ⟨ao, cap, hv⟩ := rdS_shape h
  exact ⟨ao, cap, by simpa using hv⟩
theorem RdC.kept {w w' : World} {v : Value} {l : List Co} (h : RdC w v l) (hb : Below w.heap.size w w') : RdC w' v l := RdS.kept h hb

set_option maxRecDepth 100000 in
set_option maxHeartbeats 4000000 in
theorem fitsRow_any (v1 v2 : Value) (x : List Co) (y : List Vc) (w : World) (hx : RdC w v1 x) (hy : RdRow w v2 y) (hl : x.length ≤ 1000000) (hl2 : y.length ≤ 1000000) :
    Calls Try.prog 60 #[.agg #[v1], v2] w fun e w' => e = .returned (.bool (fitsR x y)) ∧ Below w.heap.size w w' := by
  obtain ⟨m, rfl, hy⟩ := hy
  rw [List.length_map] at hl2
  obtain ⟨a1, c1, rfl⟩ := rdC_shape hx
  obtain ⟨a2, c2, rfl⟩ := rdP_shape hy
  by_cases hn : x.length = m.length
  · obtain ⟨n, hN⟩ : ∃ n, n = x.length := ⟨_, rfl⟩
    rw [← hN] at hn hx hl ⊢
    rw [← hn] at hy ⊢
    have HX := Lib.hid (RdC.kept hx (below_alloc w (.cells #[.slice a1 n c1] 25)))
    have HY := Lib.hid (hy.kept (below_alloc w (.cells #[.slice a1 n c1] 25)))
    have HBA := Lib.hid (below_alloc w (.cells #[.slice a1 n c1] 25))
    have HZ := Lib.hid (heap_alloc_new w (.cells #[.slice a1 n c1] 25))
    have HN := Lib.hid hN
    have HM := Lib.hid hn
    clear hx hy hN hn hl2
    go_enter Try.func60, Try.ntmps60
    go_wp2_with fail
    go_loopw [15] (fun i wr => ∃ k : Nat, k ≤ n ∧ i = .int .i64 (k : Int) ∧ fitsR x (m.map Prod.fst) = fitsR (x.drop k) ((m.map Prod.fst).drop k) ∧ Below (w.alloc (.cells #[.slice a1 n c1] 25)).heap.size (w.alloc (.cells #[.slice a1 n c1] 25)) wr) (fun i _ => n - (intOf i).toNat)
    case atStart => exact ⟨0, Nat.zero_le _, rfl, rfl, Below.refl _ _⟩
    case round =>
      obtain ⟨k, hk, rfl, hs, hbel⟩ := hrel
      have HS := Lib.hid hs
      have HB := Lib.hid hbel
      clear hs hbel
      by_cases hlt : k < n
      · obtain ⟨t, ht⟩ : ∃ t, x[k]? = some t := ⟨_, List.getElem?_eq_getElem (by rw [← HN.out]; exact hlt)⟩
        obtain ⟨u, hu⟩ : ∃ u, m[k]? = some u := ⟨_, List.getElem?_eq_getElem (by rw [← HM.out]; exact hlt)⟩
        obtain ⟨b1, o1, rfl, p0, p1, p2⟩ := (RdC.kept HX.out HB.out).at ht
        obtain ⟨b2, o2, rfl, q0, q1, q2, q3, ok2⟩ := (HY.out.kept HB.out).at hu
        have HE := Lib.hid (fitsR_drop ht (map_at hu))
        obtain ⟨sa2, sc2, hs2⟩ := rd_shape8 ok2.1
        obtain ⟨uv, us⟩ := u
        simp only at hs2 q0 q1 q2 q3
        subst hs2
        have z0 := (HB.out.block w.heap.size (by simp)).trans HZ.out
        have zc : wr.cell? ⟨w.heap.size, 0, none⟩ = some (.slice (some ⟨b1, o1, none⟩) n c1) := by rw [cell_of_row wr w.heap.size 0 _ _ _ z0]; rfl
        replace zc := fun o => Lib.cell?_alloc_some (W := wr) o zc
        replace p0 := fun o => Lib.cell?_alloc_some (W := wr) o p0
        replace p1 := fun o => Lib.cell?_alloc_some (W := wr) o p1
        replace p2 := fun o => Lib.cell?_alloc_some (W := wr) o p2
        have HO2 := Lib.hid ok2
        clear ht hu ok2 z0
        have HC := fun w1 (h : Below wr.heap.size wr w1) => Lib.hid (fits_any t (uv, _) w1 (HO2.out.kept h))
        unfold aggV Co.agg at HC
        simp only at HC HE
        cases hsm : fitsT t uv
        · rw [hsm] at HC
          have HR := Lib.hid (show fitsR x (m.map Prod.fst) = false by rw [HS.out, HE.out, hsm]; rfl)
          clear hsm
          go_wp2_with fail
          go_region_with (go_at_call 92; refine ((HC _ (below_draws (below_alloc _ _) _)).out).mono ?_; rintro e w2 ⟨rfl, hb⟩)
          all_goals
            have HB2 := Lib.hid (below_then (below_draws (below_lay HB.out _) _) hb)
            clear hb
            go_wp2_with fail
            go_ret
            exact ⟨by rw [HR.out] <;> rfl, below_then HBA.out HB2.out⟩
        · rw [hsm] at HC
          have HR := Lib.hid (show fitsR x (m.map Prod.fst) = fitsR (x.drop (k + 1)) ((m.map Prod.fst).drop (k + 1)) by rw [HS.out, HE.out, hsm]; rfl)
          clear hsm
          go_wp2_with fail
          go_region_with (go_at_call 92; refine ((HC _ (below_draws (below_alloc _ _) _)).out).mono ?_; rintro e w2 ⟨rfl, hb⟩)
          all_goals
            have HB2 := Lib.hid (below_then (below_draws (below_lay HB.out _) _) hb)
            clear hb
            go_wp2_with fail
            go_roundw
            case rel => exact ⟨k + 1, by omega, by go_num, HR.out, HB2.out⟩
            case measure => simp [intOf]; omega
      · have HR := Lib.hid (show fitsR x (m.map Prod.fst) = true by
          have e : k = n := by omega
          rw [HS.out, e, List.drop_of_length_le (by rw [← HN.out]; omega), List.drop_of_length_le (by rw [List.length_map, ← HM.out]; omega)]
          rfl)
        go_wp2_with fail
        go_ret
        exact ⟨by rw [HR.out] <;> rfl, below_then HBA.out HB.out⟩
  · have HR := Lib.hid (show fitsR x (m.map Prod.fst) = false from fitsR_len _ _ (by rw [List.length_map]; exact hn))
    obtain ⟨n1, hN1⟩ : ∃ n1, n1 = x.length := ⟨_, rfl⟩
    obtain ⟨n2, hN2⟩ : ∃ n2, n2 = m.length := ⟨_, rfl⟩
    rw [← hN1] at hn ⊢
    rw [← hN2] at hn ⊢
    have q : ((n2 : Int) != (n1 : Int)) = true := by rw [bne_iff_ne]; omega
    clear hn hN1 hN2 hx hy
    go_enter Try.func60, Try.ntmps60
    go_wp2_with fail
    go_ret
    exact ⟨by rw [HR.out] <;> rfl, below_alloc w _⟩

end Go.Proofs.Ytnfjdoeemnhkbaa

namespace Go.Proofs.Ytnfjdoeemnhkbaa
set_option linter.unusedVariables false
set_option linter.unusedSimpArgs false
open Go.RowKit

/-- Which number a column's value is of. -/
def mixOf (n : Int) (i : Nat) : Int := bits .xor .i64 (n / 2 ^ (3 * i)) (n / 131072)
def eltOf (n : Int) (i : Nat) (c : Co) : Vc := if i = 0 then ⟨false, 1, n % 16, []⟩ else valOf c (mixOf n i)
/-- A row of a number, of these columns. -/
def rowOf (cols : List Co) (n : Int) : List Vc := cols.mapIdx (eltOf n)

def FarV (g : Nat) (t : Vc × Value) : Prop := t.1.b ≠ [] → ∀ a n c, t.2 = .slice (some a) n c → a.block ≠ g
theorem OkV.grown {w w' : World} {t : Vc × Value} {g : Option Nat} (h : OkV w t) (hg : w.grownBy w' g) (hf : ∀ k, g = some k → FarV k t) : OkV w' t := by
  refine ⟨?_, h.2⟩
  obtain ⟨ao, cap, hv, hn, hc⟩ := h.1
  refine ⟨ao, cap, hv, hn, fun hp => ?_⟩
  obtain ⟨b, off, ha, hcell⟩ := hc hp
  refine ⟨b, off, ha, fun i hi => ?_⟩
  have h1 := hcell i hi
  rw [hg.cell_far ⟨b, off + i, none⟩ (World.block_lt_of_cell? _ _ h1) (fun e => hf b e.symm (fun e2 => by rw [e2] at hp; simp at hp) ⟨b, off, none⟩ _ cap (by rw [hv, ha]) rfl)]
  exact h1
theorem okV_lt {w : World} {t : Vc × Value} (h : OkV w t) (hb : t.1.b ≠ []) : ∀ a n c, t.2 = .slice (some a) n c → a.block < w.heap.size := by
  intro a n c he
  obtain ⟨ao, cap, hv, _, hc⟩ := h.1
  have hp : 0 < (t.1.b.map u8v).length := by
    rw [List.length_map]
    rcases Nat.eq_zero_or_pos t.1.b.length with h0 | h0
    · exact absurd (List.length_eq_zero_iff.1 h0) hb
    · exact h0
  obtain ⟨b, off, ha, hcell⟩ := hc hp
  rw [hv, ha] at he
  cases he
  exact World.block_lt_of_cell? _ _ (hcell 0 hp)

/-- Such values of one's own, as a slice. -/
structure OInv (w : World) (l : List (Vc × Value)) (v : Value) (wr : World) : Prop where
  own : wr.ownsRow w.heap.size 36 4 v l.length (l.map cellsV).flatten
  ok : ∀ t ∈ l, OkV wr t
  far : ∀ t ∈ l, ∀ g, v.ownBlock = some g → FarV g t

theorem OInv.kept {w wr w1 : World} {l : List (Vc × Value)} {v : Value} (h : OInv w l v wr) (hb : Below wr.heap.size wr w1) : OInv w l v w1 := by
  refine ⟨h.own.kept (⟨hb.os, hb.tape, hb.output, hb.size, fun k hk _ => hb.block k hk⟩ : wr.grownBy w1 none) ?_, fun t ht => (h.ok t ht).kept hb, h.far⟩
  rcases h.own.2 with ⟨rfl, _⟩ | ⟨g, cap, cur, rfl, _⟩
  · exact .inl rfl
  · exact .inr (by simp [Value.ownBlock])
theorem OInv.next {w wo w1 : World} {l : List (Vc × Value)} {ao : Option Addr} {k cap g cap1 : Nat} {t : Vc × Value} (h : OInv w l (.slice ao k cap) wo) (hk : l.length = k)
    (hok : OkV wo t) (hfar : ∀ g, (Value.slice ao k cap).ownBlock = some g → FarV g t)
    (hown : w1.ownsRow w.heap.size 36 4 (.slice (some ⟨g, 0, none⟩) (k + 1) cap1) (k + 1) ((l.map cellsV).flatten ++ cellsV t)) (hgrow : wo.grownBy w1 (Value.slice ao k cap).ownBlock)
    (hat : (Value.slice ao k cap).ownBlock = some g ∨ g = wo.heap.size) : OInv w (l ++ [t]) (.slice (some ⟨g, 0, none⟩) (k + 1) cap1) w1 := by
  have hall : ∀ u ∈ l ++ [t], OkV wo u ∧ ∀ g, (Value.slice ao k cap).ownBlock = some g → FarV g u := by
    intro u hu
    rcases List.mem_append.1 hu with h1 | h1
    · exact ⟨h.ok u h1, h.far u h1⟩
    · rw [List.mem_singleton.1 h1]; exact ⟨hok, hfar⟩
  refine ⟨?_, fun u hu => ((hall u hu).1).grown hgrow (fun j hj => (hall u hu).2 j hj), fun u hu j hj => ?_⟩
  · rw [List.length_append, hk, List.map_append, List.flatten_append]
    simpa using hown
  · have hj' : g = j := by simpa [Value.ownBlock] using hj
    subst hj'
    rcases hat with h1 | h1
    · exact (hall u hu).2 g h1
    · intro hb a n c he
      have := okV_lt (hall u hu).1 hb a n c he
      omega

theorem own_lt {w : World} {B : Nat} {E : TypeId} {size n : Nat} {v : Value} {xs : List Value} (h : w.ownsRow B E size v n xs) : ∀ g, v.ownBlock = some g → g < w.heap.size := by
  intro k hk
  rcases h.2 with ⟨rfl, _⟩ | ⟨g, cap, cur, rfl, hbg, hh, _⟩
  · cases hk
  · have h2 : g = k := by simpa [Value.ownBlock] using hk
    subst h2
    exact (Array.getElem?_eq_some_iff.1 hh).1

theorem take_mapIdx {α β : Type} (f : Nat → α → β) (l : List α) (k : Nat) (c : α) (h : l[k]? = some c) : (l.take (k + 1)).mapIdx f = (l.take k).mapIdx f ++ [f k c] := by
  have hk := (List.getElem?_eq_some_iff.1 h).1
  rw [List.take_add_one, h, Option.toList_some, List.mapIdx_concat, List.length_take, Nat.min_eq_left (by omega)]

theorem OInv.le {w w0 wr : World} {l : List (Vc × Value)} {v : Value} (h : OInv w l v wr) (hb : w0.heap.size ≤ w.heap.size) : OInv w0 l v wr := ⟨Joins.ownsRow_le h.own hb, h.ok, h.far⟩
theorem oinv_below {w wo w1 : World} {l : List (Vc × Value)} {v : Value} {B : World} (h : OInv w l v wo) (hb : Below w.heap.size w wo) (hg : wo.grownBy w1 v.ownBlock) : Below w.heap.size w w1 :=
  hb.grown hg hb.size (own_base h.own)

set_option maxRecDepth 100000 in
set_option maxHeartbeats 4000000 in
theorem row_is (v : Value) (cols : List Co) (n : Int) (w : World) (hv : RdC w v cols) (hl : cols.length ≤ 6) :
    Calls Try.prog 19 #[.agg #[v], .int .i64 n] w fun e w' => ∃ u l, e = .returned u ∧ l.map Prod.fst = rowOf cols n ∧ OInv w l u w' ∧ Below w.heap.size w w' ∧ ∀ t ∈ l, FreshV w.heap.size t.2 := by
  obtain ⟨a1, c1, rfl⟩ := rdC_shape hv
  obtain ⟨m, hM⟩ : ∃ m, m = cols.length := ⟨_, rfl⟩
  rw [← hM] at hv hl ⊢
  have HX := Lib.hid (RdC.kept hv (below_alloc w (.cells #[.slice a1 m c1] 25)))
  have HBA := Lib.hid (below_alloc w (.cells #[.slice a1 m c1] 25))
  have HM := Lib.hid hM
  have hb15 : ∀ x, bits .and .i64 x 15 = x % 16 := fun x => and_low x 4 (by decide) 15 rfl
  obtain ⟨i0, hi, hz0, hz1, hz2⟩ := info_parts infoVal
  clear hv hM
  go_enter Try.func19, Try.ntmps19
  go_wp2_with fail
  go_loopw [5, 11] (fun o i wr => ∃ k : Nat, ∃ l ao cap, k ≤ m ∧ l.length = k ∧ i = .int .i64 (k : Int) ∧ o = .slice ao k cap ∧ l.map Prod.fst = (cols.take k).mapIdx (eltOf n) ∧ OInv (w.alloc (.cells #[.slice a1 m c1] 25)) l (.slice ao k cap) wr ∧ Below (w.alloc (.cells #[.slice a1 m c1] 25)).heap.size (w.alloc (.cells #[.slice a1 m c1] 25)) wr ∧ ∀ t ∈ l, FreshV w.heap.size t.2) (fun _ i _ => m - (intOf i).toNat)
  case atStart => exact ⟨0, [], none, 0, by omega, rfl, rfl, rfl, by simp, ⟨⟨rfl, .inl ⟨rfl, rfl⟩⟩, (fun t h => by cases h), (fun t h => by cases h)⟩, Below.refl _ _, fun t h => by cases h⟩
  case round =>
    obtain ⟨k, l, ao, cap, hk, hll, rfl, rfl, hrow, hinv, hbel, hfrs⟩ := hrel
    have HFR := Lib.hid hfrs
    obtain ⟨wo, rfl⟩ : ∃ wo : World, wo = wr := ⟨_, rfl⟩
    have HI := Lib.hid hinv
    have HL := Lib.hid hll
    have HW := Lib.hid hrow
    have HB := Lib.hid hbel
    clear hinv hll hrow hbel hfrs
    by_cases hlt : k < m
    · obtain ⟨c, hc⟩ : ∃ c, cols[k]? = some c := ⟨_, List.getElem?_eq_getElem (by rw [← HM.out]; exact hlt)⟩
      obtain ⟨b1, o1, rfl, p0, p1, p2⟩ := (RdC.kept HX.out HB.out).at hc
      have HE := Lib.hid (take_mapIdx (eltOf n) cols k c hc)
      clear hc
      by_cases h0 : k = 0
      · subst h0
        simp only [Nat.zero_mul, Nat.add_zero] at p0 p1 p2
        have HI2 := fun o1 o2 => Lib.hid (HI.out.kept (below2 wo o1 o2))
        have HO2 := fun o1 o2 => Lib.hid (show ((wo.alloc o1).alloc o2).ownsRow _ 36 4 (.slice ao 0 cap) 0 (l.map cellsV).flatten by have := (HI2 o1 o2).out.own; rw [HL.out] at this; exact this)
        go_wp2_with (at_builtin; go_must (refine wpList_append_lies _ rfl _ _ 33 rfl _ 36 i0 _ 4 48 Try.underlying33 hi hz0 hz1 hz2 rfl (by decide) (.slice ao 0 cap) 0 (l.map cellsV).flatten (by rfl) (HO2 _ _).out ⟨wo.heap.size + 1, 0, none⟩ 1 1 (cellsV (⟨false, 1, n % 16, []⟩, .slice none 0 0)) (by rfl) (by rfl) (World.news_of_block (cs := #[.bool false, .int .i64 1, .int .i64 (n % 16), .slice none 0 0]) (t := 36) (fr := (0, 0)) (heap2 wo _ _)) (by simp [cellsV, Value.oneCell']) (by decide) (by unfold maxLen; omega) (by omega) (by simp; have := HB.out.size; simp at this; omega) (wo.heap.size + 1 + 1) (by simp) ?_); intro gg cap1 w1 hown1 hgrow hat hlt2)
        have HN := Lib.hid (OInv.next (t := (⟨false, 1, n % 16, []⟩, .slice none 0 0)) (HI2 _ _).out HL.out ⟨Rd.nil _, fun x hx => by cases hx⟩ (fun g hg hb => absurd rfl hb) hown1 hgrow (by simpa using hat))
        have HBN := Lib.hid (oinv_below (B := wo) (HI2 _ _).out (below_lay (below_lay HB.out _) _) hgrow)
        clear hown1 hgrow hat hlt2
        go_wp2
        go_roundw
        case rel => exact ⟨1, l ++ [(⟨false, 1, n % 16, []⟩, .slice none 0 0)], _, _, by omega, by rw [List.length_append, HL.out]; rfl, by go_num, rfl, by rw [List.map_append, HW.out, HE.out]; rfl, HN.out, HBN.out, fun t ht => by
          rcases List.mem_append.1 ht with h1 | h1
          · exact HFR.out t h1
          · rw [List.mem_singleton.1 h1]; exact fresh_nil _⟩
        case measure => simp [intOf]; omega
      · have q0 : ((k : Int) == 0) = false := by rw [beq_eq_false_iff_ne]; omega
        have HV := Lib.hid (show eltOf n k c = valOf c (mixOf n k) by unfold eltOf; rw [if_neg h0])
        obtain ⟨tv, htv⟩ : ∃ tv, tv = valOf c (mixOf n k) := ⟨_, rfl⟩
        have HCV := Lib.hid (value_any c (mixOf n k))
        rw [← htv] at HCV HV
        clear htv
        unfold Co.agg aggV mixOf at HCV
        go_wp2_with fail
        refine (HCV.out _).mono ?_
        rintro e w2 ⟨s, rfl, hok, hb, hfr⟩
        obtain ⟨sa, sc, hs⟩ := rd_shape8 hok.1
        simp only at hs
        subst hs
        have HOK := Lib.hid (hok.kept (below_alloc w2 (.cells #[.bool tv.u, .int .i64 tv.k, .int .i64 tv.n, .slice sa tv.b.length sc] 36)))
        have HI2 := Lib.hid (((HI.out.kept (below_alloc wo _)).kept hb).kept (below_alloc w2 (.cells #[.bool tv.u, .int .i64 tv.k, .int .i64 tv.n, .slice sa tv.b.length sc] 36)))
        have HO2 := Lib.hid (show (w2.alloc (.cells #[.bool tv.u, .int .i64 tv.k, .int .i64 tv.n, .slice sa tv.b.length sc] 36)).ownsRow _ 36 4 (.slice ao k cap) k (l.map cellsV).flatten by have := HI2.out.own; rw [HL.out] at this; exact this)
        have HB2 := Lib.hid (below_lay (below_then (below_lay HB.out _) hb) (.cells #[.bool tv.u, .int .i64 tv.k, .int .i64 tv.n, .slice sa tv.b.length sc] 36))
        have HFA := Lib.hid (show ∀ g, (Value.slice ao k cap).ownBlock = some g → FarV g (tv, .slice sa tv.b.length sc) from fun g hg _ a n' c' he => by
          have h1 := own_lt HI.out.own g hg
          have h2 := hfr a n' c' he
          simp at h2
          omega)
        have HFV := Lib.hid (show FreshV w.heap.size (.slice sa tv.b.length sc) from fun a n' c' he => by
          have h1 := hfr a n' c' he
          have h2 := HB.out.size
          simp at h1 h2
          omega)
        clear hok hb hfr
        go_wp2_with (at_builtin; go_must (refine wpList_append_lies _ rfl _ _ 33 rfl _ 36 i0 _ 4 48 Try.underlying33 hi hz0 hz1 hz2 rfl (by decide) (.slice ao k cap) k (l.map cellsV).flatten (by rfl) HO2.out ⟨w2.heap.size, 0, none⟩ 1 1 (cellsV (tv, .slice sa tv.b.length sc)) (by rfl) (by rfl) (World.news_of_block (cs := #[.bool tv.u, .int .i64 tv.k, .int .i64 tv.n, .slice sa tv.b.length sc]) (t := 36) (fr := (0, 0)) (heap_alloc_new w2 _)) (by simp [cellsV, Value.oneCell']) (by decide) (by unfold maxLen; omega) (by omega) HB2.out.size (w2.heap.size + 1) (by simp) ?_); intro gg cap1 w1 hown1 hgrow hat hlt2)
        have HN := Lib.hid (OInv.next (t := (tv, .slice sa tv.b.length sc)) HI2.out HL.out HOK.out HFA.out hown1 hgrow (by simpa using hat))
        have HBN := Lib.hid (oinv_below (B := wo) HI2.out HB2.out hgrow)
        clear hown1 hgrow hat hlt2
        go_wp2
        go_roundw
        case rel => exact ⟨k + 1, l ++ [(tv, .slice sa tv.b.length sc)], _, _, by omega, by rw [List.length_append, HL.out]; rfl, by go_num, rfl, by rw [List.map_append, HW.out, HE.out, HV.out]; rfl, HN.out, HBN.out, fun t ht => by
          rcases List.mem_append.1 ht with h1 | h1
          · exact HFR.out t h1
          · rw [List.mem_singleton.1 h1]; exact HFV.out⟩
        case measure => simp [intOf]; omega
    · have HK := Lib.hid (show l.map Prod.fst = rowOf cols n by
        rw [HW.out]
        have : cols.take k = cols := List.take_of_length_le (by rw [← HM.out]; omega)
        rw [this]; rfl)
      have HF := Lib.hid (HI.out.le HBA.out.size)
      go_wp2_with fail
      go_ret
      exact ⟨_, l, rfl, HK.out, HF.out, below_then HBA.out HB.out, HFR.out⟩

theorem row_any (v : Value) (cols : List Co) (n : Int) (w : World) (hv : RdC w v cols) (hl : cols.length ≤ 6) :
    Calls Try.prog 19 #[.agg #[v], .int .i64 n] w fun e w' => ∃ u l, e = .returned u ∧ l.map Prod.fst = rowOf cols n ∧ OInv w l u w' ∧ Below w.heap.size w w' :=
  (row_is v cols n w hv hl).mono fun e w' ⟨u, l, h1, h2, h3, h4, _⟩ => ⟨u, l, h1, h2, h3, h4⟩

end Go.Proofs.Ytnfjdoeemnhkbaa

namespace Go.Proofs.Ytnfjdoeemnhkbaa
set_option linter.unusedVariables false
open Go.RowKit

/-- Columns such as may be: the first a number that is never null. -/
structure ColsOk (cols : List Co) : Prop where
  ks : ∀ c ∈ cols, c.k = 1 ∨ c.k = 2
  hd : ∀ c, cols[0]? = some c → c.k = 1 ∧ c.u = false
  le : cols.length ≤ 6
  ne : 0 < cols.length

theorem colsOf_len (l : List (Int × Bool)) : (colsOf l).length = l.length + 1 := by simp [colsOf]
theorem colsOf_ok {l : List (Int × Bool)} (h : Kinds l) (hl : l.length ≤ 5) : ColsOk (colsOf l) := by
  refine ⟨fun c hc => ?_, fun c hc => ?_, by rw [colsOf_len]; omega, by rw [colsOf_len]; omega⟩
  · unfold colsOf at hc
    rcases List.mem_cons.1 hc with h1 | h1
    · rw [h1]; exact .inl rfl
    · obtain ⟨⟨p, i⟩, h2, rfl⟩ := List.mem_map.1 h1
      have h3 := List.mem_zipIdx h2
      simp only at h3 ⊢
      have : p ∈ l := by rw [h3.2.2]; exact List.getElem_mem _
      exact h p this
  · unfold colsOf at hc
    simp only [List.getElem?_cons_zero, Option.some.injEq] at hc
    rw [← hc]; exact ⟨rfl, rfl⟩

theorem valOf_norm (c : Co) (n : Int) (h : c.k = 1 ∨ c.k = 2) : NormV (valOf c n) ∧ (valOf c n).k = c.k := by
  unfold valOf
  split
  · exact ⟨⟨fun _ => ⟨rfl, rfl⟩, fun _ => rfl, fun _ => rfl⟩, rfl⟩
  · split
    · rename_i h1
      exact ⟨⟨(fun h => by cases h), (fun h => by simp at h), fun _ => rfl⟩, h1.symm⟩
    · rename_i h1
      exact ⟨⟨(fun h => by cases h), fun _ => rfl, fun h2 => absurd (h.resolve_left h1) h2⟩, rfl⟩
theorem eltOf_norm (cols : List Co) (h : ColsOk cols) (n : Int) (i : Nat) (c : Co) (hc : cols[i]? = some c) : NormV (eltOf n i c) ∧ (eltOf n i c).k = c.k := by
  unfold eltOf
  split
  · rename_i h0
    subst h0
    exact ⟨⟨(fun h => by cases h), (fun h => by simp at h), fun _ => rfl⟩, (h.hd c hc).1.symm⟩
  · exact valOf_norm c _ (h.ks c (List.mem_of_getElem? hc))

theorem rowOf_at (cols : List Co) (n : Int) (i : Nat) : (rowOf cols n)[i]? = (cols[i]?).map (eltOf n i) := by unfold rowOf; rw [List.getElem?_mapIdx]
theorem rowOf_len (cols : List Co) (n : Int) : (rowOf cols n).length = cols.length := by unfold rowOf; rw [List.length_mapIdx]
theorem rowOf_norm (cols : List Co) (h : ColsOk cols) (n : Int) : ∀ v ∈ rowOf cols n, NormV v := by
  intro v hv
  obtain ⟨i, hi⟩ := List.mem_iff_getElem?.1 hv
  rw [rowOf_at] at hi
  obtain ⟨c, hc, rfl⟩ := Option.map_eq_some_iff.1 hi
  exact (eltOf_norm cols h n i c hc).1
theorem rowOf_kinds (cols : List Co) (h : ColsOk cols) (n : Int) : (rowOf cols n).map (·.k) = cols.map (·.k) := by
  apply List.ext_getElem?
  intro i
  rw [List.getElem?_map, List.getElem?_map, rowOf_at]
  cases hc : cols[i]? with
  | none => rfl
  | some c => simp [(eltOf_norm cols h n i c hc).2]

theorem ord_key {cols : List Co} (h : ColsOk cols) (a b : Int) : cmpR (rowOf cols a) (rowOf cols b) = lexL cmpK ((rowOf cols a).map keyV) ((rowOf cols b).map keyV) :=
  cmpR_key _ _ (rowOf_norm cols h a) (rowOf_norm cols h b) (by rw [rowOf_kinds cols h, rowOf_kinds cols h])
theorem ord_anti {cols : List Co} (h : ColsOk cols) (a b : Int) : cmpR (rowOf cols b) (rowOf cols a) = - cmpR (rowOf cols a) (rowOf cols b) := by
  rw [ord_key h, ord_key h]; exact (lexL_ok cmpK_ok).anti _ _
theorem ord_eq {cols : List Co} (h : ColsOk cols) (a b : Int) : (cmpR (rowOf cols a) (rowOf cols b) == 0) = sameR (rowOf cols a) (rowOf cols b) := by
  rw [Bool.eq_iff_iff, beq_iff_eq, ord_key h, (lexL_ok cmpK_ok).eq, keys_eq _ _ (by rw [rowOf_kinds cols h, rowOf_kinds cols h]), sameR_iff]
theorem ord_tr {cols : List Co} (h : ColsOk cols) (a b c : Int) : cmpR (rowOf cols a) (rowOf cols b) ≤ 0 → cmpR (rowOf cols b) (rowOf cols c) ≤ 0 → cmpR (rowOf cols a) (rowOf cols c) ≤ 0 ∧ (cmpR (rowOf cols a) (rowOf cols c) = 0 → cmpR (rowOf cols a) (rowOf cols b) = 0 ∧ cmpR (rowOf cols b) (rowOf cols c) = 0) := by
  rw [ord_key h, ord_key h, ord_key h]; exact (lexL_ok cmpK_ok).tr _ _ _
theorem ord_tri {cols : List Co} (h : ColsOk cols) (a b : Int) : cmpR (rowOf cols a) (rowOf cols b) = -1 ∨ cmpR (rowOf cols a) (rowOf cols b) = 0 ∨ cmpR (rowOf cols a) (rowOf cols b) = 1 := by
  rw [ord_key h]; exact (lexL_ok cmpK_ok).tri _ _
/-- Of two values of one column. -/
theorem val_ord {x y : Vc} (hx : NormV x) (hy : NormV y) (hk : x.k = y.k) : cmpT y x = - cmpT x y ∧ (cmpT x y == 0) = sameT x y ∧ (cmpT x y = -1 ∨ cmpT x y = 0 ∨ cmpT x y = 1) := by
  refine ⟨?_, ?_, ?_⟩
  · rw [cmpT_key hx hy hk, cmpT_key hy hx hk.symm]; exact cmpK_ok.anti _ _
  · rw [Bool.eq_iff_iff, beq_iff_eq, cmpT_key hx hy hk, cmpK_ok.eq, key_eq hk, sameT_iff]
  · rw [cmpT_key hx hy hk]; exact cmpK_ok.tri _ _

theorem OInv.rdP {w wr : World} {l : List (Vc × Value)} {v : Value} (h : OInv w l v wr) : RdP wr v l := rdP_own h.own rfl h.ok
theorem oinv_shape {w wr : World} {l : List (Vc × Value)} {v : Value} (h : OInv w l v wr) : ∃ ao cap, v = .slice ao l.length cap := own_shape h.own

end Go.Proofs.Ytnfjdoeemnhkbaa
