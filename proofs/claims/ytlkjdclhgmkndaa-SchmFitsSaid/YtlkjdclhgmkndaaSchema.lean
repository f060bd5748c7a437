/-
  Contract of layer 6's Schema: a schema that may be.
-/
import Derived.Test.YtlkjdclhgmkndaaBas
namespace Go.Proofs.Ytlkjdclhgmkndaa
set_option linter.unusedVariables false
open Go.RowKit

/-- A column. -/
structure Co where
  n : ByteArray
  k : Int
  u : Bool
def Co.cells (c : Co) : List Value := [.string c.n, .int .i64 c.k, .bool c.u]
def flatC : List Co → List Value
  | [] => []
  | t :: r => t.cells ++ flatC r
theorem flatC_len (l : List Co) : (flatC l).length = l.length * 3 := by
  induction l with
  | nil => rfl
  | cons t r ih => rw [flatC, List.length_append, ih, List.length_cons, Nat.succ_mul]; simp [Co.cells]; omega
theorem flatC_append (a b : List Co) : flatC (a ++ b) = flatC a ++ flatC b := by
  induction a with
  | nil => rfl
  | cons t r ih => rw [List.cons_append, flatC, ih, flatC, List.append_assoc]

theorem infoCol : (Try.prog.info? 33).map (fun i => (i.zero, i.size, i.bytes)) = some (some (.agg #[.string .empty, .int .i64 0, .bool false]), 3, 32) := by kernel_rfl

theorem and_one (x : Int) : bits .and .i64 x 1 = x % 2 := by
  have h : bits .and .i64 x 1 = IntKind.i64.wrap ((BitVec.ofInt 64 x &&& BitVec.ofInt 64 1).toNat : Int) := rfl
  have h1 : (BitVec.ofInt 64 x &&& BitVec.ofInt 64 1).toNat = (x % 2).toNat := by
    rw [BitVec.toNat_and, show (BitVec.ofInt 64 1).toNat = 1 from rfl, Nat.and_one_is_mod, BitVec.toNat_ofInt]
    omega
  rw [h, h1, IntWalk.i64_in _ (by omega)]
  omega

def nameOf (i : Nat) : ByteArray := match i with
  | 0 => ⟨#[97]⟩
  | 1 => ⟨#[98, 98]⟩
  | 2 => ⟨#[99, 99, 99]⟩
  | 3 => ⟨#[110, 117, 108, 108]⟩
  | _ => ⟨#[97, 110, 100]⟩
/-- The columns of a number, so many. -/
def colsOf (l : List (Int × Bool)) : List Co := ⟨⟨#[107, 101, 121]⟩, 1, false⟩ :: (l.zipIdx.map fun (c, i) => ⟨nameOf i, c.1, c.2⟩)

/-- The columns so far: each a kind of two, and whether it may be null. -/
def Kinds (l : List (Int × Bool)) : Prop := ∀ c ∈ l, c.1 = 1 ∨ c.1 = 2

structure SInv (w : World) (l : List (Int × Bool)) (v : Value) (wr : World) : Prop where
  h2 : wr.heap[w.heap.size]? = some (.cells #[.slice none 0 0] 24 (0, 0))
  h3 : wr.heap[w.heap.size + 1 + 1]? = some (.cells #[v] 24 (0, 0))
  h4 : wr.heap[w.heap.size + 1 + 1 + 1]? = some (.cells #[.string ⟨#[97]⟩, .string ⟨#[98, 98]⟩, .string ⟨#[99, 99, 99]⟩, .string ⟨#[110, 117, 108, 108]⟩, .string ⟨#[97, 110, 100]⟩] 9 (0, 0))
  own : wr.ownsRow w.heap.size 33 3 v (l.length + 1) (flatC (colsOf l))
  far : ∀ g, v.ownBlock = some g → g ≠ w.heap.size ∧ g ≠ w.heap.size + 1 + 1 ∧ g ≠ w.heap.size + 1 + 1 + 1
  bel : Below w.heap.size w wr

theorem cols_more (l : List (Int × Bool)) (c : Int × Bool) : colsOf (l ++ [c]) = colsOf l ++ [⟨nameOf l.length, c.1, c.2⟩] := by
  unfold colsOf
  rw [List.zipIdx_append, List.map_append]
  simp

theorem kinds_more {l : List (Int × Bool)} (h : Kinds l) (a : Int) (b : Bool) (ha : a = 1 ∨ a = 2) : Kinds (l ++ [(a, b)]) := fun c hc => by
  rcases List.mem_append.1 hc with h1 | h1
  · exact h c h1
  · have : c = (a, b) := by simpa using h1
    rw [this]; exact ha

theorem sinv_next {w wo w1 : World} {l : List (Int × Bool)} {ao : Option Addr} {k cap gg cap1 : Nat} {A : Int} {B : Bool} {o : Obj} (h : SInv w l (.slice ao (k + 1) cap) wo) (hll : l.length = k)
    (hgrow : (wo.alloc o).drew.grownBy w1 (Value.slice ao (k + 1) cap).ownBlock) (hat : (Value.slice ao (k + 1) cap).ownBlock = some gg ∨ gg = wo.heap.size + 1)
    (hown1 : w1.ownsRow w.heap.size 33 3 (.slice (some ⟨gg, 0, none⟩) (k + 1 + 1) cap1) (k + 1 + 1) (flatC (colsOf l) ++ [.string (nameOf k), .int .i64 A, .bool B])) :
    SInv w (l ++ [(A, B)]) (.slice (some ⟨gg, 0, none⟩) (k + 1 + 1) cap1) (w1.setCell ⟨w.heap.size + 1 + 1, 0, none⟩ (.slice (some ⟨gg, 0, none⟩) (k + 1 + 1) cap1)) := by
  have hs : (wo.alloc o).drew.heap.size = wo.heap.size + 1 := by simp
  have lt4 : w.heap.size + 1 + 1 + 1 < wo.heap.size := (Array.getElem?_eq_some_iff.1 h.h4).1
  have keep : ∀ X ob, X < wo.heap.size → (∀ g, (Value.slice ao (k + 1) cap).ownBlock = some g → g ≠ X) → wo.heap[X]? = some ob → w1.heap[X]? = some ob := fun X ob hX hne hx =>
    (hgrow.block X (by rw [hs]; omega) (fun e => hne X e.symm rfl)).trans ((heap_alloc_old wo _ hX).trans hx)
  have hgg : gg ≠ w.heap.size ∧ gg ≠ w.heap.size + 1 + 1 ∧ gg ≠ w.heap.size + 1 + 1 + 1 := by
    rcases hat with h1 | h1
    · exact h.far gg h1
    · omega
  have h2 := keep _ _ (by omega) (fun g hg => (h.far g hg).1) h.h2
  have h3 := keep _ _ (by omega) (fun g hg => (h.far g hg).2.1) h.h3
  have h4 := keep _ _ (by omega) (fun g hg => (h.far g hg).2.2) h.h4
  refine ⟨?_, ?_, ?_, ?_, fun g hg => ?_, ?_⟩
  · rw [heap_setCell_other w1 ⟨w.heap.size + 1 + 1, 0, none⟩ _ _ (show w.heap.size ≠ w.heap.size + 1 + 1 by omega)]; exact h2
  · exact heap_setCell_same w1 (w.heap.size + 1 + 1) 0 _ _ _ h3
  · rw [heap_setCell_other w1 ⟨w.heap.size + 1 + 1, 0, none⟩ _ _ (show w.heap.size + 1 + 1 + 1 ≠ w.heap.size + 1 + 1 by omega)]; exact h4
  · have k1 := hown1.kept (grown_setCell w1 ⟨w.heap.size + 1 + 1, 0, none⟩ (.slice (some ⟨gg, 0, none⟩) (k + 1 + 1) cap1)) (.inr (by simp [Value.ownBlock]; exact hgg.2.1))
    rw [List.length_append, hll, cols_more, flatC_append, hll]
    exact k1
  · have : gg = g := by simpa [Value.ownBlock] using hg
    rw [← this]; exact hgg
  · exact ((((h.bel.alloc h.bel.size o).drew).grown hgrow (by rw [hs]; have := h.bel.size; omega) (own_base h.own)).setCell (show w.heap.size ≤ w.heap.size + 1 + 1 by omega) _)

theorem infoSchema : (Try.prog.info? 24).map (·.size) = some 1 := by kernel_rfl

theorem sinv_start (w : World) : SInv w [] (.slice (some ⟨w.heap.size + 1, 0, none⟩) 1 1) ((((w.alloc (.cells #[.slice none 0 0] 24)).alloc (.cells #[.string ⟨#[107, 101, 121]⟩, .int .i64 1, .bool false] 33)).alloc (.cells #[.slice (some ⟨w.heap.size + 1, 0, none⟩) 1 1] 24)).alloc (.cells #[.string ⟨#[97]⟩, .string ⟨#[98, 98]⟩, .string ⟨#[99, 99, 99]⟩, .string ⟨#[110, 117, 108, 108]⟩, .string ⟨#[97, 110, 100]⟩] 9)) := by
  have n1 := heap_alloc_new w (.cells #[.slice none 0 0] 24)
  have s1 : (w.alloc (.cells #[.slice none 0 0] 24)).heap.size = w.heap.size + 1 := by simp
  have hb1 := (Below.refl w.heap.size w).alloc (Nat.le_refl _) (.cells #[.slice none 0 0] 24)
  have hown := World.ownsRow_lit (base := w.heap.size) (size := 3) (e := 33) (w.alloc (.cells #[.slice none 0 0] 24)) #[.string ⟨#[107, 101, 121]⟩, .int .i64 1, .bool false] 1 (by rw [s1]; omega) (by decide) rfl
  rw [s1] at hown
  revert n1 s1 hb1 hown
  generalize w.alloc (.cells #[.slice none 0 0] 24) = w1
  intro n1 s1 hb1 hown
  have o2 := heap_alloc_old w1 (.cells #[.string ⟨#[107, 101, 121]⟩, .int .i64 1, .bool false] 33) (r := w.heap.size) (by omega)
  rw [n1] at o2
  have s2 : (w1.alloc (.cells #[.string ⟨#[107, 101, 121]⟩, .int .i64 1, .bool false] 33)).heap.size = w.heap.size + 1 + 1 := by simp [s1]
  have hb2 := hb1.alloc (by omega) (.cells #[.string ⟨#[107, 101, 121]⟩, .int .i64 1, .bool false] 33)
  revert o2 s2 hb2 hown
  generalize w1.alloc (.cells #[.string ⟨#[107, 101, 121]⟩, .int .i64 1, .bool false] 33) = w2
  intro hown o2 s2 hb2
  have n3 := heap_alloc_new w2 (.cells #[.slice (some ⟨w.heap.size + 1, 0, none⟩) 1 1] 24)
  rw [s2] at n3
  have o3 := (heap_alloc_old w2 (.cells #[.slice (some ⟨w.heap.size + 1, 0, none⟩) 1 1] 24) (r := w.heap.size) (by omega)).trans o2
  have s3 : (w2.alloc (.cells #[.slice (some ⟨w.heap.size + 1, 0, none⟩) 1 1] 24)).heap.size = w.heap.size + 1 + 1 + 1 := by simp [s2]
  have hb3 := hb2.alloc (by omega) (.cells #[.slice (some ⟨w.heap.size + 1, 0, none⟩) 1 1] 24)
  have hown3 := hown.kept (World.grownBy_alloc w2 (.cells #[.slice (some ⟨w.heap.size + 1, 0, none⟩) 1 1] 24) none) (by first | exact .inr (by simp [Value.ownBlock]) | simp [Value.ownBlock])
  revert n3 o3 s3 hb3 hown3
  generalize w2.alloc (.cells #[.slice (some ⟨w.heap.size + 1, 0, none⟩) 1 1] 24) = w3
  intro n3 o3 s3 hb3 hown3
  have n4 := heap_alloc_new w3 (.cells #[.string ⟨#[97]⟩, .string ⟨#[98, 98]⟩, .string ⟨#[99, 99, 99]⟩, .string ⟨#[110, 117, 108, 108]⟩, .string ⟨#[97, 110, 100]⟩] 9)
  rw [s3] at n4
  refine ⟨(heap_alloc_old w3 _ (by omega)).trans o3, (heap_alloc_old w3 _ (by omega)).trans n3, n4, ?_, fun g hg => ?_, hb3.alloc (by omega) _⟩
  · exact hown3.kept (World.grownBy_alloc w3 _ none) (by first | exact .inr (by simp [Value.ownBlock]) | simp [Value.ownBlock])
  · have : w.heap.size + 1 = g := by simpa [Value.ownBlock] using hg
    omega

set_option maxRecDepth 100000 in
set_option maxHeartbeats 4000000 in
theorem schema_any (n : Int) (w : World) :
    Calls Try.prog 15 #[.int .i64 n] w fun e w' => ∃ ao cap l, e = .returned (.agg #[.slice ao (l.length + 1) cap]) ∧ l.length ≤ 5 ∧ Kinds l ∧
      w'.ownsRow w.heap.size 33 3 (.slice ao (l.length + 1) cap) (l.length + 1) (flatC (colsOf l)) ∧ Below w.heap.size w w' := by
  obtain ⟨i0, hi, hz0, hz1, hz2⟩ := info_parts infoCol
  obtain ⟨c, hc, hc1⟩ := and_some n 255 255 rfl (by decide)
  go_enter Try.func15, Try.ntmps15
  go_wp2_with fail
  have hW := sinv_start w
  go_loopw [5] (fun i wr => ∃ k : Nat, ∃ l ao cap, k ≤ 5 ∧ i = .int .i64 (k : Int) ∧ l.length = k ∧ Kinds l ∧ SInv w l (.slice ao (k + 1) cap) wr) (fun i _ => 5 - (intOf i).toNat)
  case atStart => exact ⟨0, [], _, _, by omega, rfl, rfl, (fun c h => by cases h), hW⟩
  case round =>
    obtain ⟨k, l, ao, cap, hk, rfl, hll, hkk, hinv⟩ := hrel
    obtain ⟨wo, rfl⟩ : ∃ wo : World, wo = wr := ⟨_, rfl⟩
    have HI := Lib.hid hinv
    have HL := Lib.hid hll
    have HK := Lib.hid hkk
    clear hinv hll hkk hW
    by_cases hlt : k < c % 6 ∧ k < 5
    · obtain ⟨hlt1, hlt2⟩ := hlt
      have hd1 : decide ((k : Int) < (c : Int) % 6) = true := by rw [decide_eq_true_eq]; omega
      have hd2 : decide ((k : Int) < 5) = true := by rw [decide_eq_true_eq]; omega
      have c3 : wo.cell? ⟨w.heap.size + 1 + 1, 0, none⟩ = some (.slice ao (k + 1) cap) := by rw [cell_of_row wo _ 0 _ _ _ HI.out.h3]; rfl
      have f3 : wo.frozen? ⟨w.heap.size + 1 + 1, 0, none⟩ = false := frozen_of_row wo _ 0 _ _ HI.out.h3
      have c4 : wo.cell? ⟨w.heap.size + 1 + 1 + 1, k, none⟩ = some (.string (nameOf k)) := by
        rw [cell_of_row wo _ k _ _ _ HI.out.h4]
        rcases (by omega : k = 0 ∨ k = 1 ∨ k = 2 ∨ k = 3 ∨ k = 4) with rfl | rfl | rfl | rfl | rfl <;> rfl
      have hb := and_one
      have hi5 : (k : Int) < 5 := by omega
      have e1 : IntKind.i64.wrap (2 * (k : Int)) = 2 * (k : Int) := IntWalk.i64_in _ (by omega)
      have e2 : IntKind.i64.wrap (8 + 2 * (k : Int)) = 8 + 2 * (k : Int) := IntWalk.i64_in _ (by omega)
      have e3 : IntKind.i64.wrap (9 + 2 * (k : Int)) = 9 + 2 * (k : Int) := IntWalk.i64_in _ (by omega)
      have e4 : ∀ x : Int, IntKind.i64.wrap (x % 2 + 1) = x % 2 + 1 := fun x => IntWalk.i64_in _ (by omega)
      have hsz := HI.out.bel.size
      have HO := Lib.hid (show wo.ownsRow w.heap.size 33 3 (.slice ao (k + 1) cap) (k + 1) (flatC (colsOf l)) by have := HI.out.own; rw [HL.out] at this; exact this)
      have hx3 := World.block_lt_of_cell? wo _ c3
      have HNE := Lib.hid (show (Value.slice ao (k + 1) cap).ownBlock ≠ some (w.heap.size + 1 + 1) from fun h => (HI.out.far _ h).2.1 rfl)
      go_wp2_with fail
      go_region_law
        ((refine step_append_lies _ (by rfl) _ _ _ (by rfl) w.heap.size 33 i0 _ 3 32 Try.underlying22 hi hz0 hz1 hz2 rfl (by omega) (.slice ao (k + 1) cap) (k + 1) (flatC (colsOf l)) (by rfl) ((HO.out.alloc _).drew)
            ⟨wo.heap.size, 0, none⟩ 1 1 [.string (nameOf k), .int .i64 (n / 2 ^ min (IntKind.u64.wrap (8 + 2 * (k : Int))).toNat 64 % 2 + 1), .bool (n / 2 ^ min (IntKind.u64.wrap (9 + 2 * (k : Int))).toNat 64 % 2 == 1)] (by rfl) (by rfl) (World.news_of_block (cs := #[.string (nameOf k), .int .i64 (n / 2 ^ min (IntKind.u64.wrap (8 + 2 * (k : Int))).toNat 64 % 2 + 1), .bool (n / 2 ^ min (IntKind.u64.wrap (9 + 2 * (k : Int))).toNat 64 % 2 == 1)]) (t := 33) (fr := (0, 0)) (heap_alloc_new wo _)) (by simp [Value.oneCell'])
            (by omega) (by unfold maxLen; omega) (by omega) (by simp; omega) (wo.heap.size + 1) (by simp) ?_; intro gg cap1 w1 hown1 hgrow hat hlt; have hf1 : w1.frozen? ⟨w.heap.size + 1 + 1, 0, none⟩ = false := (World.frozen?_of_block (a := ⟨w.heap.size + 1 + 1, 0, none⟩) (hgrow.block (w.heap.size + 1 + 1) (by simp; omega) (Ne.symm HNE.out))).trans ((frozen?_alloc_cells _ _ _ _).trans f3); have hcw : w1.cell? ⟨w.heap.size + 1 + 1, 0, none⟩ = some (.slice ao (k + 1) cap) := (hgrow.cell_far ⟨w.heap.size + 1 + 1, 0, none⟩ (by simp; omega) (Ne.symm HNE.out)).trans (Lib.cell?_alloc_some _ c3)))
      all_goals
        go_wp2
        go_roundw
        case rel => exact ⟨k + 1, l ++ [((n / 2 ^ min (IntKind.u64.wrap (8 + 2 * (k : Int))).toNat 64 % 2 + 1), (n / 2 ^ min (IntKind.u64.wrap (9 + 2 * (k : Int))).toNat 64 % 2 == 1))], _, _, by omega, by go_num, by rw [List.length_append, HL.out]; rfl, kinds_more HK.out _ _ (by omega), sinv_next HI.out HL.out hgrow hat hown1⟩
        case measure => simp [intOf]; omega
    · have h2 := HI.out.h2
      have h3 := HI.out.h3
      have c3 : wo.cell? ⟨w.heap.size + 1 + 1, 0, none⟩ = some (.slice ao (k + 1) cap) := by rw [cell_of_row wo _ 0 _ _ _ h3]; rfl
      have c2 : wo.cell? ⟨w.heap.size, 0, none⟩ = some (.slice none 0 0) := by rw [cell_of_row wo _ 0 _ _ _ h2]; rfl
      have f2 : wo.frozen? ⟨w.heap.size, 0, none⟩ = false := frozen_of_row wo _ 0 _ _ h2
      have HE := Lib.hid (heap_setCell_same wo w.heap.size 0 _ _ (.slice ao (k + 1) cap) h2)
      have HF := Lib.hid (show (Value.slice ao (k + 1) cap).ownBlock ≠ some w.heap.size from fun h => (HI.out.far _ h).1 rfl)
      have HO := Lib.hid (show wo.ownsRow w.heap.size 33 3 (.slice ao (l.length + 1) cap) (l.length + 1) (flatC (colsOf l)) by have := HI.out.own; rw [HL.out] at this ⊢; exact this)
      clear h2 h3
      have hg : (decide ((k : Int) < (c : Int) % 6) && decide ((k : Int) < 5)) = false := by
        rw [Bool.and_eq_false_iff, decide_eq_false_iff_not, decide_eq_false_iff_not]; omega
      go_wp2_with fail
      refine bodyPost_ret (results_cell_row rfl _ _ w.heap.size _ _ (0, 0) _ rfl HE.out Try.underlying24 rfl infoSchema) rfl ?_
      exact ⟨ao, cap, l, by rw [HL.out]; rfl, by rw [HL.out]; exact hk, HK.out, HO.out.kept (grown_setCell wo ⟨w.heap.size, 0, none⟩ (.slice ao (k + 1) cap)) (.inr (by rw [HL.out]; exact HF.out)), HI.out.bel.setCell (Nat.le_refl _) _⟩

end Go.Proofs.Ytlkjdclhgmkndaa
