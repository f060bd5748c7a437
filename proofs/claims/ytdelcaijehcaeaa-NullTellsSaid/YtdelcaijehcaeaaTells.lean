/-
  What the law of bytes in few bits asks of each row of bytes.
-/
import Derived.Test.YtdelcaijehcaeaaRefd
import Derived.Test.YtdelcaijehcaeaaAwakc
import Derived.Test.YtdelcaijehcaeaaAppend
import Derived.Deep.RegionLaw
namespace Go.Proofs.Ytdelcaijehcaeaa
set_option linter.unusedVariables false
open Go.RowKit

/-- v reads as bytes. -/
def BytesAt (w : World) (v : Value) : Prop := ∃ bs : List Nat, Rd w v (bs.map u8v) ∧ (∀ x ∈ bs, x < 256) ∧ bs.length ≤ 17592186044416

theorem BytesAt.kept {w w' : World} {v : Value} (h : BytesAt w v) (hb : Below w.heap.size w w') : BytesAt w' v := by
  obtain ⟨bs, h1, h2⟩ := h
  exact ⟨bs, h1.kept hb, h2⟩

theorem unpack_both (v : Value) (bs : List Nat) (n c : Int) (w : World) (hr : Rd w v (bs.map u8v))
    (h256 : ∀ x ∈ bs, x < 256) (hlen : bs.length ≤ 17592186044416) :
    Calls Try.prog 19 #[v, .int .i64 n, .int .i64 c] w fun e w' => ∃ z, e = .returned (.tuple #[z, .bool (unpackB bs n c).isSome]) ∧ Rd w' z (((unpackB bs n c).getD []).map u64v) ∧ Below w.heap.size w w' := by
  rcases hu : unpackB bs n c with _ | us
  · exact (unpack_lit_no hr h256 hlen hu).mono fun e w' ⟨he, hb⟩ => ⟨_, he, Rd.nil _, hb⟩
  · have h0 : 0 ≤ c := by
      unfold unpackB at hu
      split at hu
      · next h => exact h.1
      · cases hu
    refine (unpack_lit hr h256 hlen h0 hu).mono ?_
    rintro e w' ⟨ao, cap, he, hown, hb⟩
    exact ⟨_, he, Rd.of_owns hown, hb⟩

theorem unpackB_len {bs : List Nat} {n c : Int} : ((unpackB bs n c).getD []).length ≤ 65535 := by
  unfold unpackB
  split
  · next h => simp; omega
  · simp

theorem and16t (a : Int) : 0 ≤ bits .and .i64 a 65535 ∧ bits .and .i64 a 65535 ≤ 65535 := by
  have h : bits .and .i64 a 65535 = IntKind.i64.wrap ((BitVec.ofInt 64 a &&& BitVec.ofInt 64 65535).toNat : Int) := rfl
  have h1 : (BitVec.ofInt 64 a &&& BitVec.ofInt 64 65535).toNat ≤ 65535 := by
    rw [BitVec.toNat_and]
    exact Nat.le_trans Nat.and_le_right (by decide)
  rw [h, IntWalk.i64_in _ (by omega)]
  omega

/-- A place in a row, out of any number. -/
theorem place_some (a : Int) (N : Nat) (h : 0 < N) : ∃ c d : Nat, bits .and .i64 a 65535 = (c : Int) ∧ (c : Int).tmod (N : Int) = (d : Int) ∧ d < N ∧ c ≤ 65535 := by
  obtain ⟨i1, i2⟩ := and16t a
  have hd : (bits .and .i64 a 65535).toNat % N < N := Nat.mod_lt _ h
  refine ⟨(bits .and .i64 a 65535).toNat, (bits .and .i64 a 65535).toNat % N, by omega, ?_, hd, by omega⟩
  rw [Int.tmod_eq_emod_of_nonneg (by omega)]
  omega

theorem own_base2 {w : World} {B : Nat} {E : TypeId} {size n : Nat} {v : Value} {xs : List Value} (h : w.ownsRow B E size v n xs) : ∀ k, v.ownBlock = some k → B ≤ k := by
  intro k hk
  rcases h.2 with ⟨h, _⟩ | ⟨g', cap', cur, h, hbg, _⟩
  · rw [h] at hk; cases hk
  · rw [h] at hk; cases hk; exact hbg

/-- Each of the rows that stand in a row of rows reads as bytes. -/
def RowsAt (w : World) (g n : Nat) : Prop := ∀ j, j < n → ∃ v, w.cell? ⟨g, j, none⟩ = some v ∧ BytesAt w v

theorem RowsAt.kept {w w' : World} {g n : Nat} (h : RowsAt w g n) (hb : Below w.heap.size w w') : RowsAt w' g n := by
  intro j hj
  obtain ⟨v, hc, hv⟩ := h j hj
  exact ⟨v, (hb.cell (p := ⟨g, j, none⟩) (World.block_lt_of_cell? _ _ hc)).trans hc, hv.kept hb⟩

/-- Each of a row of three whole numbers is there. -/
theorem three_ints (w : World) (x y z : Int) (E : TypeId) : ∀ j, j < 3 → ∃ c : Int, (w.alloc (.cells #[.int .i64 x, .int .i64 y, .int .i64 z] E)).cell? ⟨w.heap.size, j, none⟩ = some (.int .i64 c) := by
  intro j hj
  have h := rd_lit w #[.int .i64 x, .int .i64 y, .int .i64 z] E 3 [.int .i64 x, .int .i64 y, .int .i64 z] rfl rfl (by decide)
  obtain ⟨ao, cap, hv, _, hc⟩ := h
  obtain ⟨b, off, ha, hcell⟩ := hc (by simp)
  simp only [Value.slice.injEq] at hv
  obtain ⟨rfl, _⟩ := hv
  cases ha
  have := hcell j (by simpa using hj)
  rw [Nat.zero_add] at this
  have h3 : j = 0 ∨ j = 1 ∨ j = 2 := by omega
  rcases h3 with rfl | rfl | rfl
  · exact ⟨x, this⟩
  · exact ⟨y, this⟩
  · exact ⟨z, this⟩

theorem five_rows (w : World) (v0 v1 v2 v3 v4 : Value) (E : TypeId) (h0 : BytesAt w v0) (h1 : BytesAt w v1) (h2 : BytesAt w v2) (h3 : BytesAt w v3) (h4 : BytesAt w v4) :
    RowsAt (w.alloc (.cells #[v0, v1, v2, v3, v4] E)) w.heap.size 5 := by
  intro j hj
  have h := rd_lit w #[v0, v1, v2, v3, v4] E 5 [v0, v1, v2, v3, v4] rfl rfl (by decide)
  obtain ⟨ao, cap, hv, _, hc⟩ := h
  obtain ⟨b, off, ha, hcell⟩ := hc (by simp)
  simp only [Value.slice.injEq] at hv
  obtain ⟨rfl, _⟩ := hv
  cases ha
  have := hcell j (by simpa using hj)
  rw [Nat.zero_add] at this
  have hb := below_alloc w (.cells #[v0, v1, v2, v3, v4] E)
  have h5 : j = 0 ∨ j = 1 ∨ j = 2 ∨ j = 3 ∨ j = 4 := by omega
  rcases h5 with rfl | rfl | rfl | rfl | rfl
  · exact ⟨v0, this, h0.kept hb⟩
  · exact ⟨v1, this, h1.kept hb⟩
  · exact ⟨v2, this, h2.kept hb⟩
  · exact ⟨v3, this, h3.kept hb⟩
  · exact ⟨v4, this, h4.kept hb⟩

end Go.Proofs.Ytdelcaijehcaeaa
