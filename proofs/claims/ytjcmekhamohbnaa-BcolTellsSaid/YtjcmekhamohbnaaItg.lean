/-
  Layer 4: At of any bytes and any place; the reference's SameInts of any two rows.
  Layer 4: what the law asks of each kind, and of each row of bytes.
  The walk of IcolTells.
-/
import Derived.Test.YtjcmekhamohbnaaIcolu
import Derived.Test.YtjcmekhamohbnaaGtij
import Derived.Test.YtjcmekhamohbnaaTxej
import Derived.Test.YtjcmekhamohbnaaRefab
import Derived.Test.YtjcmekhamohbnaaAwkF
namespace Go.Proofs.Ytjcmekhamohbnaa
set_option linter.unusedVariables false
set_option linter.unusedSimpArgs false
open Go.RowKit

end Go.Proofs.Ytjcmekhamohbnaa

namespace Go.Proofs.Ytjcmekhamohbnaa
set_option linter.unusedVariables false
set_option linter.unusedSimpArgs false
open Go.RowKit

def BytesS (w : World) (v : Value) : Prop := ∃ bs : List Nat, Rd w v (bs.map u8v) ∧ (∀ x ∈ bs, x < 256) ∧ bs.length ≤ 100000
theorem BytesS.kept {w w' : World} {v : Value} (h : BytesS w v) (hb : Below w.heap.size w w') : BytesS w' v := by
  obtain ⟨bs, h1, h2⟩ := h
  exact ⟨bs, h1.kept hb, h2⟩
def RowsS (w : World) (g n : Nat) : Prop := ∀ j, j < n → ∃ v, w.cell? ⟨g, j, none⟩ = some v ∧ BytesS w v

theorem RowsS.kept {w w' : World} {g n : Nat} (h : RowsS w g n) (hb : Below w.heap.size w w') : RowsS w' g n := by
  intro j hj
  obtain ⟨v, hc, hv⟩ := h j hj
  exact ⟨v, (hb.cell (p := ⟨g, j, none⟩) (World.block_lt_of_cell? _ _ hc)).trans hc, hv.kept hb⟩

theorem five_rowsS (w : World) (v0 v1 v2 v3 v4 : Value) (E : TypeId) (h0 : BytesS w v0) (h1 : BytesS w v1) (h2 : BytesS w v2) (h3 : BytesS w v3) (h4 : BytesS w v4) :
    RowsS (w.alloc (.cells #[v0, v1, v2, v3, v4] E)) w.heap.size 5 := by
  intro j hj
  have h := rd_lit w #[v0, v1, v2, v3, v4] E 5 [v0, v1, v2, v3, v4] rfl rfl (by decide)
  obtain ⟨ao, cap, hv, _, hc⟩ := h
  obtain ⟨b, off, ha, hcell⟩ := hc (by simp)
  simp only [Value.slice.injEq] at hv
  obtain ⟨rfl, _⟩ := hv
  cases ha
  have := hcell j (by simpa using hj)
  rw [Nat.zero_add] at this
  have hb := below_alloc w (.cells #[v0, v1, v2, v3, v4] E)
  have h5 : j = 0 ∨ j = 1 ∨ j = 2 ∨ j = 3 ∨ j = 4 := by omega
  rcases h5 with rfl | rfl | rfl | rfl | rfl
  · exact ⟨v0, this, h0.kept hb⟩
  · exact ⟨v1, this, h1.kept hb⟩
  · exact ⟨v2, this, h2.kept hb⟩
  · exact ⟨v3, this, h3.kept hb⟩
  · exact ⟨v4, this, h4.kept hb⟩

theorem five_ints (w : World) (x y z u v : Int) (E : TypeId) : ∀ j, j < 5 → ∃ c : Int, (w.alloc (.cells #[.int .i64 x, .int .i64 y, .int .i64 z, .int .i64 u, .int .i64 v] E)).cell? ⟨w.heap.size, j, none⟩ = some (.int .i64 c) := by
  intro j hj
  have h := rd_lit w #[.int .i64 x, .int .i64 y, .int .i64 z, .int .i64 u, .int .i64 v] E 5 [.int .i64 x, .int .i64 y, .int .i64 z, .int .i64 u, .int .i64 v] rfl rfl (by decide)
  obtain ⟨ao, cap, hv, _, hc⟩ := h
  obtain ⟨b, off, ha, hcell⟩ := hc (by simp)
  simp only [Value.slice.injEq] at hv
  obtain ⟨rfl, _⟩ := hv
  cases ha
  have := hcell j (by simpa using hj)
  rw [Nat.zero_add] at this
  have h5 : j = 0 ∨ j = 1 ∨ j = 2 ∨ j = 3 ∨ j = 4 := by omega
  rcases h5 with rfl | rfl | rfl | rfl | rfl
  · exact ⟨x, this⟩
  · exact ⟨y, this⟩
  · exact ⟨z, this⟩
  · exact ⟨u, this⟩
  · exact ⟨v, this⟩
def RetR {α : Type} (f : α → Value) (o : Option (List α)) (n : Nat) (w : World) (e : Ending) (w' : World) : Prop :=
  ∃ ao cap, e = .returned (.tuple #[.slice ao n cap, .bool o.isSome]) ∧ Rd w' (.slice ao n cap) ((o.getD []).map f) ∧ Below w.heap.size w w'
theorem tell_r {o : Option (List Nat)} {w w' : World} {e : Ending} {base : Nat} (h : RetTell base o e w' ∧ Below w.heap.size w w') : RetR u8v o (o.getD []).length w e w' := by
  obtain ⟨h, hb⟩ := h
  cases o with
  | none => exact ⟨none, 0, h, Rd.nil _, hb⟩
  | some bs =>
    obtain ⟨v, rfl, hown⟩ := h
    obtain ⟨ao, cap, rfl⟩ := hown.shape
    exact ⟨ao, cap, rfl, OwnB.rd hown, hb⟩
def RetV (bs : List Nat) (n : Nat) (w : World) (e : Ending) (w' : World) : Prop := ∃ ao cap, e = .returned (.slice ao n cap) ∧ Rd w' (.slice ao n cap) (bs.map u8v) ∧ Below w.heap.size w w'
theorem enc_v {bs : List Nat} {w w' : World} {e : Ending} {base : Nat} (h : ∃ v, e = .returned v ∧ OwnB base w' v bs ∧ Below w.heap.size w w') : RetV bs bs.length w e w' := by
  obtain ⟨v, rfl, hown, hb⟩ := h
  obtain ⟨ao, cap, rfl⟩ := hown.shape
  exact ⟨ao, cap, rfl, OwnB.rd hown, hb⟩

end Go.Proofs.Ytjcmekhamohbnaa

namespace Go.Proofs.Ytjcmekhamohbnaa
set_option linter.unusedVariables false
set_option linter.unusedSimpArgs false
open Go.RowKit

end Go.Proofs.Ytjcmekhamohbnaa
