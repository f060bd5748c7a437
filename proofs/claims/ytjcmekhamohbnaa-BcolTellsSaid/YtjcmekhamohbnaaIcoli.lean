/-
  Contracts of layer 4: least and greatest; a frame told, and read.
  Contract of layer 4: a frame read.
  Contracts of layer 4: Decode, At.
  Contracts of layer 4: slices.Clone, CompactFunc, BinarySearchFunc of numbers.
-/
import Derived.Test.YtjcmekhamohbnaaIcole
import Derived.Test.YtjcmekhamohbnaaPack
namespace Go.Proofs.Ytjcmekhamohbnaa
set_option linter.unusedVariables false
set_option linter.unusedSimpArgs false
open Go.RowKit

theorem foldl_take_int (f : Int → Int → Int) (l : List Int) (a : Int) (q : Nat) (h : q < l.length) : (l.take (q + 1)).foldl f a = f ((l.take q).foldl f a) (l.getD q 0) := by
  rw [take_succ_at h, List.foldl_append]
  rfl
def fillT {α β : Type} (f : α → β) (l : List α) (z : β) (c q : Nat) : List β := (l.take q).map f ++ List.replicate (c - q) z
theorem fillT_len {α β : Type} (f : α → β) {l : List α} (z : β) {c q : Nat} (hc : l.length = c) (hq : q ≤ c) : (fillT f l z c q).length = c := by
  unfold fillT
  rw [List.length_append, List.length_map, List.length_take, List.length_replicate]
  omega
theorem fillT_step {α β : Type} (f : α → β) {l : List α} (z : β) {c q : Nat} {x : α} (hc : l.length = c) (hq : q < c) (hp : l[q]? = some x) : fillT f l z c (q + 1) = (fillT f l z c q).set q (f x) := by
  unfold fillT
  rw [List.take_add_one, hp, List.set_append, List.length_map, List.length_take, if_neg (by omega), show q - min q l.length = 0 by omega, show c - q = (c - (q + 1)) + 1 by omega, List.replicate_succ, List.set_cons_zero]
  simp
theorem fillT_all {α β : Type} (f : α → β) {l : List α} (z : β) {c : Nat} (hc : l.length = c) : fillT f l z c c = l.map f := by
  unfold fillT
  rw [Nat.sub_self, List.replicate_zero, List.append_nil, List.take_of_length_le (by omega)]
theorem fillT_zero {α β : Type} (f : α → β) (l : List α) (z : β) (c : Nat) : fillT f l z c 0 = List.replicate c z := by
  unfold fillT
  simp
theorem usub (a b : Int) (h1 : I64 a) (h2 : I64 b) (h : b ≤ a) : IntKind.u64.wrap (IntKind.u64.wrap a - IntKind.u64.wrap b) = (((a - b).toNat : Nat) : Int) := by
  unfold I64 at h1 h2
  simp only [IntKind.wrap_u64]
  omega

end Go.Proofs.Ytjcmekhamohbnaa

namespace Go.Proofs.Ytjcmekhamohbnaa
set_option linter.unusedVariables false
set_option linter.unusedSimpArgs false
open Go.RowKit

theorem name_wb {A : Nat} {w0 w : World} (h : Below A w0 w) : ∃ V : World, V = w := ⟨w, rfl⟩

end Go.Proofs.Ytjcmekhamohbnaa

namespace Go.Proofs.Ytjcmekhamohbnaa
set_option linter.unusedVariables false
set_option linter.unusedSimpArgs false
open Go.RowKit

theorem store_four {a b c d x : Value} {T : TypeId} (w : World) (X : Nat) (j : Nat) (h : w.heap[X]? = some (.cells #[a, b, c, d] T (0, 0))) (hj : #[a, b, c, d][j]? = some x) (v : Value) (h1 : v.oneCell' = true) : (store ⟨X, j, none⟩ v).run Try.prog w = .ok () (w.setCell ⟨X, j, none⟩ v) := by
  rw [run_store Try.prog w ⟨X, j, none⟩ v _ h1, cell_of_row w X j _ _ _ h, hj]
  simp [frozen_of_row w X j _ _ h]
theorem below_row {B r : Nat} {w0 w w' : World} (hb : Below B w0 w) (hs : B ≤ w.heap.size) (hg : w.grownBy w' (some r)) (hr : B ≤ r) : Below B w0 w' := hb.grown hg hs (fun k e => by cases e; exact hr)

end Go.Proofs.Ytjcmekhamohbnaa

namespace Go.Proofs.Ytjcmekhamohbnaa
set_option linter.unusedVariables false
set_option linter.unusedSimpArgs false
open Go.RowKit

end Go.Proofs.Ytjcmekhamohbnaa
