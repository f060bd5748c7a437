/-
  What the document fixes of layer 1, walked.
-/
import Derived.Test.YteloepccjoikdaaUnpack
import Derived.Test.YteloepccjoikdaaWidth
import Derived.Test.YteloepccjoikdaaAt
import Derived.Test.YteloepccjoikdaaSame
namespace Go.Proofs.Yteloepccjoikdaa
set_option linter.unusedVariables false
open Go.RowKit

theorem lt256 (l : List Nat) (h : ∀ x ∈ l, x < 256) (i : Nat) : l.getD i 0 < 256 := by
  rw [List.getD_eq_getElem?_getD]
  by_cases hi : i < l.length
  · rw [List.getElem?_eq_getElem hi]; exact h _ (List.getElem_mem hi)
  · rw [List.getElem?_eq_none (by omega)]; decide

theorem lt64 (l : List Nat) (h : ∀ x ∈ l, x < 18446744073709551616) (i : Nat) : l.getD i 0 < 18446744073709551616 := by
  rw [List.getD_eq_getElem?_getD]
  by_cases hi : i < l.length
  · rw [List.getElem?_eq_getElem hi]; exact h _ (List.getElem_mem hi)
  · rw [List.getElem?_eq_none (by omega)]; decide

theorem pack_lit {n : Int} {v : Value} {us bs : List Nat} {w : World} (hr : Rd w v (us.map u64v)) (h64 : ∀ x ∈ us, x < 18446744073709551616) (hl : us.length ≤ 17592186044416) (hb : packB (heldN n) us = bs) :
    Calls Try.prog 111 #[.int .i64 n, v] w (RetOwn w.heap.size 5 (bs.map u8v) w) := by
  have hr' := hr
  obtain ⟨ao, cap, rfl, _⟩ := hr
  rw [List.length_map] at hr' ⊢
  rw [← hb]
  exact pack_any n ao us.length cap us w hr' (lt64 us h64) hl

theorem unpack_lit {n c : Int} {v : Value} {us bs : List Nat} {w : World} (hr : Rd w v (bs.map u8v)) (h256 : ∀ x ∈ bs, x < 256) (hl : bs.length ≤ 17592186044416) (h0 : 0 ≤ c) (hb : unpackB bs n c = some us) :
    Calls Try.prog 123 #[v, .int .i64 n, .int .i64 c] w (RetOwn2 w.heap.size 154 (us.map u64v) true w) := by
  have hr' := hr
  obtain ⟨ao, cap, rfl, _⟩ := hr
  obtain ⟨C, rfl⟩ := Int.eq_ofNat_of_zero_le h0
  rw [List.length_map] at hr' ⊢
  exact unpack_yes n C ao bs.length cap bs us w hr' (lt256 bs h256) hl hb

theorem unpack_lit_no {n c : Int} {v : Value} {bs : List Nat} {w : World} (hr : Rd w v (bs.map u8v)) (h256 : ∀ x ∈ bs, x < 256) (hl : bs.length ≤ 17592186044416) (hb : unpackB bs n c = none) :
    Calls Try.prog 123 #[v, .int .i64 n, .int .i64 c] w fun e w' => e = .returned (.tuple #[.slice none 0 0, .bool false]) ∧ Below w.heap.size w w' := by
  have hr' := hr
  obtain ⟨ao, cap, rfl, _⟩ := hr
  rw [List.length_map] at hr' ⊢
  exact (unpack_no n c ao bs.length cap bs w hr' (lt256 bs h256) hl hb).mono fun e w' ⟨he, k, hk⟩ => ⟨he, by rw [hk]; exact below_drew _ _ k⟩

theorem width_lit {u : Int} {U n : Nat} {w : World} (hu : u = (U : Int)) (h : U < 18446744073709551616) (hb : Lib.bitLen U = n) :
    Calls Try.prog 109 #[.int .u64 u] w fun e w' => e = .returned (.int .i64 (n : Nat)) ∧ w = w' := by
  rw [hu, ← hb]
  exact width_any U w h

end Go.Proofs.Yteloepccjoikdaa
