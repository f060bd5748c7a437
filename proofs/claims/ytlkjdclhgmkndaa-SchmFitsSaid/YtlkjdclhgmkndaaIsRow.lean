/-
  Slices that came in, as the frames tell of them, read as lists.
-/
import Derived.Test.YtlkjdclhgmkndaaWorld
namespace Go.Proofs.Ytlkjdclhgmkndaa
set_option linter.unusedVariables false
open Go.RowKit

/-- What a walk is told of a slice of integers that came in: it is nil; or it leads to cap cells, the numbers zs, each fitting its kind. -/
def IsRow (k : IntKind) (w : World) (a : Option Addr) (len cap : Nat) (zs : List Int) : Prop :=
  (a = none ∧ len = 0 ∧ cap = 0 ∧ zs = []) ∨
  ∃ x, a = some x ∧ len ≤ cap ∧ cap ≤ maxLen ∧ zs.length = cap ∧ (∀ i, i < zs.length → w.cell? (x.add i) = some (.int k (zs.getD i 0))) ∧ ∀ n ∈ zs, (Lit.int k n).wf = true

theorem isRow_rd {k : IntKind} {w : World} {a : Option Addr} {len cap : Nat} {zs : List Int} (h : IsRow k w a len cap zs) :
    ∃ xs : List Int, xs.length = len ∧ Rd w (.slice a len cap) (xs.map (Value.int k)) ∧ ∀ n ∈ xs, (Lit.int k n).wf = true := by
  rcases h with ⟨rfl, rfl, rfl, rfl⟩ | ⟨x, rfl, hl, hm, hz, hc, hw⟩
  · exact ⟨[], rfl, Rd.nil _, fun n hn => by cases hn⟩
  · refine ⟨zs.take len, by rw [List.length_take]; omega, ?_, fun n hn => hw n (List.mem_of_mem_take hn)⟩
    have hl2 : ((zs.take len).map (Value.int k)).length = len := by rw [List.length_map, List.length_take]; omega
    refine ⟨some x, cap, by rw [hl2], ⟨(fun h => by cases h), by rw [hl2]; exact hl⟩, fun hp => ?_⟩
    rw [hl2] at hp ⊢
    obtain ⟨b, off, spot⟩ := x
    have h0 := hc 0 (by omega)
    have hspot : spot = none := by simpa [Addr.add] using World.cell?_spot h0
    subst hspot
    refine ⟨b, off, rfl, fun i hi => ?_⟩
    have h1 := hc i (by omega)
    have e : (⟨b, off, none⟩ : Addr).add i = ⟨b, off + i, none⟩ := by simp [Addr.add]
    rw [e] at h1
    rw [h1]
    simp only [List.getD_eq_getElem?_getD, List.getElem?_map, List.getElem?_take, if_pos hi, List.getElem?_eq_getElem (show i < zs.length by omega)]
    rfl

theorem rd_own_map {α : Type} {f : α → Value} {w : World} {B : Nat} {E : TypeId} {ao : Option Addr} {cap : Nat} {xs : List α} (h : w.ownsRow B E 1 (.slice ao (xs.map f).length cap) (xs.map f).length (xs.map f)) :
    Rd w (.slice ao xs.length cap) (xs.map f) := by
  have := Rd.of_owns h
  rwa [List.length_map] at this

theorem wf_u64 {n : Int} (h : (Lit.int .u64 n).wf = true) : 0 ≤ n ∧ n < 18446744073709551616 := by
  have h1 : IntKind.u64.min = 0 := rfl
  have h2 : IntKind.u64.max = 18446744073709551615 := rfl
  simp only [Lit.wf, Bool.and_eq_true, decide_eq_true_eq] at h
  omega

theorem wf_u8 {n : Int} (h : (Lit.int .u8 n).wf = true) : 0 ≤ n ∧ n < 256 := by
  have h1 : IntKind.u8.min = 0 := rfl
  have h2 : IntKind.u8.max = 255 := rfl
  simp only [Lit.wf, Bool.and_eq_true, decide_eq_true_eq] at h
  omega

theorem wf_i64 {n : Int} (h : (Lit.int .i64 n).wf = true) : -9223372036854775808 ≤ n ∧ n ≤ 9223372036854775807 := by
  have h1 : IntKind.i64.min = -9223372036854775808 := rfl
  have h2 : IntKind.i64.max = 9223372036854775807 := rfl
  simp only [Lit.wf, Bool.and_eq_true, decide_eq_true_eq] at h
  omega

theorem isRow_u64 {w : World} {a : Option Addr} {len cap : Nat} {zs : List Int} (h : IsRow .u64 w a len cap zs) :
    ∃ us : List Nat, us.length = len ∧ Rd w (.slice a len cap) (us.map u64v) ∧ ∀ x ∈ us, x < 18446744073709551616 := by
  obtain ⟨xs, hl, hr, hw⟩ := isRow_rd h
  refine ⟨xs.map Int.toNat, by simpa using hl, ?_, ?_⟩
  · have e : (xs.map Int.toNat).map u64v = xs.map (Value.int .u64) := by
      rw [List.map_map]
      refine List.map_congr_left fun n hn => ?_
      have := wf_u64 (hw n hn)
      show Value.int .u64 ((n.toNat : Nat) : Int) = _
      rw [show ((n.toNat : Nat) : Int) = n from by omega]
    rw [e]; exact hr
  · intro x hx
    obtain ⟨n, hn, rfl⟩ := List.mem_map.1 hx
    have := wf_u64 (hw n hn)
    omega

theorem isRow_u8 {w : World} {a : Option Addr} {len cap : Nat} {zs : List Int} (h : IsRow .u8 w a len cap zs) :
    ∃ bs : List Nat, bs.length = len ∧ Rd w (.slice a len cap) (bs.map u8v) ∧ ∀ x ∈ bs, x < 256 := by
  obtain ⟨xs, hl, hr, hw⟩ := isRow_rd h
  refine ⟨xs.map Int.toNat, by simpa using hl, ?_, ?_⟩
  · have e : (xs.map Int.toNat).map u8v = xs.map (Value.int .u8) := by
      rw [List.map_map]
      refine List.map_congr_left fun n hn => ?_
      have := wf_u8 (hw n hn)
      show Value.int .u8 ((n.toNat : Nat) : Int) = _
      rw [show ((n.toNat : Nat) : Int) = n from by omega]
    rw [e]; exact hr
  · intro x hx
    obtain ⟨n, hn, rfl⟩ := List.mem_map.1 hx
    have := wf_u8 (hw n hn)
    omega

end Go.Proofs.Ytlkjdclhgmkndaa
