/-
  Slices of things of some cells each, as they read; values, rows of them, schemas.
-/
import Derived.Test.YtlkjdclhgmkndaaSchema
namespace Go.Proofs.Ytlkjdclhgmkndaa
set_option linter.unusedVariables false
open Go.RowKit

/-- v is a slice that reads as these things, of sz cells each. -/
def RdS (w : World) (sz : Nat) (v : Value) (ls : List (List Value)) : Prop :=
  ∃ ao cap, v = .slice ao ls.length cap ∧ ((ao = none → cap = 0) ∧ ls.length ≤ cap) ∧
    ∀ k t, ls[k]? = some t → ∃ b off, ao = some ⟨b, off, none⟩ ∧ ∀ j u, t[j]? = some u → w.cell? ⟨b, off + k * sz + j, none⟩ = some u

theorem RdS.kept {w w' : World} {sz : Nat} {v : Value} {ls : List (List Value)} (h : RdS w sz v ls) (hb : Below w.heap.size w w') : RdS w' sz v ls := by
  obtain ⟨ao, cap, hv, hn, hc⟩ := h
  refine ⟨ao, cap, hv, hn, fun k t ht => ?_⟩
  obtain ⟨b, off, ha, hcell⟩ := hc k t ht
  refine ⟨b, off, ha, fun j u hu => ?_⟩
  have h1 := hcell j u hu
  exact (hb.cell (p := ⟨b, off + k * sz + j, none⟩) (World.block_lt_of_cell? _ _ h1)).trans h1

theorem flatten_at : ∀ (ls : List (List Value)) (sz : Nat), (∀ t ∈ ls, t.length = sz) → ∀ k t j u, ls[k]? = some t → t[j]? = some u → ls.flatten[k * sz + j]? = some u
  | [], _, _, k, t, j, u, hk, _ => by simp at hk
  | x :: r, sz, hl, 0, t, j, u, hk, hj => by
    simp only [List.getElem?_cons_zero, Option.some.injEq] at hk
    subst hk
    rw [List.flatten_cons, Nat.zero_mul, Nat.zero_add, List.getElem?_append_left (List.getElem?_eq_some_iff.1 hj).1]
    exact hj
  | x :: r, sz, hl, k + 1, t, j, u, hk, hj => by
    rw [List.getElem?_cons_succ] at hk
    have hx := hl x List.mem_cons_self
    rw [List.flatten_cons, List.getElem?_append_right (by rw [hx, Nat.add_mul]; omega), hx, show (k + 1) * sz + j - sz = k * sz + j by rw [Nat.add_mul]; omega]
    exact flatten_at r sz (fun t ht => hl t (List.mem_cons_of_mem _ ht)) k t j u hk hj

theorem flatten_len (ls : List (List Value)) (sz : Nat) (h : ∀ t ∈ ls, t.length = sz) : ls.flatten.length = ls.length * sz := by
  induction ls with
  | nil => simp
  | cons x r ih => rw [List.flatten_cons, List.length_append, ih (fun t ht => h t (List.mem_cons_of_mem _ ht)), h x List.mem_cons_self, List.length_cons, Nat.add_mul]; omega

theorem rdS_own {w : World} {B : Nat} {E : TypeId} {sz : Nat} {v : Value} {n : Nat} {ls : List (List Value)} (h : w.ownsRow B E sz v n ls.flatten) (hn : n = ls.length) (hl : ∀ t ∈ ls, t.length = sz) : RdS w sz v ls := by
  subst hn
  have h0 := h
  rcases h.2 with ⟨rfl, h1⟩ | ⟨g, cap, cur, rfl, hbg, hh, r⟩
  · have : ls = [] := List.length_eq_zero_iff.1 h1
    subst this
    exact ⟨none, 0, rfl, ⟨fun _ => rfl, by simp⟩, fun k t hk => by simp at hk⟩
  · refine ⟨some ⟨g, 0, none⟩, cap, rfl, ⟨(fun h => by cases h), r.1⟩, fun k t hk => ⟨g, 0, rfl, fun j u hu => ?_⟩⟩
    have hkl := (List.getElem?_eq_some_iff.1 hk).1
    have hjl := (List.getElem?_eq_some_iff.1 hu).1
    have htl := hl t (List.mem_of_getElem? hk)
    have hlt : k * sz + j < ls.length * sz := by
      have : (k + 1) * sz ≤ ls.length * sz := Nat.mul_le_mul_right _ hkl
      rw [Nat.add_mul] at this
      omega
    rw [Nat.zero_add, h0.cellAt (k * sz + j) hlt]
    exact flatten_at ls sz hl k t j u hk hu

theorem rdS_shape {w : World} {sz : Nat} {v : Value} {ls : List (List Value)} (h : RdS w sz v ls) : ∃ ao cap, v = .slice ao ls.length cap := by
  obtain ⟨ao, cap, hv, _⟩ := h
  exact ⟨ao, cap, hv⟩

/-- The cells of the k-th thing. -/
theorem RdS.at {w : World} {sz : Nat} {ao : Option Addr} {len cap : Nat} {ls : List (List Value)} (h : RdS w sz (.slice ao len cap) ls) {k : Nat} {t : List Value} (hk : ls[k]? = some t) :
    ∃ b off, ao = some ⟨b, off, none⟩ ∧ ∀ j u, t[j]? = some u → w.cell? ⟨b, off + k * sz + j, none⟩ = some u := by
  obtain ⟨ao', cap', hv, _, hc⟩ := h
  simp only [Value.slice.injEq] at hv
  rw [hv.1]
  exact hc k t hk

theorem RdS.nil (w : World) (sz : Nat) : RdS w sz (.slice none 0 0) [] := ⟨none, 0, rfl, ⟨fun _ => rfl, by simp⟩, fun k t h => by simp at h⟩

/-! Columns. -/
theorem flatC_eq (l : List Co) : flatC l = (l.map Co.cells).flatten := by
  induction l with
  | nil => rfl
  | cons t r ih => rw [flatC, ih]; rfl
/-- v is a slice that reads as these columns. -/
def RdC (w : World) (v : Value) (l : List Co) : Prop := RdS w 3 v (l.map Co.cells)
theorem rdC_own {w : World} {B : Nat} {v : Value} {n : Nat} {l : List Co} {E : TypeId} (h : w.ownsRow B E 3 v n (flatC l)) (hn : n = l.length) : RdC w v l := by
  rw [flatC_eq] at h
  refine rdS_own h (by simpa using hn) fun t ht => ?_
  obtain ⟨c, _, rfl⟩ := List.mem_map.1 ht
  rfl
def Co.agg (c : Co) : Value := .agg #[.string c.n, .int .i64 c.k, .bool c.u]

/-! Values. -/
/-- What a value is. -/
structure Vc where
  u : Bool
  k : Int
  n : Int
  b : List Nat
/-- The cells of a value whose bytes lie in that slice. -/
def cellsV (p : Vc × Value) : List Value := [.bool p.1.u, .int .i64 p.1.k, .int .i64 p.1.n, p.2]
def aggV (p : Vc × Value) : Value := .agg #[.bool p.1.u, .int .i64 p.1.k, .int .i64 p.1.n, p.2]
/-- They do lie there. -/
def OkV (w : World) (p : Vc × Value) : Prop := Rd w p.2 (p.1.b.map u8v) ∧ ∀ x ∈ p.1.b, x < 256
theorem OkV.kept {w w' : World} {p : Vc × Value} (h : OkV w p) (hb : Below w.heap.size w w') : OkV w' p := ⟨h.1.kept hb, h.2⟩
/-- v is a slice that reads as these values. -/
def RdP (w : World) (v : Value) (l : List (Vc × Value)) : Prop := RdS w 4 v (l.map cellsV) ∧ ∀ t ∈ l, OkV w t
theorem RdP.kept {w w' : World} {v : Value} {l : List (Vc × Value)} (h : RdP w v l) (hb : Below w.heap.size w w') : RdP w' v l := ⟨h.1.kept hb, fun t ht => (h.2 t ht).kept hb⟩
/-- .. wherever their bytes lie. -/
def RdRow (w : World) (v : Value) (cs : List Vc) : Prop := ∃ l : List (Vc × Value), l.map Prod.fst = cs ∧ RdP w v l
theorem RdRow.kept {w w' : World} {v : Value} {cs : List Vc} (h : RdRow w v cs) (hb : Below w.heap.size w w') : RdRow w' v cs := by
  obtain ⟨l, h1, h2⟩ := h
  exact ⟨l, h1, h2.kept hb⟩
theorem rdRow_shape {w : World} {v : Value} {cs : List Vc} (h : RdRow w v cs) : ∃ ao cap, v = .slice ao cs.length cap := by
  obtain ⟨l, rfl, h2, _⟩ := h
  obtain ⟨ao, cap, hv⟩ := rdS_shape h2
  exact ⟨ao, cap, by simpa using hv⟩
theorem rdP_own {w : World} {B : Nat} {E : TypeId} {v : Value} {n : Nat} {l : List (Vc × Value)} (h : w.ownsRow B E 4 v n (l.map cellsV).flatten) (hn : n = l.length) (hk : ∀ t ∈ l, OkV w t) : RdP w v l := by
  refine ⟨rdS_own h (by simpa using hn) fun t ht => ?_, hk⟩
  obtain ⟨c, _, rfl⟩ := List.mem_map.1 ht
  rfl

theorem infoVal : (Try.prog.info? 31).map (fun i => (i.zero, i.size, i.bytes)) = some (some (.agg #[.bool false, .int .i64 0, .int .i64 0, .slice none 0 0]), 4, 48) := by kernel_rfl

/-- Lower bits. -/
theorem and_low (x : Int) (j : Nat) (hj : j ≤ 20) (m : Int) (hm : m = 2 ^ j - 1) : bits .and .i64 x m = x % 2 ^ j := by
  subst hm
  have hp : (2 ^ j : Int) = ((2 ^ j : Nat) : Int) := by simp
  have hpos : 0 < 2 ^ j := Nat.two_pow_pos j
  have hle : 2 ^ j ≤ 2 ^ 20 := Nat.pow_le_pow_right (by decide) hj
  have h : bits .and .i64 x (2 ^ j - 1) = IntKind.i64.wrap ((BitVec.ofInt 64 x &&& BitVec.ofInt 64 (2 ^ j - 1)).toNat : Int) := rfl
  have e1 : (BitVec.ofInt 64 ((2 : Int) ^ j - 1)).toNat = 2 ^ j - 1 := by
    rw [hp, show (((2 ^ j : Nat) : Int) - 1) = ((2 ^ j - 1 : Nat) : Int) by omega, BitVec.ofInt_natCast, BitVec.toNat_ofNat]
    exact Nat.mod_eq_of_lt (by omega)
  have h1 : (BitVec.ofInt 64 x &&& BitVec.ofInt 64 (2 ^ j - 1)).toNat = (x % 2 ^ j).toNat := by
    rw [BitVec.toNat_and, e1, Nat.and_two_pow_sub_one_eq_mod, BitVec.toNat_ofInt]
    have hd : ((2 ^ j : Nat) : Int) ∣ ((2 ^ 64 : Nat) : Int) := Int.natCast_dvd_natCast.2 (Nat.pow_dvd_pow 2 (by omega))
    have h64 : 0 ≤ x % ((2 ^ 64 : Nat) : Int) := Int.emod_nonneg _ (by decide)
    have hm2 : (x % ((2 ^ 64 : Nat) : Int)) % ((2 ^ j : Nat) : Int) = x % ((2 ^ j : Nat) : Int) := Int.emod_emod_of_dvd x hd
    have : (((x % ((2 ^ 64 : Nat) : Int)).toNat % 2 ^ j : Nat) : Int) = x % ((2 ^ j : Nat) : Int) := by
      rw [Int.natCast_emod, Int.toNat_of_nonneg h64]
      exact hm2
    rw [hp, ← this]
    rfl
  rw [h, h1]
  have h0 : 0 ≤ x % (2 : Int) ^ j := Int.emod_nonneg _ (by rw [hp]; omega)
  have h2 : x % (2 : Int) ^ j < (2 : Int) ^ j := Int.emod_lt_of_pos _ (by rw [hp]; omega)
  rw [Int.toNat_of_nonneg h0]
  exact IntWalk.i64_in _ (by rw [hp] at *; omega)

end Go.Proofs.Ytlkjdclhgmkndaa
