import Derived.Test.YtmpgnjhgegbdkaaGreatIcolu
import Derived.Test.YtmpgnjhgegbdkaaGreatBcolp
import Derived.Test.YtmpgnjhgegbdkaaGreatZsafem
set_option linter.unusedVariables false
set_option linter.unusedSimpArgs false
namespace Go.Proofs.YtmpgnjhgegbdkaaGreat
open Go.RowKit
open _root_.List renaming length_map -> Qa, mem_map -> Qc, length_cons -> Qd, length_eq_zero_iff -> Qe, mem_of_getElem? -> Qg, getElem?_of_mem -> Qh, getElem?_eq_some_iff -> Qi, getElem?_eq_getElem -> Qj, getD_eq_getElem?_getD -> Qk, mem_append -> Ql, mem_singleton -> Qm, length_append -> Qn
open _root_.Bool renaming and_eq_true -> Qb
open _root_.Nat renaming zero_le -> Qf
structure ColV (k : Int) (v : Vc) : Prop where
 k : v.k = k
 norm : NormV v
 i64 : I64 v.n
 fit : Bc.Fit v.b
def nulT (vs : List Vc) : List Bool := vs.map (·.u)
def thrT (vs : List Vc) : List Vc := vs.filter fun v => !v.u
def intT (vs : List Vc) : List Int := (thrT vs).map (·.n)
def txtT (vs : List Vc) : List (List Nat) := (thrT vs).map (·.b)
def bodyT (k : Int) (vs : List Vc) : List Nat := if k = 1 then bestN (intT vs) 4 else Bc.bestN (txtT vs) 4
def scolT (k : Int) (vs : List Vc) : List Nat := encN (nulT vs) ++ bodyT k vs
theorem zDf (vs : List Vc) : (thrT vs).length + countB (nulT vs) = vs.length := by
 induction vs with
 | nil => rfl
 | cons v r ih =>
  unfold thrT nulT at *
  cases h : v.u <;> simp [h, countB] <;> omega
theorem zF1 (vs : List Vc) : (intT vs).length = (thrT vs).length := Qa ..
theorem zHs (vs : List Vc) : (txtT vs).length = (thrT vs).length := Qa ..
theorem zBe (vs : List Vc) : (nulT vs).length = vs.length := Qa ..
theorem zNb {vs : List Vc} {v : Vc} (h : v ∈ thrT vs) : v ∈ vs ∧ v.u = false := by
 unfold thrT at h
 rw [List.mem_filter] at h
 exact ⟨h.1, by simpa using h.2⟩
theorem zJd {k : Int} {vs : List Vc} (h : ∀ v ∈ vs, ColV k v) : ∀ n ∈ intT vs, I64 n := fun n hn => by
 obtain ⟨v, hv, rfl⟩ := Qc.1 hn
 exact (h v (zNb hv).1).i64
theorem zJe {k : Int} {vs : List Vc} (h : ∀ v ∈ vs, ColV k v) : ∀ b ∈ txtT vs, Bc.Fit b := fun b hb => by
 obtain ⟨v, hv, rfl⟩ := Qc.1 hb
 exact (h v (zNb hv).1).fit
theorem zF2 {k : Int} (hk : k = 1 ∨ k = 2) {vs : List Vc} (h : ∀ v ∈ vs, ColV k v) (hl : vs.length <= 100) : (∀ x ∈ bodyT k vs, x < 256) ∧ (bodyT k vs).length <= 40001 := by
 have hle : (thrT vs).length <= 100 := by have := zDf vs; omega
 rcases hk with rfl | rfl
 ·unfold bodyT
  rw [if_pos rfl]
  have := zEy (intT vs) (zJd h) (by rw [zF1]; exact hle)
  exact ⟨this.2.1, by have := this.2.2; omega⟩
 ·unfold bodyT
  rw [if_neg (by decide)]
  exact (Bc.zEy (txtT vs) (zJe h) (by rw [zHs]; omega)).2
theorem zJw {c : Co} {v : Vc} (h : fitsT c v = true) (hi : I64 v.n) (h8 : ∀ x ∈ v.b, x < 256) : ColV c.k v ∧ (c.k = 1 ∨ c.k = 2) ∧ (v.u = true -> c.u = true) := by
 unfold fitsT at h
 simp only [Qb, Bool.or_eq_true, beq_iff_eq] at h
 obtain ⟨⟨hk, hk2⟩, h3⟩ := h
 by_cases hu : v.u = true
 ·rw [if_pos hu] at h3
  simp only [Qb, beq_iff_eq, Qe] at h3
  obtain ⟨⟨hcu, hn⟩, hb⟩ := h3
  exact ⟨⟨hk, ⟨fun _ => ⟨hn, hb⟩, fun _ => hn, fun _ => hb⟩, hi, ⟨h8, by rw [hb]; exact Qf _⟩⟩, by rw [<- hk]; exact hk2, fun _ => hcu⟩
 ·rw [if_neg hu] at h3
  by_cases h1 : v.k = 1
  ·rw [if_pos (by rw [h1])] at h3
   simp only [beq_iff_eq, Qe] at h3
   exact ⟨⟨hk, ⟨fun h => absurd h hu, fun h2 => (by omega), fun _ => h3⟩, hi, ⟨h8, by rw [h3]; exact Qf _⟩⟩, by rw [<- hk]; exact hk2, fun h => absurd h hu⟩
  ·have h2 : v.k = 2 := hk2.resolve_left h1
   rw [if_neg (by rw [h2]; decide)] at h3
   simp only [Qb, beq_iff_eq, decide_eq_true_eq] at h3
   exact ⟨⟨hk, ⟨fun h => absurd h hu, fun _ => h3.1, fun h => absurd h2 h⟩, hi, ⟨h8, h3.2⟩⟩, by rw [<- hk]; exact hk2, fun h => absurd h hu⟩
theorem zE0 : ∀ {x : List Co} {y : List Vc}, fitsR x y = true -> x.length = y.length ∧ ∀ (i : Nat) (c : Co) (v : Vc), x[i]? = some c -> y[i]? = some v -> fitsT c v = true
 | [], [], _ => ⟨rfl, fun i c v h => by simp at h⟩
 | [], _ :: _, h => by simp [fitsR] at h
 | _ :: _, [], h => by simp [fitsR] at h
 | a :: x, b :: y, h => by
  rw [fitsR, Qb] at h
  have ih := zE0 h.2
  refine ⟨by rw [Qd, Qd, ih.1], fun i c v hc hv => ?_⟩
  cases i with
  | zero =>
   simp only [List.getElem?_cons_zero, Option.some.injEq] at hc hv
   rw [<- hc, <- hv]
   exact h.1
  | succ i => exact ih.2 i c v (by simpa using hc) (by simpa using hv)
structure RowsC (cols : List Co) (rows : List (List Vc)) : Prop where
 ne : 0 < rows.length
 le : rows.length <= 64
 len : ∀ r ∈ rows, r.length = cols.length
 at_ : ∀ r ∈ rows, ∀ (i : Nat) (c : Co) (v : Vc), cols[i]? = some c -> r[i]? = some v -> ColV c.k v ∧ (v.u = true -> c.u = true)
 ks : ∀ c ∈ cols, c.k = 1 ∨ c.k = 2
theorem zQ9 {cols : List Co} {rows : List (List Vc)} (h1 : 0 < rows.length) (h2 : rows.length <= 64) (hf : ∀ r ∈ rows, fitsR cols r = true) (hv : ∀ r ∈ rows, ∀ v ∈ r, I64 v.n ∧ ∀ x ∈ v.b, x < 256) : RowsC cols rows where
 ne := h1
 le := h2
 len := fun r hr => (zE0 (hf r hr)).1.symm
 at_ := fun r hr i c v hc hv2 => by
  have := hv r hr v (Qg hv2)
  have := zJw ((zE0 (hf r hr)).2 i c v hc hv2) this.1 this.2
  exact ⟨this.1, this.2.2⟩
 ks := fun c hc => by
  obtain ⟨i, hi⟩ := Qh hc
  cases hr : rows with
  | nil => rw [hr] at h1; cases h1
  | cons r rest =>
   have hm : r ∈ rows := by rw [hr]; exact List.mem_cons_self
   have hl := (zE0 (hf r hm)).1
   have hlt := (Qi.1 hi).1
   have hv2 : r[i]? = some r[i] := Qj (by omega)
   have := hv r hm _ (Qg hv2)
   exact (zJw ((zE0 (hf r hm)).2 i c _ hi hv2) this.1 this.2).2.1
def colVs (rows : List (List Vc)) (i : Nat) : List Vc := rows.map fun r => r.getD i zeroV
theorem zD8 (rows : List (List Vc)) (i : Nat) : (colVs rows i).length = rows.length := Qa ..
theorem RowsC.col {cols : List Co} {rows : List (List Vc)} (h : RowsC cols rows) {i : Nat} {c : Co} (hc : cols[i]? = some c) : ∀ v ∈ colVs rows i, ColV c.k v := fun v hv => by
 obtain ⟨r, hr, rfl⟩ := Qc.1 hv
 have hlt := (Qi.1 hc).1
 have hl := h.len r hr
 refine (h.at_ r hr i c _ hc ?_).1
 rw [Qk, Qj (by omega)]
 rfl
def toldT (cols : List Co) (rows : List (List Vc)) : List (List Nat) := cols.mapIdx fun i c => scolT c.k (colVs rows i)
theorem zJx (cols : List Co) (rows : List (List Vc)) : (toldT cols rows).length = cols.length := by unfold toldT; rw [List.length_mapIdx]
theorem zLu (cols : List Co) (rows : List (List Vc)) (i : Nat) : (toldT cols rows)[i]? = (cols[i]?).map fun c => scolT c.k (colVs rows i) := by unfold toldT; rw [List.getElem?_mapIdx]
theorem zRa (l : List Bool) (hl : l.length <= 65535) : ∀ x ∈ encN l, x < 256 := by
 unfold encN
 intro x hx
 rcases Ql.1 hx with h | h
 ·exact zCt _ (by omega) x h
 ·split at h
  ·rw [Qm.1 h]; decide
  ·split at h
   ·rw [Qm.1 h]; decide
   ·rcases List.mem_cons.1 h with rfl | h
    ·decide
    ·obtain ⟨i, hi⟩ := Qh h
     have := zKn 1 (bitsN l) i
     rw [Qk, hi] at this
     exact this
theorem zHi (l : List Bool) (hl : l.length <= 1000) : (encN l).length <= 1020 := by
 unfold encN
 have h1 := (zA5 9 l.length).1
 rw [Qn]
 have h2 : (numC l.length).length <= 10 := h1
 split
 ·simp; omega
 ·split
  ·simp; omega
  ·rw [Qd, zAy]; unfold bitsN; rw [Qa]; omega
theorem zIg {k : Int} (hk : k = 1 ∨ k = 2) {vs : List Vc} (h : ∀ v ∈ vs, ColV k v) (hl : vs.length <= 100) : (∀ x ∈ scolT k vs, x < 256) ∧ (scolT k vs).length <= 42000 := by
 unfold scolT
 have h1 := zF2 hk h hl
 have h2 := zHi (nulT vs) (by rw [zBe]; omega)
 refine ⟨fun x hx => ?_, by rw [Qn]; omega⟩
 rcases Ql.1 hx with h | h
 ·exact zRa _ (by rw [zBe]; omega) x h
 ·exact h1.1 x h
end Go.Proofs.YtmpgnjhgegbdkaaGreat
