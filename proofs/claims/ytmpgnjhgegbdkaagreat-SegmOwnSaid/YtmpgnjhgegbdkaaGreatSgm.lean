import Derived.Test.YtmpgnjhgegbdkaaGreatLsix
import Derived.Test.YtmpgnjhgegbdkaaGreatLseven
import Derived.Deep.CutBlock
import Derived.Deep.DeepCutAuto
import Derived.Deep.RegionLaw
import Derived.Test.YtmpgnjhgegbdkaaGreatZof2
import Derived.Test.YtmpgnjhgegbdkaaGreatNkey
import Derived.Test.YtmpgnjhgegbdkaaGreatZmay
import Derived.Test.YtmpgnjhgegbdkaaGreatIcolu
import Derived.Test.YtmpgnjhgegbdkaaGreatBcolp
set_option linter.unusedVariables false
set_option linter.unusedSimpArgs false
namespace Go.Proofs.YtmpgnjhgegbdkaaGreat
open Go.RowKit
theorem zNt (n : Int) : Kinds (kindsOf n) ∧ (kindsOf n).length ≤ 5 := by
 refine ⟨fun c hc => ?_, ?_⟩
 ·unfold kindsOf at hc
  obtain ⟨k, _, rfl⟩ := List.mem_map.1 hc
  show _ % 2 + 1 = 1 ∨ _ % 2 + 1 = 2
  omega
 ·unfold kindsOf
  rw [List.length_map, List.length_range]
  omega
def colsN (n : Int) : List Co := colsOf (kindsOf n)
theorem zJ6 (n : Int) : ColsOk (colsN n) := zRe (zNt n).1 (zNt n).2
theorem zIo (n : Int) : (colsN n).length = (kindsOf n).length + 1 := zHb _
theorem zSc (n : Int) (w : World) :
  Calls Tryz.prog 13 #[.int .i64 n] w fun e w' => ∃ ao cap, e = .returned (.agg #[.slice ao (colsN n).length cap]) ∧ RdSK w.heap.size w' 3 (.slice ao (colsN n).length cap) ((colsN n).map Co.cells) ∧ Below w.heap.size w w' := by
 refine (zRc n w).mono ?_
 rintro e w' ⟨ao, cap, l, rfl, h2, h3, h4, h5, rfl⟩
 refine ⟨ao, cap, by rw [zIo], ?_, h5⟩
 rw [zIo]
 exact zC7 (ls := (colsN n).map Co.cells) (by rw [zTf] at h4; exact h4) (by rw [List.length_map, zIo]) (fun t ht => by obtain ⟨x, _, rfl⟩ := List.mem_map.1 ht; rfl)
theorem zV7 {K : Nat} {w : World} {v : Value} {l : List Co} (h : RdSK K w 3 v (l.map Co.cells)) : RdC w v l := h.rd
end Go.Proofs.YtmpgnjhgegbdkaaGreat
set_option linter.unusedVariables false
set_option linter.unusedSimpArgs false
namespace Go.Proofs.YtmpgnjhgegbdkaaGreat
open Go.RowKit
theorem zSb {K : Nat} {w : World} {s : Value} {bs : List Nat} (h : Rd w s (bs.map u8v)) (hf : FreshV K s) : RdB K w s bs := by
 obtain ⟨ao, cap, rfl, hn, hc⟩ := h
 simp only [List.length_map] at hn hc hf ⊢
 refine ⟨ao, cap, rfl, hn, fun hp => ?_⟩
 obtain ⟨b, off, rfl, h3⟩ := hc hp
 refine ⟨b, off, rfl, hf _ _ _ rfl, fun i hi => ?_⟩
 rw [h3 i hi, List.getD_eq_getElem?_getD, List.getD_eq_getElem?_getD, List.getElem?_map, List.getElem?_eq_getElem hi]
 rfl
end Go.Proofs.YtmpgnjhgegbdkaaGreat
set_option linter.unusedVariables false
set_option linter.unusedSimpArgs false
namespace Go.Proofs.YtmpgnjhgegbdkaaGreat
open Go.RowKit
theorem zTz {w w' : World} {l : List (Vc × Value)} {v : Value} (h : OInv w l v w') (hne : 0 < l.length) : ∃ g cap, v = .slice (some ⟨g, 0, none⟩) l.length cap := by
 rcases h.own.2 with ⟨_, h0⟩ | ⟨g, cap, cur, hv, _⟩
 ·omega
 ·exact ⟨g, cap, hv⟩
theorem zVl (v : Value) (cols : List Co) (hne : 0 < cols.length) (n : Int) (w : World) (hv : RdC w v cols) (hl : cols.length ≤ 6) :
  Calls Tryz.prog 14 #[.agg #[v], .int .i64 n] w fun e w' => ∃ (g cap : Nat) (l : List (Vc × Value)), e = .returned (.slice (some ⟨g, 0, none⟩) cols.length cap) ∧ l.map Prod.fst = rowOf cols n ∧ w'.ownsRow w.heap.size 31 4 (.slice (some ⟨g, 0, none⟩) cols.length cap) cols.length (l.map cellsV).flatten ∧ (∀ t ∈ l, RdB w.heap.size w' t.2 t.1.b ∧ (∀ x ∈ t.1.b, x < 256) ∧ FarV g t) ∧ Below w.heap.size w w' := by
 refine (zV0 v cols n w hv hl).mono ?_
 rintro e w' ⟨u, l, rfl, h1, h2, h3, h4⟩
 have hlen : l.length = cols.length := by have := congrArg List.length h1; rw [List.length_map, zC6] at this; exact this
 obtain ⟨g, cap, rfl⟩ := zTz h2 (by omega)
 have ho := h2.own
 rw [hlen] at ho
 refine ⟨g, cap, l, by rw [hlen], h1, ho, fun t ht => ⟨zSb (h2.ok t ht).1 (h4 t ht), (h2.ok t ht).2, h2.far t ht g rfl⟩, h3⟩
theorem zPe {K : Nat} {w : World} {t : Vc × Value} {g i : Nat} {u : Value} (h : RdB K w t.2 t.1.b) (hf : FarV g t) : RdB K (w.setCell ⟨g, i, none⟩ u) t.2 t.1.b := by
 obtain ⟨ao, cap, hv, hn, hc⟩ := h
 refine ⟨ao, cap, hv, hn, fun hp => ?_⟩
 obtain ⟨b, off, ha, hk, hcell⟩ := hc hp
 refine ⟨b, off, ha, hk, fun j hj => ?_⟩
 have hne : b ≠ g := hf (fun e => by rw [e] at hp; cases hp) ⟨b, off, none⟩ _ _ (by rw [hv, ha])
 rw [← hcell j hj]
 exact World.cell?_of_block (heap_setCell_other w ⟨g, i, none⟩ b u hne)
theorem zSd {t : Vc × Value} {r : List (Vc × Value)} (x : Int) : (((t :: r).map cellsV).flatten).set 2 (.int .i64 x) = (((⟨t.1.u, t.1.k, x, t.1.b⟩, t.2) :: r).map cellsV).flatten := by
 obtain ⟨⟨u, k, n, b⟩, s⟩ := t
 rfl
theorem zVm : Elm Tryz.prog 26 27 1 24 := by
 have h : (Tryz.prog.info? 27).map (fun i => (i.zero, i.size, i.bytes)) = some (some (.slice none 0 0), 1, 24) := by kernel_rfl
 cases hq : Tryz.prog.info? 27 with
 | none => rw [hq] at h; cases h
 | some i =>
  rw [hq] at h
  simp only [Option.map_some, Option.some.injEq, Prod.mk.injEq] at h
  exact ⟨Tryz.underlying26, ⟨i, _, hq, h.1, h.2.1, h.2.2, rfl⟩, by decide, by decide⟩
def OwnR (B : Nat) (w : World) (v : Value) (L : List (List (Vc × Value))) : Prop :=
 ∃ sls, w.ownsRow B 27 1 v L.length sls ∧ sls.length = L.length ∧ ∀ (i : Nat) (s : Value) (l : List (Vc × Value)), sls[i]? = some s → L[i]? = some l → Free (fun b => v.ownBlock = some b) w (fun w' => RdP w' s l)
theorem OwnR.rd {B : Nat} {w : World} {v : Value} {L : List (List (Vc × Value))} (h : OwnR B w v L) : RdRs w v L := by
 obtain ⟨sls, h1, h2, h3⟩ := h
 exact ⟨sls, Rd.of_owns h1, h2, fun i s l hs hl => (h3 i s l hs hl).now⟩
end Go.Proofs.YtmpgnjhgegbdkaaGreat
set_option linter.unusedVariables false
set_option linter.unusedSimpArgs false
namespace Go.Proofs.YtmpgnjhgegbdkaaGreat
def OfK (kd : Int) (v : Vc) : Prop := NormV v ∧ v.k = kd
def ColK (kd : Int) (c : Nat) (rows : List (List Vc)) : Prop := ∀ r ∈ rows, ∃ v, r[c]? = some v ∧ OfK kd v
def RowsK (cols : List Co) (rows : List (List Vc)) : Prop := ∀ r ∈ rows, r.length = cols.length ∧ ∀ (i : Nat) (c : Co) (v : Vc), cols[i]? = some c → r[i]? = some v → OfK c.k v
theorem RowsK.col {cols : List Co} {rows : List (List Vc)} (h : RowsK cols rows) {i : Nat} {c : Co} (hc : cols[i]? = some c) : ColK c.k i rows := fun r hr => by
 have hi := (List.getElem?_eq_some_iff.1 hc).1
 obtain ⟨h1, h2⟩ := h r hr
 have h3 : r[i]? = some r[i] := List.getElem?_eq_getElem (by rw [h1]; exact hi)
 exact ⟨_, h3, h2 i c _ hc h3⟩
end Go.Proofs.YtmpgnjhgegbdkaaGreat
set_option linter.unusedVariables false
set_option linter.unusedSimpArgs false
namespace Go.Proofs.YtmpgnjhgegbdkaaGreat
open Go.RowKit
structure ColV (k : Int) (v : Vc) : Prop where
 k : v.k = k
 norm : NormV v
 i64 : I64 v.n
 fit : Bc.Fit v.b
def nulT (vs : List Vc) : List Bool := vs.map (·.u)
def thrT (vs : List Vc) : List Vc := vs.filter fun v => !v.u
def intT (vs : List Vc) : List Int := (thrT vs).map (·.n)
def txtT (vs : List Vc) : List (List Nat) := (thrT vs).map (·.b)
def bodyT (k : Int) (vs : List Vc) : List Nat := if k = 1 then bestN (intT vs) 4 else Bc.bestN (txtT vs) 4
def scolT (k : Int) (vs : List Vc) : List Nat := encN (nulT vs) ++ bodyT k vs
def sfillT (k : Int) : List Bool → List Vc → List Vc
 | [], _ => []
 | true :: r, l => ⟨true, k, 0, []⟩ :: sfillT k r l
 | false :: r, l => l.headD zeroV :: sfillT k r l.tail
def thereI (l : List Int) : List Vc := l.map fun n => ⟨false, 1, n, []⟩
def thereB (k : Int) (l : List (List Nat)) : List Vc := l.map fun b => ⟨false, k, 0, b⟩
def thereT (k : Int) (bs : List Nat) (count : Int) : Option (List Vc) := if k = 1 then (decT bs count).map thereI else (Bc.decT bs count).map (thereB k)
def readT (k : Int) (bs : List Nat) (count : Nat) : Option (List Vc) := match decN bs with
 | none => none
 | some (nulls, rest) => if nulls.length = count then (thereT k rest ((count : Int) - (countB nulls : Nat))).map (sfillT k nulls) else none
theorem zCz (vs : List Vc) : (thrT vs).length + countB (nulT vs) = vs.length := by
 induction vs with
 | nil => rfl
 | cons v r ih =>
  unfold thrT nulT at *
  cases h : v.u <;> simp [h, countB] <;> omega
theorem zEp (vs : List Vc) : (intT vs).length = (thrT vs).length := List.length_map ..
theorem zFp (vs : List Vc) : (txtT vs).length = (thrT vs).length := List.length_map ..
theorem zBe (vs : List Vc) : (nulT vs).length = vs.length := List.length_map ..
theorem zFq {vs : List Vc} {v : Vc} (h : v ∈ thrT vs) : v ∈ vs ∧ v.u = false := by
 unfold thrT at h
 rw [List.mem_filter] at h
 exact ⟨h.1, by simpa using h.2⟩
theorem zI7 {k : Int} {vs : List Vc} (h : ∀ v ∈ vs, ColV k v) : ∀ n ∈ intT vs, I64 n := fun n hn => by
 obtain ⟨v, hv, rfl⟩ := List.mem_map.1 hn
 exact (h v (zFq hv).1).i64
theorem zI8 {k : Int} {vs : List Vc} (h : ∀ v ∈ vs, ColV k v) : ∀ b ∈ txtT vs, Bc.Fit b := fun b hb => by
 obtain ⟨v, hv, rfl⟩ := List.mem_map.1 hb
 exact (h v (zFq hv).1).fit
theorem zNw {k : Int} : ∀ {vs : List Vc}, (∀ v ∈ vs, ColV k v) → sfillT k (nulT vs) (thrT vs) = vs
 | [], _ => rfl
 | v :: r, h => by
  have ih := zNw (vs := r) fun x hx => h x (List.mem_cons_of_mem _ hx)
  have hv := h v List.mem_cons_self
  cases hu : v.u with
  | true =>
   have e : thrT (v :: r) = thrT r := by unfold thrT; rw [List.filter_cons, hu]; rfl
   have e2 : nulT (v :: r) = true :: nulT r := by unfold nulT; rw [List.map_cons, hu]
   rw [e, e2, sfillT, ih]
   have := hv.norm.1 hu
   have hk := hv.k
   obtain ⟨vu, vk, vn, vb⟩ := v
   simp only at hu hk this
   rw [hu, hk, this.1, this.2]
  | false =>
   have e : thrT (v :: r) = v :: thrT r := by unfold thrT; rw [List.filter_cons, hu]; rfl
   have e2 : nulT (v :: r) = false :: nulT r := by unfold nulT; rw [List.map_cons, hu]
   rw [e, e2, sfillT]
   show v :: sfillT k (nulT r) (thrT r) = _
   rw [ih]
theorem zT3 {vs : List Vc} (h : ∀ v ∈ vs, ColV 1 v) : thereI (intT vs) = thrT vs := by
 unfold thereI intT
 rw [List.map_map]
 conv => rhs; rw [← List.map_id (thrT vs)]
 refine List.map_congr_left fun v hv => ?_
 have hc := h v (zFq hv).1
 have hu := (zFq hv).2
 have hk := hc.k
 have hb := hc.norm.2.2 (by omega)
 obtain ⟨vu, vk, vn, vb⟩ := v
 simp only at hu hk hb
 simp [hu, hk, hb]
theorem zT4 {k : Int} (hk2 : k = 2) {vs : List Vc} (h : ∀ v ∈ vs, ColV k v) : thereB k (txtT vs) = thrT vs := by
 unfold thereB txtT
 rw [List.map_map]
 conv => rhs; rw [← List.map_id (thrT vs)]
 refine List.map_congr_left fun v hv => ?_
 have hc := h v (zFq hv).1
 have hu := (zFq hv).2
 have hk := hc.k
 have hn := hc.norm.2.1 (by omega)
 obtain ⟨vu, vk, vn, vb⟩ := v
 simp only at hu hk hn
 simp [hu, hk, hn]
theorem zT5 {k : Int} (hk : k = 1 ∨ k = 2) {vs : List Vc} (h : ∀ v ∈ vs, ColV k v) (hl : vs.length ≤ 100) : thereT k (bodyT k vs) ((thrT vs).length : Int) = some (thrT vs) := by
 have hle : (thrT vs).length ≤ 100 := by have := zCz vs; omega
 rcases hk with rfl | rfl
 ·unfold thereT bodyT
  rw [if_pos rfl, if_pos rfl, ← zEp, (zDw (intT vs) (zI7 h) (by rw [zEp]; exact hle)).1, Option.map_some, zT3 h]
 ·unfold thereT bodyT
  rw [if_neg (by decide), if_neg (by decide), ← zFp, (Bc.zDw (txtT vs) (zI8 h) (by rw [zFp]; omega)).1, Option.map_some, zT4 rfl h]
theorem zHm {k : Int} (hk : k = 1 ∨ k = 2) {vs : List Vc} (h : ∀ v ∈ vs, ColV k v) (hl : vs.length ≤ 100) : readT k (scolT k vs) vs.length = some vs := by
 unfold readT scolT
 rw [zO9 _ _ (by rw [zBe]; omega)]
 simp only
 rw [if_pos (zBe vs), show ((vs.length : Int) - (countB (nulT vs) : Nat)) = ((thrT vs).length : Int) by have := zCz vs; omega, zT5 hk h hl, Option.map_some, zNw h]
theorem zG2 {k : Int} (hk : k = 1 ∨ k = 2) {vs : List Vc} (h : ∀ v ∈ vs, ColV k v) (hl : vs.length ≤ 100) : (∀ x ∈ bodyT k vs, x < 256) ∧ (bodyT k vs).length ≤ 40001 := by
 have hle : (thrT vs).length ≤ 100 := by have := zCz vs; omega
 rcases hk with rfl | rfl
 ·unfold bodyT
  rw [if_pos rfl]
  have := zDw (intT vs) (zI7 h) (by rw [zEp]; exact hle)
  exact ⟨this.2.1, by have := this.2.2; omega⟩
 ·unfold bodyT
  rw [if_neg (by decide)]
  exact (Bc.zDw (txtT vs) (zI8 h) (by rw [zFp]; omega)).2
theorem zL5 {c : Co} {v : Vc} (h : fitsT c v = true) (hi : I64 v.n) (h8 : ∀ x ∈ v.b, x < 256) : ColV c.k v ∧ (c.k = 1 ∨ c.k = 2) ∧ (v.u = true → c.u = true) := by
 unfold fitsT at h
 simp only [Bool.and_eq_true, Bool.or_eq_true, beq_iff_eq] at h
 obtain ⟨⟨hk, hk2⟩, h3⟩ := h
 by_cases hu : v.u = true
 ·rw [if_pos hu] at h3
  simp only [Bool.and_eq_true, beq_iff_eq, List.length_eq_zero_iff] at h3
  obtain ⟨⟨hcu, hn⟩, hb⟩ := h3
  exact ⟨⟨hk, ⟨fun _ => ⟨hn, hb⟩, fun _ => hn, fun _ => hb⟩, hi, ⟨h8, by rw [hb]; exact Nat.zero_le _⟩⟩, by rw [← hk]; exact hk2, fun _ => hcu⟩
 ·rw [if_neg hu] at h3
  by_cases h1 : v.k = 1
  ·rw [if_pos (by rw [h1])] at h3
   simp only [beq_iff_eq, List.length_eq_zero_iff] at h3
   exact ⟨⟨hk, ⟨fun h => absurd h hu, fun h2 => (by omega), fun _ => h3⟩, hi, ⟨h8, by rw [h3]; exact Nat.zero_le _⟩⟩, by rw [← hk]; exact hk2, fun h => absurd h hu⟩
  ·have h2 : v.k = 2 := hk2.resolve_left h1
   rw [if_neg (by rw [h2]; decide)] at h3
   simp only [Bool.and_eq_true, beq_iff_eq, decide_eq_true_eq] at h3
   exact ⟨⟨hk, ⟨fun h => absurd h hu, fun _ => h3.1, fun h => absurd h2 h⟩, hi, ⟨h8, h3.2⟩⟩, by rw [← hk]; exact hk2, fun h => absurd h hu⟩
theorem zF1 : ∀ {x : List Co} {y : List Vc}, fitsR x y = true → x.length = y.length ∧ ∀ (i : Nat) (c : Co) (v : Vc), x[i]? = some c → y[i]? = some v → fitsT c v = true
 | [], [], _ => ⟨rfl, fun i c v h => by simp at h⟩
 | [], _ :: _, h => by simp [fitsR] at h
 | _ :: _, [], h => by simp [fitsR] at h
 | a :: x, b :: y, h => by
  rw [fitsR, Bool.and_eq_true] at h
  have ih := zF1 h.2
  refine ⟨by rw [List.length_cons, List.length_cons, ih.1], fun i c v hc hv => ?_⟩
  cases i with
  | zero =>
   simp only [List.getElem?_cons_zero, Option.some.injEq] at hc hv
   rw [← hc, ← hv]
   exact h.1
  | succ i => exact ih.2 i c v (by simpa using hc) (by simpa using hv)
structure RowsC (cols : List Co) (rows : List (List Vc)) : Prop where
 ne : 0 < rows.length
 le : rows.length ≤ 64
 len : ∀ r ∈ rows, r.length = cols.length
 at_ : ∀ r ∈ rows, ∀ (i : Nat) (c : Co) (v : Vc), cols[i]? = some c → r[i]? = some v → ColV c.k v ∧ (v.u = true → c.u = true)
 ks : ∀ c ∈ cols, c.k = 1 ∨ c.k = 2
theorem zT6 {cols : List Co} {rows : List (List Vc)} (h1 : 0 < rows.length) (h2 : rows.length ≤ 64) (hf : ∀ r ∈ rows, fitsR cols r = true) (hv : ∀ r ∈ rows, ∀ v ∈ r, I64 v.n ∧ ∀ x ∈ v.b, x < 256) : RowsC cols rows where
 ne := h1
 le := h2
 len := fun r hr => (zF1 (hf r hr)).1.symm
 at_ := fun r hr i c v hc hv2 => by
  have := hv r hr v (List.mem_of_getElem? hv2)
  have := zL5 ((zF1 (hf r hr)).2 i c v hc hv2) this.1 this.2
  exact ⟨this.1, this.2.2⟩
 ks := fun c hc => by
  obtain ⟨i, hi⟩ := List.getElem?_of_mem hc
  cases hr : rows with
  | nil => rw [hr] at h1; cases h1
  | cons r rest =>
   have hm : r ∈ rows := by rw [hr]; exact List.mem_cons_self
   have hl := (zF1 (hf r hm)).1
   have hlt := (List.getElem?_eq_some_iff.1 hi).1
   have hv2 : r[i]? = some r[i] := List.getElem?_eq_getElem (by omega)
   have := hv r hm _ (List.mem_of_getElem? hv2)
   exact (zL5 ((zF1 (hf r hm)).2 i c _ hi hv2) this.1 this.2).2.1
def colVs (rows : List (List Vc)) (i : Nat) : List Vc := rows.map fun r => r.getD i zeroV
theorem zA1 (rows : List (List Vc)) (i : Nat) : (colVs rows i).length = rows.length := List.length_map ..
theorem RowsC.col {cols : List Co} {rows : List (List Vc)} (h : RowsC cols rows) {i : Nat} {c : Co} (hc : cols[i]? = some c) : ∀ v ∈ colVs rows i, ColV c.k v := fun v hv => by
 obtain ⟨r, hr, rfl⟩ := List.mem_map.1 hv
 have hlt := (List.getElem?_eq_some_iff.1 hc).1
 have hl := h.len r hr
 refine (h.at_ r hr i c _ hc ?_).1
 rw [List.getD_eq_getElem?_getD, List.getElem?_eq_getElem (by omega)]
 rfl
def toldT (cols : List Co) (rows : List (List Vc)) : List (List Nat) := cols.mapIdx fun i c => scolT c.k (colVs rows i)
theorem zDd (cols : List Co) (rows : List (List Vc)) : (toldT cols rows).length = cols.length := by unfold toldT; rw [List.length_mapIdx]
theorem zDx (cols : List Co) (rows : List (List Vc)) (i : Nat) : (toldT cols rows)[i]? = (cols[i]?).map fun c => scolT c.k (colVs rows i) := by unfold toldT; rw [List.getElem?_mapIdx]
theorem zT7 (l : List Bool) (hl : l.length ≤ 65535) : ∀ x ∈ encN l, x < 256 := by
 unfold encN
 intro x hx
 rcases List.mem_append.1 hx with h | h
 ·exact zCf _ (by omega) x h
 ·split at h
  ·rw [List.mem_singleton.1 h]; decide
  ·split at h
   ·rw [List.mem_singleton.1 h]; decide
   ·rcases List.mem_cons.1 h with rfl | h
    ·decide
    ·obtain ⟨i, hi⟩ := List.getElem?_of_mem h
     have := zJn 1 (bitsN l) i
     rw [List.getD_eq_getElem?_getD, hi] at this
     exact this
theorem zIp (l : List Bool) (hl : l.length ≤ 1000) : (encN l).length ≤ 1020 := by
 unfold encN
 have h1 := (zA3 9 l.length).1
 rw [List.length_append]
 have h2 : (numC l.length).length ≤ 10 := h1
 split
 ·simp; omega
 ·split
  ·simp; omega
  ·rw [List.length_cons, zAw]; unfold bitsN; rw [List.length_map]; omega
theorem zEq {k : Int} (hk : k = 1 ∨ k = 2) {vs : List Vc} (h : ∀ v ∈ vs, ColV k v) (hl : vs.length ≤ 100) : (∀ x ∈ scolT k vs, x < 256) ∧ (scolT k vs).length ≤ 42000 := by
 unfold scolT
 have h1 := zG2 hk h hl
 have h2 := zIp (nulT vs) (by rw [zBe]; omega)
 refine ⟨fun x hx => ?_, by rw [List.length_append]; omega⟩
 rcases List.mem_append.1 hx with h | h
 ·exact zT7 _ (by rw [zBe]; omega) x h
 ·exact h1.1 x h
def segT (cols : List Co) (rows : List (List Vc)) : List Nat := numC rows.length ++ ((toldT cols rows).map bytesC).flatten
end Go.Proofs.YtmpgnjhgegbdkaaGreat
