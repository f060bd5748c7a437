import Derived.Test.YtmpgnjhgegbdkaaGreatLsix
import Derived.Test.YtmpgnjhgegbdkaaGreatLseven
import Derived.Deep.CutBlock
import Derived.Deep.DeepCutAuto
import Derived.Deep.RegionLaw
import Derived.Test.YtmpgnjhgegbdkaaGreatZof2
import Derived.Test.YtmpgnjhgegbdkaaGreatNkey
import Derived.Test.YtmpgnjhgegbdkaaGreatRefk
import Derived.Test.YtmpgnjhgegbdkaaGreatZmay
import Derived.Test.YtmpgnjhgegbdkaaGreatIcolu
import Derived.Test.YtmpgnjhgegbdkaaGreatBcolp
set_option linter.unusedVariables false
set_option linter.unusedSimpArgs false
namespace Go.Proofs.YtmpgnjhgegbdkaaGreat
open Go.RowKit
open _root_.List renaming length_map -> Qa, mem_map -> Qb, getD_eq_getElem?_getD -> Qc, getElem?_eq_getElem -> Qd, getElem?_eq_some_iff -> Qg, length_cons -> Qh, mem_cons_self -> Qi, filter_cons -> Qj, map_cons -> Qk, map_map -> Ql, map_id -> Qm, map_congr_left -> Qn, length_eq_zero_iff -> Qo, mem_of_getElem? -> Qq, getElem?_of_mem -> Qr, mem_append -> Qs, mem_singleton -> Qt, length_append -> Qu
open _root_.Option renaming map_some -> Qe
open _root_.Bool renaming and_eq_true -> Qf
open _root_.Nat renaming zero_le -> Qp
theorem zOc (n : Int) : Kinds (kindsOf n) ∧ (kindsOf n).length <= 5 := by
 refine ⟨fun c hc => ?_, ?_⟩
 ·unfold kindsOf at hc
  obtain ⟨k, _, rfl⟩ := Qb.1 hc
  show _ % 2 + 1 = 1 ∨ _ % 2 + 1 = 2
  omega
 ·unfold kindsOf
  rw [Qa, List.length_range]
  omega
def colsN (n : Int) : List Co := colsOf (kindsOf n)
theorem zHx (n : Int) : ColsOk (colsN n) := zRx (zOc n).1 (zOc n).2
theorem zI1 (n : Int) : (colsN n).length = (kindsOf n).length + 1 := zHm _
theorem zSv (n : Int) (w : World) :
  Calls Tryz.prog 13 #[.int .i64 n] w fun e w' => ∃ ao cap, e = .returned (.agg #[.slice ao (colsN n).length cap]) ∧ RdSK w.heap.size w' 3 (.slice ao (colsN n).length cap) ((colsN n).map Co.cells) ∧ Below w.heap.size w w' := by
 refine (zRv n w).mono ?_
 rintro e w' ⟨ao, cap, l, rfl, h2, h3, h4, h5, rfl⟩
 refine ⟨ao, cap, by rw [zI1], ?_, h5⟩
 rw [zI1]
 exact zC8 (ls := (colsN n).map Co.cells) (by rw [zTy] at h4; exact h4) (by rw [Qa, zI1]) (fun t ht => by obtain ⟨x, _, rfl⟩ := Qb.1 ht; rfl)
theorem zSu {K : Nat} {w : World} {s : Value} {bs : List Nat} (h : Rd w s (bs.map u8v)) (hf : FreshV K s) : RdB K w s bs := by
 obtain ⟨ao, cap, rfl, hn, hc⟩ := h
 simp only [Qa] at hn hc hf ⊢
 refine ⟨ao, cap, rfl, hn, fun hp => ?_⟩
 obtain ⟨b, off, rfl, h3⟩ := hc hp
 refine ⟨b, off, rfl, hf _ _ _ rfl, fun i hi => ?_⟩
 rw [h3 i hi, Qc, Qc, List.getElem?_map, Qd hi]
 rfl
theorem zUh {w w' : World} {l : List (Vc × Value)} {v : Value} (h : OInv w l v w') (hne : 0 < l.length) : ∃ g cap, v = .slice (some ⟨g, 0, none⟩) l.length cap := by
 rcases h.own.2 with ⟨_, h0⟩ | ⟨g, cap, cur, hv, _⟩
 ·omega
 ·exact ⟨g, cap, hv⟩
theorem zVz (v : Value) (cols : List Co) (hne : 0 < cols.length) (n : Int) (w : World) (hv : RdC w v cols) (hl : cols.length <= 6) :
  Calls Tryz.prog 14 #[.agg #[v], .int .i64 n] w fun e w' => ∃ (g cap : Nat) (l : List (Vc × Value)), e = .returned (.slice (some ⟨g, 0, none⟩) cols.length cap) ∧ l.map Prod.fst = rowOf cols n ∧ w'.ownsRow w.heap.size 31 4 (.slice (some ⟨g, 0, none⟩) cols.length cap) cols.length (l.map cellsV).flatten ∧ (∀ t ∈ l, RdB w.heap.size w' t.2 t.1.b ∧ (∀ x ∈ t.1.b, x < 256) ∧ FarV g t) ∧ Below w.heap.size w w' := by
 refine (zWf v cols n w hv hl).mono ?_
 rintro e w' ⟨u, l, rfl, h1, h2, h3, h4⟩
 have hlen : l.length = cols.length := by have := congrArg List.length h1; rw [Qa, zE2] at this; exact this
 obtain ⟨g, cap, rfl⟩ := zUh h2 (by omega)
 have ho := h2.own
 rw [hlen] at ho
 refine ⟨g, cap, l, by rw [hlen], h1, ho, fun t ht => ⟨zSu (h2.ok t ht).1 (h4 t ht), (h2.ok t ht).2, h2.far t ht g rfl⟩, h3⟩
theorem zPw {K : Nat} {w : World} {t : Vc × Value} {g i : Nat} {u : Value} (h : RdB K w t.2 t.1.b) (hf : FarV g t) : RdB K (w.setCell ⟨g, i, none⟩ u) t.2 t.1.b := by
 obtain ⟨ao, cap, hv, hn, hc⟩ := h
 refine ⟨ao, cap, hv, hn, fun hp => ?_⟩
 obtain ⟨b, off, ha, hk, hcell⟩ := hc hp
 refine ⟨b, off, ha, hk, fun j hj => ?_⟩
 have hne : b ≠ g := hf (fun e => by rw [e] at hp; cases hp) ⟨b, off, none⟩ _ _ (by rw [hv, ha])
 rw [<- hcell j hj]
 exact World.cell?_of_block (heap_setCell_other w ⟨g, i, none⟩ b u hne)
theorem zSw {t : Vc × Value} {r : List (Vc × Value)} (x : Int) : (((t :: r).map cellsV).flatten).set 2 (.int .i64 x) = (((⟨t.1.u, t.1.k, x, t.1.b⟩, t.2) :: r).map cellsV).flatten := by
 obtain ⟨⟨u, k, n, b⟩, s⟩ := t
 rfl
def rows9 (cols : List Co) (l : List Int) : List (List Vc) := (l.take 40).mapIdx fun i n => (rowOf cols n).set 0 ⟨false, 1, (i : Int) * 3 + n % 2, []⟩
theorem zV0 : Elm Tryz.prog 26 27 1 24 := by
 have h : (Tryz.prog.info? 27).map (fun i => (i.zero, i.size, i.bytes)) = some (some (.slice none 0 0), 1, 24) := by kernel_rfl
 cases hq : Tryz.prog.info? 27 with
 | none => rw [hq] at h; cases h
 | some i =>
  rw [hq] at h
  simp only [Qe, Option.some.injEq, Prod.mk.injEq] at h
  exact ⟨Tryz.underlying26, ⟨i, _, hq, h.1, h.2.1, h.2.2, rfl⟩, by decide, by decide⟩
def OwnR (B : Nat) (w : World) (v : Value) (L : List (List (Vc × Value))) : Prop :=
 ∃ sls, w.ownsRow B 27 1 v L.length sls ∧ sls.length = L.length ∧ ∀ (i : Nat) (s : Value) (l : List (Vc × Value)), sls[i]? = some s -> L[i]? = some l -> Free (fun b => v.ownBlock = some b) w (fun w' => RdP w' s l)
theorem OwnR.rd {B : Nat} {w : World} {v : Value} {L : List (List (Vc × Value))} (h : OwnR B w v L) : RdRs w v L := by
 obtain ⟨sls, h1, h2, h3⟩ := h
 exact ⟨sls, Rd.of_owns h1, h2, fun i s l hs hl => (h3 i s l hs hl).now⟩
def OfK (kd : Int) (v : Vc) : Prop := NormV v ∧ v.k = kd
def ColK (kd : Int) (c : Nat) (rows : List (List Vc)) : Prop := ∀ r ∈ rows, ∃ v, r[c]? = some v ∧ OfK kd v
def RowsK (cols : List Co) (rows : List (List Vc)) : Prop := ∀ r ∈ rows, r.length = cols.length ∧ ∀ (i : Nat) (c : Co) (v : Vc), cols[i]? = some c -> r[i]? = some v -> OfK c.k v
theorem RowsK.col {cols : List Co} {rows : List (List Vc)} (h : RowsK cols rows) {i : Nat} {c : Co} (hc : cols[i]? = some c) : ColK c.k i rows := fun r hr => by
 have hi := (Qg.1 hc).1
 obtain ⟨h1, h2⟩ := h r hr
 have h3 : r[i]? = some r[i] := Qd (by rw [h1]; exact hi)
 exact ⟨_, h3, h2 i c _ hc h3⟩
structure ColV (k : Int) (v : Vc) : Prop where
 k : v.k = k
 norm : NormV v
 i64 : I64 v.n
 fit : Bc.Fit v.b
def nulT (vs : List Vc) : List Bool := vs.map (·.u)
def thrT (vs : List Vc) : List Vc := vs.filter fun v => !v.u
def intT (vs : List Vc) : List Int := (thrT vs).map (·.n)
def txtT (vs : List Vc) : List (List Nat) := (thrT vs).map (·.b)
def bodyT (k : Int) (vs : List Vc) : List Nat := if k = 1 then bestN (intT vs) 4 else Bc.bestN (txtT vs) 4
def scolT (k : Int) (vs : List Vc) : List Nat := encN (nulT vs) ++ bodyT k vs
def sfillT (k : Int) : List Bool -> List Vc -> List Vc
 | [], _ => []
 | true :: r, l => ⟨true, k, 0, []⟩ :: sfillT k r l
 | false :: r, l => l.headD zeroV :: sfillT k r l.tail
def thereI (l : List Int) : List Vc := l.map fun n => ⟨false, 1, n, []⟩
def thereB (k : Int) (l : List (List Nat)) : List Vc := l.map fun b => ⟨false, k, 0, b⟩
def thereT (k : Int) (bs : List Nat) (count : Int) : Option (List Vc) := if k = 1 then (decT bs count).map thereI else (Bc.decT bs count).map (thereB k)
def readT (k : Int) (bs : List Nat) (count : Nat) : Option (List Vc) := match decN bs with
 | none => none
 | some (nulls, rest) => if nulls.length = count then (thereT k rest ((count : Int) - (countB nulls : Nat))).map (sfillT k nulls) else none
theorem zC1 (vs : List Vc) : (thrT vs).length + countB (nulT vs) = vs.length := by
 induction vs with
 | nil => rfl
 | cons v r ih =>
  unfold thrT nulT at *
  cases h : v.u <;> simp [h, countB] <;> omega
theorem zEp (vs : List Vc) : (intT vs).length = (thrT vs).length := Qa ..
theorem zFt (vs : List Vc) : (txtT vs).length = (thrT vs).length := Qa ..
theorem zBe (vs : List Vc) : (nulT vs).length = vs.length := Qa ..
theorem zFu {vs : List Vc} {v : Vc} (h : v ∈ thrT vs) : v ∈ vs ∧ v.u = false := by
 unfold thrT at h
 rw [List.mem_filter] at h
 exact ⟨h.1, by simpa using h.2⟩
theorem zJk {k : Int} {vs : List Vc} (h : ∀ v ∈ vs, ColV k v) : ∀ n ∈ intT vs, I64 n := fun n hn => by
 obtain ⟨v, hv, rfl⟩ := Qb.1 hn
 exact (h v (zFu hv).1).i64
theorem zJl {k : Int} {vs : List Vc} (h : ∀ v ∈ vs, ColV k v) : ∀ b ∈ txtT vs, Bc.Fit b := fun b hb => by
 obtain ⟨v, hv, rfl⟩ := Qb.1 hb
 exact (h v (zFu hv).1).fit
theorem zOf {k : Int} : ∀ {vs : List Vc}, (∀ v ∈ vs, ColV k v) -> sfillT k (nulT vs) (thrT vs) = vs
 | [], _ => rfl
 | v :: r, h => by
  have ih := zOf (vs := r) fun x hx => h x (List.mem_cons_of_mem _ hx)
  have hv := h v Qi
  cases hu : v.u with
  | true =>
   have e : thrT (v :: r) = thrT r := by unfold thrT; rw [Qj, hu]; rfl
   have e2 : nulT (v :: r) = true :: nulT r := by unfold nulT; rw [Qk, hu]
   rw [e, e2, sfillT, ih]
   have := hv.norm.1 hu
   have hk := hv.k
   obtain ⟨vu, vk, vn, vb⟩ := v
   simp only at hu hk this
   rw [hu, hk, this.1, this.2]
  | false =>
   have e : thrT (v :: r) = v :: thrT r := by unfold thrT; rw [Qj, hu]; rfl
   have e2 : nulT (v :: r) = false :: nulT r := by unfold nulT; rw [Qk, hu]
   rw [e, e2, sfillT]
   show v :: sfillT k (nulT r) (thrT r) = _
   rw [ih]
theorem zUl {vs : List Vc} (h : ∀ v ∈ vs, ColV 1 v) : thereI (intT vs) = thrT vs := by
 unfold thereI intT
 rw [Ql]
 conv => rhs; rw [<- Qm (thrT vs)]
 refine Qn fun v hv => ?_
 have hc := h v (zFu hv).1
 have hu := (zFu hv).2
 have hk := hc.k
 have hb := hc.norm.2.2 (by omega)
 obtain ⟨vu, vk, vn, vb⟩ := v
 simp only at hu hk hb
 simp [hu, hk, hb]
theorem zUm {k : Int} (hk2 : k = 2) {vs : List Vc} (h : ∀ v ∈ vs, ColV k v) : thereB k (txtT vs) = thrT vs := by
 unfold thereB txtT
 rw [Ql]
 conv => rhs; rw [<- Qm (thrT vs)]
 refine Qn fun v hv => ?_
 have hc := h v (zFu hv).1
 have hu := (zFu hv).2
 have hk := hc.k
 have hn := hc.norm.2.1 (by omega)
 obtain ⟨vu, vk, vn, vb⟩ := v
 simp only at hu hk hn
 simp [hu, hk, hn]
theorem zUn {k : Int} (hk : k = 1 ∨ k = 2) {vs : List Vc} (h : ∀ v ∈ vs, ColV k v) (hl : vs.length <= 100) : thereT k (bodyT k vs) ((thrT vs).length : Int) = some (thrT vs) := by
 have hle : (thrT vs).length <= 100 := by have := zC1 vs; omega
 rcases hk with rfl | rfl
 ·unfold thereT bodyT
  rw [if_pos rfl, if_pos rfl, <- zEp, (zDw (intT vs) (zJk h) (by rw [zEp]; exact hle)).1, Qe, zUl h]
 ·unfold thereT bodyT
  rw [if_neg (by decide), if_neg (by decide), <- zFt, (Bc.zDw (txtT vs) (zJl h) (by rw [zFt]; omega)).1, Qe, zUm rfl h]
theorem zHy {k : Int} (hk : k = 1 ∨ k = 2) {vs : List Vc} (h : ∀ v ∈ vs, ColV k v) (hl : vs.length <= 100) : readT k (scolT k vs) vs.length = some vs := by
 unfold readT scolT
 rw [zPq _ _ (by rw [zBe]; omega)]
 simp only
 rw [if_pos (zBe vs), show ((vs.length : Int) - (countB (nulT vs) : Nat)) = ((thrT vs).length : Int) by have := zC1 vs; omega, zUn hk h hl, Qe, zOf h]
theorem zHc {k : Int} (hk : k = 1 ∨ k = 2) {vs : List Vc} (h : ∀ v ∈ vs, ColV k v) (hl : vs.length <= 100) : (∀ x ∈ bodyT k vs, x < 256) ∧ (bodyT k vs).length <= 40001 := by
 have hle : (thrT vs).length <= 100 := by have := zC1 vs; omega
 rcases hk with rfl | rfl
 ·unfold bodyT
  rw [if_pos rfl]
  have := zDw (intT vs) (zJk h) (by rw [zEp]; exact hle)
  exact ⟨this.2.1, by have := this.2.2; omega⟩
 ·unfold bodyT
  rw [if_neg (by decide)]
  exact (Bc.zDw (txtT vs) (zJl h) (by rw [zFt]; omega)).2
theorem zMj {c : Co} {v : Vc} (h : fitsT c v = true) (hi : I64 v.n) (h8 : ∀ x ∈ v.b, x < 256) : ColV c.k v ∧ (c.k = 1 ∨ c.k = 2) ∧ (v.u = true -> c.u = true) := by
 unfold fitsT at h
 simp only [Qf, Bool.or_eq_true, beq_iff_eq] at h
 obtain ⟨⟨hk, hk2⟩, h3⟩ := h
 by_cases hu : v.u = true
 ·rw [if_pos hu] at h3
  simp only [Qf, beq_iff_eq, Qo] at h3
  obtain ⟨⟨hcu, hn⟩, hb⟩ := h3
  exact ⟨⟨hk, ⟨fun _ => ⟨hn, hb⟩, fun _ => hn, fun _ => hb⟩, hi, ⟨h8, by rw [hb]; exact Qp _⟩⟩, by rw [<- hk]; exact hk2, fun _ => hcu⟩
 ·rw [if_neg hu] at h3
  by_cases h1 : v.k = 1
  ·rw [if_pos (by rw [h1])] at h3
   simp only [beq_iff_eq, Qo] at h3
   exact ⟨⟨hk, ⟨fun h => absurd h hu, fun h2 => (by omega), fun _ => h3⟩, hi, ⟨h8, by rw [h3]; exact Qp _⟩⟩, by rw [<- hk]; exact hk2, fun h => absurd h hu⟩
  ·have h2 : v.k = 2 := hk2.resolve_left h1
   rw [if_neg (by rw [h2]; decide)] at h3
   simp only [Qf, beq_iff_eq, decide_eq_true_eq] at h3
   exact ⟨⟨hk, ⟨fun h => absurd h hu, fun _ => h3.1, fun h => absurd h2 h⟩, hi, ⟨h8, h3.2⟩⟩, by rw [<- hk]; exact hk2, fun h => absurd h hu⟩
theorem zF6 : ∀ {x : List Co} {y : List Vc}, fitsR x y = true -> x.length = y.length ∧ ∀ (i : Nat) (c : Co) (v : Vc), x[i]? = some c -> y[i]? = some v -> fitsT c v = true
 | [], [], _ => ⟨rfl, fun i c v h => by simp at h⟩
 | [], _ :: _, h => by simp [fitsR] at h
 | _ :: _, [], h => by simp [fitsR] at h
 | a :: x, b :: y, h => by
  rw [fitsR, Qf] at h
  have ih := zF6 h.2
  refine ⟨by rw [Qh, Qh, ih.1], fun i c v hc hv => ?_⟩
  cases i with
  | zero =>
   simp only [List.getElem?_cons_zero, Option.some.injEq] at hc hv
   rw [<- hc, <- hv]
   exact h.1
  | succ i => exact ih.2 i c v (by simpa using hc) (by simpa using hv)
structure RowsC (cols : List Co) (rows : List (List Vc)) : Prop where
 ne : 0 < rows.length
 le : rows.length <= 64
 len : ∀ r ∈ rows, r.length = cols.length
 at_ : ∀ r ∈ rows, ∀ (i : Nat) (c : Co) (v : Vc), cols[i]? = some c -> r[i]? = some v -> ColV c.k v ∧ (v.u = true -> c.u = true)
 ks : ∀ c ∈ cols, c.k = 1 ∨ c.k = 2
theorem zUo {cols : List Co} {rows : List (List Vc)} (h1 : 0 < rows.length) (h2 : rows.length <= 64) (hf : ∀ r ∈ rows, fitsR cols r = true) (hv : ∀ r ∈ rows, ∀ v ∈ r, I64 v.n ∧ ∀ x ∈ v.b, x < 256) : RowsC cols rows where
 ne := h1
 le := h2
 len := fun r hr => (zF6 (hf r hr)).1.symm
 at_ := fun r hr i c v hc hv2 => by
  have := hv r hr v (Qq hv2)
  have := zMj ((zF6 (hf r hr)).2 i c v hc hv2) this.1 this.2
  exact ⟨this.1, this.2.2⟩
 ks := fun c hc => by
  obtain ⟨i, hi⟩ := Qr hc
  cases hr : rows with
  | nil => rw [hr] at h1; cases h1
  | cons r rest =>
   have hm : r ∈ rows := by rw [hr]; exact Qi
   have hl := (zF6 (hf r hm)).1
   have hlt := (Qg.1 hi).1
   have hv2 : r[i]? = some r[i] := Qd (by omega)
   have := hv r hm _ (Qq hv2)
   exact (zMj ((zF6 (hf r hm)).2 i c _ hi hv2) this.1 this.2).2.1
def colVs (rows : List (List Vc)) (i : Nat) : List Vc := rows.map fun r => r.getD i zeroV
theorem zAz (rows : List (List Vc)) (i : Nat) : (colVs rows i).length = rows.length := Qa ..
theorem RowsC.col {cols : List Co} {rows : List (List Vc)} (h : RowsC cols rows) {i : Nat} {c : Co} (hc : cols[i]? = some c) : ∀ v ∈ colVs rows i, ColV c.k v := fun v hv => by
 obtain ⟨r, hr, rfl⟩ := Qb.1 hv
 have hlt := (Qg.1 hc).1
 have hl := h.len r hr
 refine (h.at_ r hr i c _ hc ?_).1
 rw [Qc, Qd (by omega)]
 rfl
def toldT (cols : List Co) (rows : List (List Vc)) : List (List Nat) := cols.mapIdx fun i c => scolT c.k (colVs rows i)
theorem zDe (cols : List Co) (rows : List (List Vc)) : (toldT cols rows).length = cols.length := by unfold toldT; rw [List.length_mapIdx]
theorem zDx (cols : List Co) (rows : List (List Vc)) (i : Nat) : (toldT cols rows)[i]? = (cols[i]?).map fun c => scolT c.k (colVs rows i) := by unfold toldT; rw [List.getElem?_mapIdx]
theorem zUp (l : List Bool) (hl : l.length <= 65535) : ∀ x ∈ encN l, x < 256 := by
 unfold encN
 intro x hx
 rcases Qs.1 hx with h | h
 ·exact zCh _ (by omega) x h
 ·split at h
  ·rw [Qt.1 h]; decide
  ·split at h
   ·rw [Qt.1 h]; decide
   ·rcases List.mem_cons.1 h with rfl | h
    ·decide
    ·obtain ⟨i, hi⟩ := Qr h
     have := zJy 1 (bitsN l) i
     rw [Qc, hi] at this
     exact this
theorem zI2 (l : List Bool) (hl : l.length <= 1000) : (encN l).length <= 1020 := by
 unfold encN
 have h1 := (zA3 9 l.length).1
 rw [Qu]
 have h2 : (numC l.length).length <= 10 := h1
 split
 ·simp; omega
 ·split
  ·simp; omega
  ·rw [Qh, zAx]; unfold bitsN; rw [Qa]; omega
theorem zEq {k : Int} (hk : k = 1 ∨ k = 2) {vs : List Vc} (h : ∀ v ∈ vs, ColV k v) (hl : vs.length <= 100) : (∀ x ∈ scolT k vs, x < 256) ∧ (scolT k vs).length <= 42000 := by
 unfold scolT
 have h1 := zHc hk h hl
 have h2 := zI2 (nulT vs) (by rw [zBe]; omega)
 refine ⟨fun x hx => ?_, by rw [Qu]; omega⟩
 rcases Qs.1 hx with h | h
 ·exact zUp _ (by rw [zBe]; omega) x h
 ·exact h1.1 x h
def segT (cols : List Co) (rows : List (List Vc)) : List Nat := numC rows.length ++ ((toldT cols rows).map bytesC).flatten
end Go.Proofs.YtmpgnjhgegbdkaaGreat
