/-
  Versions of the law's, one by one; contract of the law's SameVersion of two that are alike.
-/
import Derived.Test.YtmpgnjhgegbdkaaGreatGmi
import Derived.Test.YtmpgnjhgegbdkaaGreatLsix
import Derived.Test.YtmpgnjhgegbdkaaGreatSgp
set_option linter.unusedVariables false
set_option linter.unusedSimpArgs false
set_option maxRecDepth 100000
set_option maxHeartbeats 4000000
namespace Go.Proofs.YtmpgnjhgegbdkaaGreat
open Go.RowKit
open _root_.List renaming length_map -> Qa, mem_of_getElem? -> Qb, getElem?_zip_eq_some -> Qc, getElem?_mapIdx -> Qd, getElem?_map -> Qe, getElem?_eq_some_iff -> Qf, getElem?_eq_getElem -> Qg, mem_map -> Qh
theorem sameR_selfG : ∀ x : List Vc, sameR x x = true
 | [] => rfl
 | a :: r => by rw [sameR, sameR_selfG r, Bool.and_true]; simp [sameT]
def verL (sls : List Value) (L : List (List (Vc × Value))) : List Ver := (sls.zip L).mapIdx fun k x => ⟨(k : Int) + 1, x.1, x.2, 0, (k : Int), 0, 0⟩
theorem verL_at {sls : List Value} {L : List (List (Vc × Value))} {k : Nat} {s : Value} {l : List (Vc × Value)} (hs : sls[k]? = some s) (hl : L[k]? = some l) : (verL sls L)[k]? = some ⟨(k : Int) + 1, s, l, 0, (k : Int), 0, 0⟩ := by
 unfold verL
 have hz : (sls.zip L)[k]? = some (s, l) := Qc.2 ⟨hs, hl⟩
 rw [Qd, hz]
 rfl
theorem verL_len {sls : List Value} {L : List (List (Vc × Value))} (h : sls.length = L.length) : (verL sls L).length = L.length := by
 unfold verL
 rw [List.length_mapIdx, List.length_zip, h, Nat.min_self]
theorem verL_inv {sls : List Value} {L : List (List (Vc × Value))} {k : Nat} {x : Ver} (h : (verL sls L)[k]? = some x) : ∃ s l, sls[k]? = some s ∧ L[k]? = some l ∧ x = ⟨(k : Int) + 1, s, l, 0, (k : Int), 0, 0⟩ := by
 unfold verL at h
 rw [Qd] at h
 cases hz : (sls.zip L)[k]? with
 | none => rw [hz] at h; cases h
 | some z =>
  rw [hz] at h
  obtain ⟨h1, h2⟩ := Qc.1 hz
  exact ⟨z.1, z.2, h1, h2, (Option.some.inj h).symm⟩
theorem verL_row {sls : List Value} {L : List (List (Vc × Value))} (h : sls.length = L.length) : (verL sls L).map Ver.row = L.map fun x => x.map Prod.fst := by
 apply List.ext_getElem?
 intro k
 rw [Qe, Qe]
 cases hl : L[k]? with
 | none =>
  rw [List.getElem?_eq_none_iff] at hl
  rw [List.getElem?_eq_none (by rw [verL_len h]; exact hl)]
  rfl
 | some l =>
  have hk := (Qf.1 hl).1
  rw [verL_at (Qg (by rw [h]; exact hk)) hl]
  rfl
theorem RowsB.rdp {B : Nat} {w : World} {v : Value} {sls : List Value} {L : List (List (Vc × Value))} (h : RowsB B w v sls L) {k : Nat} {s : Value} {l : List (Vc × Value)} (hs : sls[k]? = some s) (hl : L[k]? = some l) : ∀ w', Above B w w' -> RdP w' s l := fun w' ha =>
 ⟨(zH4 (h.row k s l hs hl) (by rw [Qa]) (fun t ht => by obtain ⟨c, _, rfl⟩ := Qh.1 ht; rfl)).above ha (Nat.le_refl _) |>.rd, fun t ht => ⟨(h.val.now l (Qb hl) t ht).rd ha, h.lt l (Qb hl) t ht⟩⟩
structure RowsV (B : Nat) (w : World) (v : Value) (sls : List Value) (n m : Nat) : Prop where
 own : w.ownsRow B 27 1 v n sls
 len : sls.length = n
 apart : Bc.Apart (v :: sls)
 row : ∀ (i : Nat) (s : Value), sls[i]? = some s -> ∃ xs, w.ownsRow B 31 4 s m xs
theorem RowsB.rowsV {B m : Nat} {w : World} {v : Value} {sls : List Value} {L : List (List (Vc × Value))} (h : RowsB B w v sls L) (hm : ∀ l ∈ L, l.length = m) : RowsV B w v sls L.length m where
 own := h.own
 len := h.len
 apart := h.apart
 row := fun i s hs => by
  have hl : L[i]? = some (L[i]'(by have := (Qf.1 hs).1; have := h.len; omega)) := Qg _
  have := h.row i s _ hs hl
  rw [hm _ (Qb hl)] at this
  exact ⟨_, this⟩
theorem RowsV.store {B n m i g : Nat} {w w' : World} {v s : Value} {sls : List Value} (h : RowsV B w v sls n m) (hs : sls[i]? = some s) (hg : s.ownBlock = some g) (ha : Agree (fun b => b = g) w w') (hr : ∃ xs, w'.ownsRow B 31 4 s m xs) : RowsV B w' v sls n m where
 own := zAe h.own ha fun b hb e => by
  subst e
  have := h.apart 0 (i + 1) v _ b rfl (by simpa using hs) hb hg
  omega
 len := h.len
 apart := h.apart
 row := fun k s2 hs2 => by
  by_cases hik : i = k
  ·subst hik
   rw [hs] at hs2
   cases hs2
   exact hr
  ·obtain ⟨xs, hx⟩ := h.row k s2 hs2
   refine ⟨xs, zAe hx ha fun b hb e => ?_⟩
   subst e
   have := h.apart (i + 1) (k + 1) s s2 b (by simpa using hs) (by simpa using hs2) hg hb
   omega
theorem RowsV.other {B n m g : Nat} {w w' : World} {v : Value} {sls : List Value} (h : RowsV B w v sls n m) (ha : Agree (fun b => b = g) w w') (hg : ∀ u ∈ v :: sls, u.ownBlock ≠ some g) : RowsV B w' v sls n m where
 own := zAe h.own ha fun b hb e => hg v List.mem_cons_self (by rw [hb, e])
 len := h.len
 apart := h.apart
 row := fun k s hs => by
  obtain ⟨xs, hx⟩ := h.row k s hs
  exact ⟨xs, zAe hx ha fun b hb e => hg s (List.mem_cons_of_mem _ (Qb hs)) (by rw [hb, e])⟩
theorem OwnW.rdpG {B : Nat} {w : World} {v : Value} {l : List (Vc × Value)} (h : OwnW B w v l) : RdP w v l :=
 ⟨zHm (ls := l.map cellsV) h.row (by rw [Qa]) (fun t ht => by obtain ⟨c, _, rfl⟩ := Qh.1 ht; rfl), fun t ht => ⟨Rd.of_owns (h.els t ht).1, (h.els t ht).2⟩⟩
theorem sver_any (id bt ba et ea : Int) (s1 s2 : Value) (l1 l2 : List (Vc × Value)) (w : World) (h1 : RdP w s1 l1) (h2 : RdP w s2 l2) (hr : l1.map Prod.fst = l2.map Prod.fst) (hl : l1.length <= 1000000) :
  Calls Tryz.prog 38 #[.agg #[.int .i64 id, s1, .int .i64 bt, .int .i64 ba, .int .i64 et, .int .i64 ea], .agg #[.int .i64 id, s2, .int .i64 bt, .int .i64 ba, .int .i64 et, .int .i64 ea]] w fun e w' => e = .returned (.bool true) ∧ Below w.heap.size w w' := by
 have hl2 : l2.length <= 1000000 := by have := congrArg List.length hr; rw [Qa, Qa] at this; omega
 have HS := Lib.hid (fun w' (h : Below w.heap.size w w') => zS4 s1 s2 (l1.map Prod.fst) (l2.map Prod.fst) w' ⟨l1, rfl, h1.kept h⟩ ⟨l2, rfl, h2.kept h⟩ (by rw [Qa]; exact hl) (by rw [Qa]; exact hl2))
 rw [hr, sameR_selfG] at HS
 obtain ⟨a1, c1, hs1⟩ := zC7 h1.1
 obtain ⟨a2, c2, hs2⟩ := zC7 h2.1
 rw [Qa] at hs1 hs2
 obtain ⟨n1, hn1⟩ : ∃ n1, n1 = l1.length := ⟨_, rfl⟩
 obtain ⟨n2, hn2⟩ : ∃ n2, n2 = l2.length := ⟨_, rfl⟩
 rw [<- hn1] at hs1
 rw [<- hn2] at hs2
 subst hs1 hs2
 clear hn1 hn2 h1 h2 hr hl hl2
 have i1 : (id == id) = true := beq_self_eq_true _
 have i2 : (bt == bt) = true := beq_self_eq_true _
 have i3 : (ba == ba) = true := beq_self_eq_true _
 have i4 : (et == et) = true := beq_self_eq_true _
 have i5 : (ea == ea) = true := beq_self_eq_true _
 go_enter Tryz.func38, Tryz.ntmps38
 go_wp2_with fail
 refine (HS.out _ (zA4 w _ _)).mono ?_
 rintro e w2 ⟨rfl, hb⟩
 have HB := Lib.hid (zAa (zA4 w _ _) hb)
 clear hb
 go_wp2_with fail
 go_ret
 exact ⟨rfl, HB.out⟩
end Go.Proofs.YtmpgnjhgegbdkaaGreat
