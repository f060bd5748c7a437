import Derived.Test.YtmpgnjhgegbdkaaGreatSgj
import Derived.Test.YtmpgnjhgegbdkaaGreatSgn
set_option linter.unusedVariables false
set_option linter.unusedSimpArgs false
set_option maxRecDepth 100000
set_option maxHeartbeats 8000000
open Go.Lib (hid)
namespace Go.Proofs.YtmpgnjhgegbdkaaGreat
open Go.RowKit
open _root_.Array renaming getElem?_eq_some_iff -> Qa
open _root_.List renaming take_add_one -> Qb, length_map -> Qc, mem_singleton -> Qf, cons_append -> Qg, take_succ_cons -> Qh, map_append -> Qi, getElem?_map -> Qj, mem_map -> Qk, map_map -> Ql, mem_of_getElem? -> Qn, getElem?_eq_getElem -> Qo
open _root_.Option renaming toList_some -> Qd
open Go.RowKit.Below renaming refl -> Qe
open _root_.Bool renaming true_and -> Qm
open _root_.Nat renaming le_refl -> Qp
open Go renaming cell_of_row -> Qq, frozen_of_row -> Qr, heap_setCell_same -> Qs, heap_alloc_new -> Qt
theorem zB7 {w w' : World} {B sz n : Nat} {E : TypeId} {v : Value} {xs : List Value} (h : w.ownsRow B E sz v n xs) (hb : Below w.heap.size w w') : w'.ownsRow B E sz v n xs :=
 zAe (X := fun _ => False) h ⟨hb.os, hb.tape, hb.output, hb.size, fun i hi _ => hb.block i hi⟩ (fun _ _ h => h)
structure Ver where
 id : Int
 s : Value
 l : List (Vc × Value)
 bt : Int
 ba : Int
 et : Int
 ea : Int
def Ver.sp (v : Ver) : List Value := [.int .i64 v.bt, .int .i64 v.ba, .int .i64 v.et, .int .i64 v.ea]
def Ver.cells (v : Ver) : List Value := .int .i64 v.id :: v.s :: v.sp
def Ver.row (v : Ver) : List Vc := v.l.map Prod.fst
def RdVs (w : World) (v : Value) (L : List Ver) : Prop := RdS w 6 v (L.map Ver.cells) ∧ ∀ x ∈ L, RdP w x.s x.l
theorem RdVs.kept {w w' : World} {v : Value} {L : List Ver} (h : RdVs w v L) (hb : Below w.heap.size w w') : RdVs w' v L := ⟨h.1.kept hb, fun x hx => (h.2 x hx).kept hb⟩
def risT : List Ver -> Bool
 | [] => true
 | [_] => true
 | a :: b :: r => decide (a.id < b.id) && risT (b :: r)
def spc (s : Int × Int × Int × Int) : List Value := [.int .i64 s.1, .int .i64 s.2.1, .int .i64 s.2.2.1, .int .i64 s.2.2.2]
def Ver.sp4 (v : Ver) : Int × Int × Int × Int := (v.bt, v.ba, v.et, v.ea)
def GrpAt (K : Nat) (w : World) (G : Nat) (cols : List Co) (rows : List (List Vc)) (ids : List Int) (sps : List (Int × Int × Int × Int)) : Prop :=
 K <= G ∧ ∃ (K2 sg n ic tc : Nat) (ia ta : Option Addr), G < K2 ∧ n = ids.length ∧ n = sps.length ∧ w.heap[G]? = some (.cells #[.pointer (some ⟨sg, 0, none⟩), .slice ia n ic, .slice ta n tc] 94 (0, 0)) ∧ SegAt K2 w sg cols rows ∧
  w.ownsRow K 3 1 (.slice ia n ic) n (ids.map (Value.int .i64)) ∧ w.ownsRow K 79 4 (.slice ta n tc) n (sps.map spc).flatten ∧
  (∀ b, (Value.slice ia n ic).ownBlock = some b -> b < K2 ∧ b ≠ G ∧ (Value.slice ta n tc).ownBlock ≠ some b) ∧ (∀ b, (Value.slice ta n tc).ownBlock = some b -> b < K2 ∧ b ≠ G)
theorem GrpAt.kept {K G : Nat} {w w' : World} {cols : List Co} {rows : List (List Vc)} {ids : List Int} {sps : List (Int × Int × Int × Int)} (h : GrpAt K w G cols rows ids sps) (hb : Below w.heap.size w w') : GrpAt K w' G cols rows ids sps := by
 obtain ⟨h0, K2, sg, n, ic, tc, ia, ta, h1, h2, h2b, h3, h4, h5, h6, h7⟩ := h
 exact ⟨h0, K2, sg, n, ic, tc, ia, ta, h1, h2, h2b, (hb.block G (Qa.1 h3).1).trans h3, h4.kept hb, zB7 h5 hb, zB7 h6 hb, h7⟩
theorem zJ3 : ∀ (L : List Ver) (a b : Ver), L.getLast? = some a -> risT (L ++ [b]) = (risT L && decide (a.id < b.id))
 | [], a, b, h => by cases h
 | [x], a, b, h => by
  simp only [List.getLast?_singleton, Option.some.injEq] at h
  subst h
  simp [risT]
 | x :: y :: r, a, b, h => by
  have ih := zJ3 (y :: r) a b (by rw [List.getLast?_cons_cons] at h; exact h)
  rw [Qg, Qg, risT, risT, <- Qg, ih, Bool.and_assoc]
theorem zHj {L : List Ver} {q : Nat} {a b : Ver} (ha : L[q]? = some a) (hb : L[q + 1]? = some b) : risT (L.take (q + 2)) = (risT (L.take (q + 1)) && decide (a.id < b.id)) := by
 rw [Qb (i := q + 1), hb, Qd]
 refine zJ3 _ a b ?_
 rw [Qb, ha, Qd, List.getLast?_append]
 rfl
theorem zIh : ∀ (L : List Ver) (q : Nat), risT L = true -> risT (L.take q) = true
 | [], q, _ => by simp [risT]
 | [x], 0, _ => rfl
 | [x], q + 1, _ => by simp [risT]
 | x :: y :: r, 0, _ => rfl
 | x :: y :: r, 1, _ => rfl
 | x :: y :: r, q + 2, h => by
  rw [risT, Bool.and_eq_true] at h
  have ih := zIh (y :: r) (q + 1) h.2
  rw [Qh, Qh, risT, h.1, Qm]
  rw [Qh] at ih
  exact ih
theorem zSp : Elm Tryz.prog 92 79 4 32 := zFw Tryz.underlying92 (show (Tryz.prog.info? 79).map (fun i => (i.zero, i.size, i.bytes)) = some (some (.agg #[.int .i64 0, .int .i64 0, .int .i64 0, .int .i64 0]), 4, 32) by kernel_rfl) rfl (by decide) (by decide)
def GmAt (g : Nat) (W : World) (L : List Ver) (q : Nat) (ra : Option Addr) (rc : Nat) (ka : Option Addr) (kc : Nat) (ta : Option Addr) (tc : Nat) (qi qs : Nat) (wr : World) : Prop :=
 wr.heap[g]? = some (.cells #[.pointer none, .slice ka qi kc, .slice ta qs tc] 94 (0, 0)) ∧ wr.ownsRow (g + 1) 27 1 (.slice ra q rc) q ((L.take q).map Ver.s) ∧ wr.ownsRow (g + 1) 3 1 (.slice ka qi kc) qi ((L.take qi).map fun x => .int .i64 x.id) ∧
  wr.ownsRow (g + 1) 79 4 (.slice ta qs tc) qs ((L.take qs).map Ver.sp).flatten ∧ (∀ b, (Value.slice ra q rc).ownBlock = some b -> (Value.slice ka qi kc).ownBlock ≠ some b ∧ (Value.slice ta qs tc).ownBlock ≠ some b) ∧
  (∀ b, (Value.slice ka qi kc).ownBlock = some b -> (Value.slice ta qs tc).ownBlock ≠ some b) ∧ Below g W wr ∧ g < W.heap.size
theorem GmAt.kept {g : Nat} {W : World} {L : List Ver} {q : Nat} {ra : Option Addr} {rc : Nat} {ka : Option Addr} {kc : Nat} {ta : Option Addr} {tc qi qs : Nat} {wr wx : World} (h : GmAt g W L q ra rc ka kc ta tc qi qs wr) (hb : Below wr.heap.size wr wx) : GmAt g W L q ra rc ka kc ta tc qi qs wx := by
 obtain ⟨h1, h2, h3, h4, h5, h6, h7, h8⟩ := h
 exact ⟨(hb.block g (Qa.1 h1).1).trans h1, zB7 h2 hb, zB7 h3 hb, zB7 h4 hb, h5, h6, h7.trans (hb.mono (by have := (Qa.1 h1).1; omega)), h8⟩
theorem zAw {g n cap : Nat} {w : World} {E : TypeId} {sz : Nat} {a : Option Addr} {xs : List Value} (h : w.ownsRow (g + 1) E sz (.slice a n cap) n xs) : ∀ b, (Value.slice a n cap).ownBlock = some b -> g + 1 <= b ∧ b < w.heap.size := h.lt
theorem GmAt.rows {g : Nat} {W : World} {L : List Ver} {q : Nat} {ra : Option Addr} {rc : Nat} {ka : Option Addr} {kc : Nat} {ta : Option Addr} {tc qi qs : Nat} {wr w4 : World} {ra' : Option Addr} {rc' : Nat} {x : Ver} (h : GmAt g W L q ra rc ka kc ta tc qi qs wr) (hx : L[q]? = some x)
  (hown : w4.ownsRow (g + 1) 27 1 (.slice ra' (q + 1) rc') (q + 1) ((L.take q).map Ver.s ++ [x.s])) (hg : wr.grownBy w4 (Value.slice ra q rc).ownBlock) (hn : ∀ b, (Value.slice ra' (q + 1) rc').ownBlock = some b -> (Value.slice ra q rc).ownBlock = some b ∨ wr.heap.size <= b) :
  GmAt g W L (q + 1) ra' rc' ka kc ta tc qi qs w4 := by
 obtain ⟨h1, h2, h3, h4, h5, h6, h7, h8⟩ := h
 have hgw := (Qa.1 h1).1
 have hag : Agree (fun b => (Value.slice ra q rc).ownBlock = some b) wr w4 := zC1 hg
 refine ⟨(hag.block g hgw (fun e => by have := (zAw h2 g e).1; omega)).trans h1, ?_, zAe h3 hag (fun b hb e => (h5 b e).1 hb), zAe h4 hag (fun b hb e => (h5 b e).2 hb), fun b hb => ?_, h6, h7.trans (hag.below (fun i hi e => by have := (zAw h2 i e).1; omega) (by omega)), h8⟩
 ·rw [Qb, hx, Qd, Qi]
  exact hown
 ·rcases hn b hb with e | e
  ·exact h5 b e
  ·exact ⟨fun k => by have := (zAw h3 b k).2; omega, fun k => by have := (zAw h4 b k).2; omega⟩
theorem GmAt.ids {g : Nat} {W : World} {L : List Ver} {q : Nat} {ra : Option Addr} {rc : Nat} {ka : Option Addr} {kc : Nat} {ta : Option Addr} {tc qi qs : Nat} {wr w4 : World} {ka' : Option Addr} {kc' : Nat} {x : Ver} (h : GmAt g W L q ra rc ka kc ta tc qi qs wr) (hx : L[qi]? = some x)
  (hown : w4.ownsRow (g + 1) 3 1 (.slice ka' (qi + 1) kc') (qi + 1) (((L.take qi).map fun x => .int .i64 x.id) ++ [.int .i64 x.id])) (hg : wr.grownBy w4 (Value.slice ka qi kc).ownBlock) (hn : ∀ b, (Value.slice ka' (qi + 1) kc').ownBlock = some b -> (Value.slice ka qi kc).ownBlock = some b ∨ wr.heap.size <= b) :
  GmAt g W L q ra rc ka' kc' ta tc (qi + 1) qs (w4.setCell ⟨g, 1, none⟩ (.slice ka' (qi + 1) kc')) := by
 obtain ⟨h1, h2, h3, h4, h5, h6, h7, h8⟩ := h
 have hgw := (Qa.1 h1).1
 have hag4 : Agree (fun b => (Value.slice ka qi kc).ownBlock = some b) wr w4 := zC1 hg
 have hg4 : w4.heap[g]? = some (.cells #[.pointer none, .slice ka qi kc, .slice ta qs tc] 94 (0, 0)) := (hag4.block g hgw (fun e => by have := (zAw h3 g e).1; omega)).trans h1
 have hag : Agree (fun b => b = g ∨ (Value.slice ka qi kc).ownBlock = some b) wr (w4.setCell ⟨g, 1, none⟩ (.slice ka' (qi + 1) kc')) := (hag4.mono fun _ _ e => .inr e).set ⟨g, 1, none⟩ _ (.inl (.inl rfl))
 refine ⟨Qs w4 g 1 _ _ _ hg4, zAe h2 hag (fun b hb e => ?_), ?_, zAe h4 hag (fun b hb e => ?_), fun b hb => ⟨fun k => ?_, (h5 b hb).2⟩, fun b hb => ?_, h7.trans (hag.below (fun i hi e => ?_) (by omega)), h8⟩
 ·rcases e with e | e
  ·have := (zAw h2 b hb).1; omega
  ·exact (h5 b hb).1 e
 ·rw [Qb, hx, Qd, Qi]
  exact zAe hown (zBl (fun b => b = g) w4 ⟨g, 1, none⟩ _ rfl) (fun b hb e => by have := (zAw hown b hb).1; omega)
 ·rcases e with e | e
  ·have := (zAw h4 b hb).1; omega
  ·exact h6 b e hb
 ·rcases hn b k with e | e
  ·exact (h5 b hb).1 e
  ·have := (zAw h2 b hb).2; omega
 ·rcases hn b hb with e | e
  ·exact h6 b e
  ·intro k
   have := (zAw h4 b k).2
   omega
 ·rcases e with e | e
  ·omega
  ·have := (zAw h3 i e).1; omega
theorem GmAt.sps {g : Nat} {W : World} {L : List Ver} {q : Nat} {ra : Option Addr} {rc : Nat} {ka : Option Addr} {kc : Nat} {ta : Option Addr} {tc qi qs : Nat} {wr w4 : World} {ta' : Option Addr} {tc' : Nat} {x : Ver} (h : GmAt g W L q ra rc ka kc ta tc qi qs wr) (hx : L[qs]? = some x)
  (hown : w4.ownsRow (g + 1) 79 4 (.slice ta' (qs + 1) tc') (qs + 1) (((L.take qs).map Ver.sp).flatten ++ x.sp)) (hg : wr.grownBy w4 (Value.slice ta qs tc).ownBlock) (hn : ∀ b, (Value.slice ta' (qs + 1) tc').ownBlock = some b -> (Value.slice ta qs tc).ownBlock = some b ∨ wr.heap.size <= b) :
  GmAt g W L q ra rc ka kc ta' tc' qi (qs + 1) (w4.setCell ⟨g, 2, none⟩ (.slice ta' (qs + 1) tc')) := by
 obtain ⟨h1, h2, h3, h4, h5, h6, h7, h8⟩ := h
 have hgw := (Qa.1 h1).1
 have hag4 : Agree (fun b => (Value.slice ta qs tc).ownBlock = some b) wr w4 := zC1 hg
 have hg4 : w4.heap[g]? = some (.cells #[.pointer none, .slice ka qi kc, .slice ta qs tc] 94 (0, 0)) := (hag4.block g hgw (fun e => by have := (zAw h4 g e).1; omega)).trans h1
 have hag : Agree (fun b => b = g ∨ (Value.slice ta qs tc).ownBlock = some b) wr (w4.setCell ⟨g, 2, none⟩ (.slice ta' (qs + 1) tc')) := (hag4.mono fun _ _ e => .inr e).set ⟨g, 2, none⟩ _ (.inl (.inl rfl))
 refine ⟨Qs w4 g 2 _ _ _ hg4, zAe h2 hag (fun b hb e => ?_), zAe h3 hag (fun b hb e => ?_), ?_, fun b hb => ⟨(h5 b hb).1, fun k => ?_⟩, fun b hb k => ?_, h7.trans (hag.below (fun i hi e => ?_) (by omega)), h8⟩
 ·rcases e with e | e
  ·have := (zAw h2 b hb).1; omega
  ·exact (h5 b hb).2 e
 ·rcases e with e | e
  ·have := (zAw h3 b hb).1; omega
  ·exact h6 b hb e
 ·rw [Qb, hx, Qd, Qi, List.flatten_append, List.map_cons, List.map_nil, List.flatten_cons, List.flatten_nil, List.append_nil]
  exact zAe hown (zBl (fun b => b = g) w4 ⟨g, 2, none⟩ _ rfl) (fun b hb e => by have := (zAw hown b hb).1; omega)
 ·rcases hn b k with e | e
  ·exact (h5 b hb).2 e
  ·have := (zAw h2 b hb).2; omega
 ·rcases hn b k with e | e
  ·exact h6 b hb e
  ·have := (zAw h3 b hb).2; omega
 ·rcases e with e | e
  ·omega
  ·have := (zAw h4 i e).1; omega
theorem zFh {w w5 : World} {o : Obj} {r : Option Nat} (h : (w.alloc o).drew.grownBy w5 r) : w.grownBy w5 r :=
 ⟨h.os, h.tape, h.output, Nat.le_trans (by show w.heap.size <= (w.alloc o).heap.size; simp) h.size, fun i hi hr => (h.block i (by show i < (w.alloc o).heap.size; simp; omega) hr).trans (heap_alloc_old w o hi)⟩
theorem zQa {w : World} {rv : Value} {L : List Ver} {B : Nat} (h : ∀ x ∈ L, RdP w x.s x.l) (hr : w.ownsRow B 27 1 rv L.length (L.map Ver.s)) : RdRs w rv (L.map Ver.l) := by
 refine ⟨L.map Ver.s, Rd.of_owns hr, by rw [Qc, Qc], fun i s l hs hl => ?_⟩
 rw [Qj] at hs hl
 cases hx : L[i]? with
 | none => rw [hx] at hs; cases hs
 | some x =>
  rw [hx] at hs hl
  cases hs
  cases hl
  exact h x (Qn hx)
theorem zJ4 (cols : List Co) (hsc : SchOk cols) (L : List Ver) (hL : L.length <= 1000) (hl6 : ∀ x ∈ L, x.l.length <= 1000) (hi : ∀ x ∈ L, ∀ t ∈ x.l, I64 t.1.n) (hbb : ∀ x ∈ L, ∀ t ∈ x.l, t.1.b.length <= 1000000) (sv lv : Value) (w : World) (hs : RdC w sv cols) (hr : RdVs w lv L) :
  Calls Tryz.prog 33 #[.agg #[sv], lv] w fun e w' =>
   (((risT L && rowsB cols (L.map Ver.row)) = true ∧ ∃ G, e = .returned (.tuple #[.pointer (some ⟨G, 0, none⟩), .bool true]) ∧ GrpAt w.heap.size w' G cols (L.map Ver.row) (L.map Ver.id) (L.map Ver.sp4)) ∨
    ((risT L && rowsB cols (L.map Ver.row)) = false ∧ e = .returned (.tuple #[.pointer none, .bool false]))) ∧ Below w.heap.size w w' := by
 obtain ⟨so, sc, rfl⟩ := zBs hs
 obtain ⟨la, lc, rfl⟩ : ∃ la lc, lv = .slice la L.length lc := by obtain ⟨ao, cap, hv, _⟩ := hr.1; exact ⟨ao, cap, by rw [hv, Qc]⟩
 obtain ⟨n, hn⟩ : ∃ n, n = L.length := ⟨_, rfl⟩
 obtain ⟨m, hm⟩ : ∃ m, m = cols.length := ⟨_, rfl⟩
 rw [<- hm] at hs ⊢
 rw [<- hn] at hr hL ⊢
 have HN := hid hn
 have HS := hid hs
 have HR := hid hr
 have HMK := hid (fun rv w1 (h1 : RdC w1 (.slice so m sc) cols) (h2 : RdRs w1 rv (L.map Ver.l)) => zRl cols hsc (L.map Ver.l) (by rw [Qc]; omega) (fun l hl => by obtain ⟨x, hx, rfl⟩ := Qk.1 hl; exact hl6 x hx) (fun l hl => by obtain ⟨x, hx, rfl⟩ := Qk.1 hl; exact hi x hx) (fun l hl => by obtain ⟨x, hx, rfl⟩ := Qk.1 hl; exact hbb x hx) (.slice so m sc) rv w1 h1 h2)
 rw [show (L.map Ver.l).map (fun l => l.map Prod.fst) = L.map Ver.row by rw [Ql]; rfl] at HMK
 clear hs hr hn hm hl6 hi hbb
 obtain ⟨W, hW⟩ : ∃ W : World, W = (w.alloc (.cells #[.slice so m sc] 24)).alloc (.cells #[.pointer none, .slice none 0 0, .slice none 0 0] 94) := ⟨_, rfl⟩
 obtain ⟨g, hg⟩ : ∃ g, g = w.heap.size + 1 := ⟨_, rfl⟩
 have hs1 : (w.alloc (.cells #[.slice so m sc] 24)).heap.size = g := by rw [hg]; simp
 have hgx : W.heap[g]? = some (.cells #[.pointer none, .slice none 0 0, .slice none 0 0] 94 (0, 0)) := by rw [hW, <- hs1]; exact Qt _ _
 have hsx : W.heap[w.heap.size]? = some (.cells #[.slice so m sc] 24 (0, 0)) := by rw [hW]; exact (heap_alloc_old _ _ (by simp)).trans (Qt w _)
 have HGX := hid hgx
 have HSX := hid hsx
 have HG := hid hg
 have HBW := hid (show Below w.heap.size w W by rw [hW]; exact zAl (zAd w _) _)
 go_enter Tryz.func33, Tryz.ntmps33
 go_upto_region 2 with (fail)
 rw [<- hg, <- hW]
 clear hW hs1 hgx hsx hg
 go_wp2_with fail
 go_loopw [7, 16] (fun rv i wr => ∃ (q : Nat) (ra ka ta : Option Addr) (rc kc tc : Nat), q <= n ∧ i = .int .i64 (q : Int) ∧ rv = .slice ra q rc ∧ risT (L.take q) = true ∧ GmAt g W L q ra rc ka kc ta tc q q wr) (fun _ i _ => n - (intOf i).toNat)
 case atStart => exact ⟨0, none, none, none, 0, 0, 0, Nat.zero_le _, rfl, rfl, by simp [risT], HGX.out, ⟨rfl, .inl ⟨rfl, rfl⟩⟩, ⟨rfl, .inl ⟨rfl, rfl⟩⟩, ⟨rfl, .inl ⟨rfl, rfl⟩⟩, (fun b h => by cases h), (fun b h => by cases h), Qe _ _, (Qa.1 HGX.out).1⟩
 case round =>
  obtain ⟨q, ra, ka, ta, rc, kc, tc, hq, rfl, rfl, hris, hgm⟩ := hrel
  have HRIS := hid hris
  have HGM := hid hgm
  have hbg : Below g W wr := hgm.2.2.2.2.2.2.1
  have HBR := hid (show Below w.heap.size w wr from HBW.out.trans (hbg.mono (by have := HG.out; omega)))
  have hgr := (Qa.1 hgm.1).1
  have HGR := hid hgr
  have x0 : wr.cell? ⟨w.heap.size, 0, none⟩ = some (.slice so m sc) := by rw [Qq wr _ 0 _ _ _ ((hbg.block w.heap.size (by have := HG.out; omega)).trans HSX.out)]; rfl
  obtain ⟨wo, hwo⟩ : ∃ wo : World, wo = wr := ⟨_, rfl⟩
  rw [<- hwo] at HGM HBR HGR x0 ⊢
  clear hris hgm hbg hgr hwo
  by_cases hlt : q < n
  ·have hlti : (q : Int) < (n : Int) := by omega
   have hq0 : (0 : Int) <= (q : Int) := by omega
   obtain ⟨x, hx⟩ : ∃ x, L[q]? = some x := ⟨_, Qo (by rw [<- HN.out]; exact hlt)⟩
   obtain ⟨b, off, rfl, hc⟩ := (HR.out.1.kept HBR.out).at (k := q) (t := x.cells) (by rw [Qj, hx]; rfl)
   have HX := hid hx
   obtain ⟨xid, xs, xl, bt, ba, et, ea⟩ := x
   have c0 : wo.cell? ⟨b, off + q * 6, none⟩ = some (.int .i64 xid) := hc 0 _ rfl
   have c1 : wo.cell? ⟨b, off + q * 6 + 1, none⟩ = some xs := hc 1 _ rfl
   have c2 : wo.cell? ⟨b, off + q * 6 + 2, none⟩ = some (.int .i64 bt) := hc 2 _ rfl
   have c3 : wo.cell? ⟨b, off + q * 6 + 3, none⟩ = some (.int .i64 ba) := hc 3 _ rfl
   have c4 : wo.cell? ⟨b, off + q * 6 + 4, none⟩ = some (.int .i64 et) := hc 4 _ rfl
   have c5 : wo.cell? ⟨b, off + q * 6 + 5, none⟩ = some (.int .i64 ea) := hc 5 _ rfl
   obtain ⟨xa, xc, hxs⟩ := zD2 (HR.out.2 _ (Qn hx))
   simp only at hxs
   obtain ⟨xn, hxn⟩ : ∃ xn, xn = xl.length := ⟨_, rfl⟩
   rw [<- hxn] at hxs
   have HXN := hid hxn
   clear hxn
   subst hxs
   obtain ⟨wv, hwv⟩ : ∃ wv : World, wv = wo.alloc (.cells #[.int .i64 xid, .slice xa xn xc, .int .i64 bt, .int .i64 ba, .int .i64 et, .int .i64 ea] 81) := ⟨_, rfl⟩
   obtain ⟨VB, hVB⟩ : ∃ VB, VB = wo.heap.size := ⟨_, rfl⟩
   have HXV := hid (show wv.heap[VB]? = some (.cells #[.int .i64 xid, .slice xa xn xc, .int .i64 bt, .int .i64 ba, .int .i64 et, .int .i64 ea] 81 (0, 0)) by rw [hwv, hVB]; exact Qt _ _)
   have HBV := hid (show Below wo.heap.size wo wv by rw [hwv]; exact zAd _ _)
   have HVG := hid (show g < VB by rw [hVB]; exact HGR.out)
   have HVS := hid hVB
   have HRP := hid (show 0 < q -> ∃ p y, q = p + 1 ∧ L[p]? = some y ∧ wv.cell? ⟨b, off + p * 6, none⟩ = some (.int .i64 y.id) from fun h => by
    obtain ⟨p, rfl⟩ : ∃ p, q = p + 1 := ⟨q - 1, by omega⟩
    obtain ⟨y, hy⟩ : ∃ y, L[p]? = some y := ⟨_, Qo (by have := HN.out; omega)⟩
    obtain ⟨b', off', he, hc'⟩ := (HR.out.1.kept HBR.out).at (k := p) (t := y.cells) (by rw [Qj, hy]; rfl)
    cases he
    refine ⟨p, y, rfl, hy, ?_⟩
    have h0 := hc' 0 _ rfl
    exact (HBV.out.cell (World.block_lt_of_cell? _ _ h0)).trans h0)
   go_upto_region 6 with (fail)
   rw [<- hwv, <- hVB]
   have v0 : wv.cell? ⟨VB, 0, none⟩ = some (.int .i64 xid) := by rw [Qq wv VB 0 _ _ _ HXV.out]; rfl
   have v1 : wv.cell? ⟨VB, 1, none⟩ = some (.slice xa xn xc) := by rw [Qq wv VB 1 _ _ _ HXV.out]; rfl
   clear hx hc c0 c1 c2 c3 c4 c5 hwv hVB x0
   obtain ⟨up, hup⟩ : ∃ up : Bool, risT (L.take (q + 1)) = up := ⟨_, rfl⟩
   have HUP := hid hup
   clear hup
   go_cut [33] (fun s wx => s = .bool (!up) ∧ Below wv.heap.size wv wx)
   case first =>
    by_cases h0 : q = 0
    ·have hgt : decide ((0 : Int) < (q : Int)) = false := by rw [decide_eq_false_iff_not]; omega
     have hgt2 : decide (0 < q) = false := by rw [decide_eq_false_iff_not]; omega
     have HUP2 := hid (show up = true from by
      rw [<- HUP.out, Qb, HX.out, h0]
      rfl)
     clear h0
     go_quiet (fail)
     go_wp2_with fail
     go_meet
     exact ⟨by rw [HUP2.out]; rfl, by first | exact below_draws (Qe _ _) _ | exact Qe _ _ | exact zAm _ _ | exact zB8 _ _ _⟩
    ·have hgt : decide ((0 : Int) < (q : Int)) = true := by rw [decide_eq_true_iff]; omega
     have hgt2 : decide (0 < q) = true := by rw [decide_eq_true_iff]; omega
     obtain ⟨p, y, hqp, hy, cy⟩ := HRP.out (by omega)
     have hle : decide (xid <= y.id) = !up := by
      have hup : up = decide (y.id < xid) := by
       subst hqp
       rw [<- HUP.out, zHj hy HX.out, HRIS.out, Qm]
      rw [hup, <- decide_not, decide_eq_decide]
      omega
     have hw1 : IntKind.i64.wrap ((q : Int) - 1) = (p : Int) := by rw [IntWalk.i64_in _ (by omega)]; omega
     have hp0 : (0 : Int) <= (p : Int) := by omega
     have hpn : (p : Int) < (n : Int) := by omega
     have HLE := hid hle
     clear hy hle hqp h0
     go_quiet (fail)
     go_wp2_with fail
     go_meet
     exact ⟨by first | exact congrArg Value.bool HLE.out | rw [<- HLE.out], by first | exact below_draws (Qe _ _) _ | exact Qe _ _ | exact zAm _ _ | exact zB8 _ _ _⟩
   case rest =>
    obtain ⟨rfl, hb1⟩ := hcut
    obtain ⟨w1, hw1⟩ : ∃ w1 : World, w1 = wc := ⟨_, rfl⟩
    rw [<- hw1] at hb1 ⊢
    have HGM1 := hid ((HGM.out.kept HBV.out).kept hb1)
    have HXV1 := hid ((hb1.block VB (Qa.1 HXV.out).1).trans HXV.out)
    have HBR1 := hid (zAa (zAa HBR.out HBV.out) hb1)
    have HV1 := hid (show ∀ b, (Value.slice ra q rc).ownBlock = some b ∨ (Value.slice ka q kc).ownBlock = some b ∨ (Value.slice ta q tc).ownBlock = some b -> b < VB from fun b h => by
     have hv : VB = wo.heap.size := HVS.out
     rcases h with h | h | h
     ·have := (zAw HGM.out.2.1 b h).2; omega
     ·have := (zAw HGM.out.2.2.1 b h).2; omega
     ·have := (zAw HGM.out.2.2.2.1 b h).2; omega)
    clear hw1 hb1 v0 v1
    cases up with
    | false =>
     have HNO := hid (show (risT L && rowsB cols (L.map Ver.row)) = false from by
      cases hr : risT L with
      | false => rfl
      | true =>
       have := zIh L (q + 1) hr
       rw [HUP.out] at this
       cases this)
     go_wp2_with fail
     go_ret2
     exact ⟨.inr ⟨HNO.out, rfl⟩, HBR1.out⟩
    | true =>
     have v1 : w1.cell? ⟨VB, 1, none⟩ = some (.slice xa xn xc) := by rw [Qq w1 VB 1 _ _ _ HXV1.out]; rfl
     have HRD := hid (zBa w1 #[.slice xa xn xc] 27 1 rfl)
     have HON := hid (show Ones 1 [[Value.slice xa xn xc]] from fun t ht => by rw [Qf.1 ht]; exact ⟨rfl, fun u hu => by rw [Qf.1 hu]; rfl⟩)
     have HOWN := hid (show (w1.alloc (.cells #[.slice xa xn xc] 27)).ownsRow (g + 1) 27 1 (.slice ra q rc) q ((L.take q).map Ver.s) from HGM1.out.2.1.alloc _)
     have hgw1 := (Qa.1 HGM1.out.1).1
     have HSZ := hid (show g + 1 <= (w1.alloc (.cells #[.slice xa xn xc] 27)).heap.size by simp; omega)
     have HVW := hid (Qa.1 HXV1.out).1
     clear hgw1
     go_upto_region 9 with (at_builtin; go_must (refine zAf zNa rfl _ _ rfl (g + 1) _ _ _ rfl HOWN.out _ [[.slice xa xn xc]] rfl HRD.out HON.out (by simp; omega) HSZ.out (q + 1) rfl ?_); intro ra4 rc4 w4 hown4 hgrow4 hnew4; have HO4 := hid hown4; have HG4 := hid hgrow4; have HN4 := hid hnew4; clear hown4 hgrow4 hnew4)
     have HGM4 := hid (HGM1.out.rows HX.out HO4.out (zAc (World.grownBy_alloc w1 _ _) HG4.out) (fun b hb => (HN4.out b hb).imp id fun e => by rw [e]; simp))
     have hx4 : w4.heap[VB]? = some (.cells #[.int .i64 xid, .slice xa xn xc, .int .i64 bt, .int .i64 ba, .int .i64 et, .int .i64 ea] 81 (0, 0)) := (HG4.out.block VB (by have := HVW.out; simp; omega) (fun e => by have := HV1.out VB (.inl e.symm); omega)).trans ((heap_alloc_old w1 _ HVW.out).trans HXV1.out)
     have HX4 := hid hx4
     have hg4 := HGM4.out.1
     have g1 : w4.cell? ⟨g, 1, none⟩ = some (.slice ka q kc) := by rw [Qq w4 g 1 _ _ _ hg4]; rfl
     have v0 : w4.cell? ⟨VB, 0, none⟩ = some (.int .i64 xid) := by rw [Qq w4 VB 0 _ _ _ hx4]; rfl
     have HLT := hid (zBa w4 #[.int .i64 xid] 3 1 rfl)
     have HONI := hid (show Ones 1 [[Value.int .i64 xid]] from fun t ht => by rw [Qf.1 ht]; exact ⟨rfl, fun u hu => by rw [Qf.1 hu]; rfl⟩)
     have hgs4 : g < w4.heap.size := (Qa.1 hg4).1
     have HGS4 := hid hgs4
     have HSZ4 := hid (show g + 1 <= (w4.alloc (.cells #[.int .i64 xid] 3)).heap.size by simp; omega)
     have g1a : (w4.alloc (.cells #[.int .i64 xid] 3)).cell? ⟨g, 1, none⟩ = some (.slice ka q kc) := by rw [Qq _ g 1 _ _ _ ((heap_alloc_old w4 _ hgs4).trans hg4)]; rfl
     clear hx4 hg4 hgs4 v1
     go_cut [45] (fun v wx => ∃ (kb : Option Addr) (kd : Nat), v = .int .i64 xid ∧ GmAt g W L (q + 1) ra4 rc4 kb kd ta tc (q + 1) q wx ∧ wx.heap[VB]? = some (.cells #[.int .i64 xid, .slice xa xn xc, .int .i64 bt, .int .i64 ba, .int .i64 et, .int .i64 ea] 81 (0, 0)))
     case first =>
      go_region_law
       ((refine zBc zLx (by rfl) _ _ (by rfl) (g + 1) (.slice ka q kc) q ((L.take q).map fun x => .int .i64 x.id) (by rfl) ((HGM4.out.2.2.1.alloc _).drew) _ [[.int .i64 xid]] (by rfl) HLT.out HONI.out (by simp; omega) HSZ4.out (q + 1) rfl ?_; intro kb kd w5 hown5 hgrow5 hnew5;
         have hg5 : w5.heap[g]? = some (.cells #[.pointer none, .slice ka q kc, .slice ta q tc] 94 (0, 0)) := ((zFh hgrow5).block g HGS4.out (fun h => by have := (zAw HGM4.out.2.2.1 g h.symm).1; omega)).trans HGM4.out.1;
         have f5 : w5.frozen? ⟨g, 1, none⟩ = false := Qr w5 g 1 _ _ hg5;
         have d5 : w5.cell? ⟨g, 1, none⟩ = some (.slice ka q kc) := by rw [Qq w5 g 1 _ _ _ hg5]; rfl))
      all_goals
       go_wp2_with fail
       go_meet
       have hgl := zFh hgrow5
       refine ⟨kb, kd, rfl, HGM4.out.ids HX.out hown5 hgl (fun b hb => (hnew5 b hb).imp id fun e => by rw [e]; show w4.heap.size <= (w4.alloc _).heap.size; simp), ?_⟩
       exact (heap_setCell_other w5 ⟨g, 1, none⟩ VB _ (by show VB ≠ g; have := HVG.out; omega)).trans ((hgl.block VB (Qa.1 HX4.out).1 (fun e => by have := HV1.out VB (.inr (.inl e.symm)); omega)).trans HX4.out)
     case rest =>
      obtain ⟨kb, kd, rfl, hgm6, hx6⟩ := hcut
      obtain ⟨w6, hw6⟩ : ∃ w6 : World, w6 = wc := ⟨_, rfl⟩
      rw [<- hw6] at hgm6 hx6 ⊢
      have HGM6 := hid hgm6
      have HX6 := hid hx6
      have hg6 := hgm6.1
      have HGS6 := hid (Qa.1 hg6).1
      have g2 : w6.cell? ⟨g, 2, none⟩ = some (.slice ta q tc) := by rw [Qq w6 g 2 _ _ _ hg6]; rfl
      have k2 : w6.cell? ⟨VB, 2, none⟩ = some (.int .i64 bt) := by rw [Qq w6 VB 2 _ _ _ hx6]; rfl
      have k3 : w6.cell? ⟨VB, 3, none⟩ = some (.int .i64 ba) := by rw [Qq w6 VB 3 _ _ _ hx6]; rfl
      have k4 : w6.cell? ⟨VB, 4, none⟩ = some (.int .i64 et) := by rw [Qq w6 VB 4 _ _ _ hx6]; rfl
      have k5 : w6.cell? ⟨VB, 5, none⟩ = some (.int .i64 ea) := by rw [Qq w6 VB 5 _ _ _ hx6]; rfl
      have HLS := hid (zBa w6 #[.int .i64 bt, .int .i64 ba, .int .i64 et, .int .i64 ea] 79 4 rfl)
      have HONS := hid (show Ones 4 [[Value.int .i64 bt, .int .i64 ba, .int .i64 et, .int .i64 ea]] from fun t ht => by rw [Qf.1 ht]; exact ⟨rfl, fun u hu => by simp only [List.mem_cons, List.not_mem_nil, or_false] at hu; rcases hu with rfl | rfl | rfl | rfl <;> rfl⟩)
      have HSZ6 := hid (show g + 1 <= (w6.alloc (.cells #[.int .i64 bt, .int .i64 ba, .int .i64 et, .int .i64 ea] 79)).heap.size by have := HGS6.out; simp; omega)
      have g2a : (w6.alloc (.cells #[.int .i64 bt, .int .i64 ba, .int .i64 et, .int .i64 ea] 79)).cell? ⟨g, 2, none⟩ = some (.slice ta q tc) := by rw [Qq _ g 2 _ _ _ ((heap_alloc_old w6 _ HGS6.out).trans hg6)]; rfl
      clear hw6 hgm6 hx6 hg6 v0 g1 g1a
      go_upto_region 10 with (fail)
      go_region_law
       ((refine zBc zSp (by rfl) _ _ (by rfl) (g + 1) (.slice ta q tc) q ((L.take q).map Ver.sp).flatten (by rfl) ((HGM6.out.2.2.2.1.alloc _).drew) _ [[.int .i64 bt, .int .i64 ba, .int .i64 et, .int .i64 ea]] (by rfl) HLS.out HONS.out (by simp; omega) HSZ6.out (q + 1) rfl ?_; intro tb td w7 hown7 hgrow7 hnew7;
         have hg7 : w7.heap[g]? = some (.cells #[.pointer none, .slice kb (q + 1) kd, .slice ta q tc] 94 (0, 0)) := ((zFh hgrow7).block g HGS6.out (fun h => by have := (zAw HGM6.out.2.2.2.1 g h.symm).1; omega)).trans HGM6.out.1;
         have f7 : w7.frozen? ⟨g, 2, none⟩ = false := Qr w7 g 2 _ _ hg7;
         have d7 : w7.cell? ⟨g, 2, none⟩ = some (.slice ta q tc) := by rw [Qq w7 g 2 _ _ _ hg7]; rfl))
      all_goals
       go_wp2_with fail
       go_roundw
       case rel =>
        refine ⟨q + 1, ra4, kb, tb, rc4, kd, td, by omega, by go_num, rfl, HUP.out, ?_⟩
        refine HGM6.out.sps HX.out ?_ (zFh hgrow7) (fun b hb => (hnew7 b hb).imp id fun e => by rw [e]; show w6.heap.size <= (w6.alloc _).heap.size; simp)
        simpa [Ver.sp] using hown7
       case measure => simp [intOf]; omega
  ·have hqn : q = n := by omega
   subst hqn
   have hlti : ¬ (q : Int) < (q : Int) := by omega
   have hg3 := HGM.out.1
   have HTK := hid (show L.take q = L from List.take_of_length_le (by rw [<- HN.out]; exact Qp _))
   have HCALL := hid (HMK.out (.slice ra q rc) wo (RdC.kept HS.out HBR.out) (zQa (B := g + 1) (fun x hx => (HR.out.2 x hx).kept HBR.out) (by have h := HGM.out.2.1; rw [HTK.out] at h; rw [<- HN.out]; exact h)))
   clear hg3
   go_wp2_with fail
   refine HCALL.out.mono ?_
   rintro e w5 ⟨h | h, hb5⟩
   ·obtain ⟨hyes, sg, rfl, hseg⟩ := h
    have HSEG := hid hseg
    have HB5 := hid (zAa HBR.out hb5)
    have HGM5 := hid (HGM.out.kept hb5)
    have HYES := hid (show (risT L && rowsB cols (L.map Ver.row)) = true by rw [hyes, Bool.and_true, <- HTK.out]; exact HRIS.out)
    have hg5 := HGM5.out.1
    have f5 : w5.frozen? ⟨g, 0, none⟩ = false := Qr w5 g 0 _ _ hg5
    have d5 : w5.cell? ⟨g, 0, none⟩ = some (.pointer none) := by rw [Qq w5 g 0 _ _ _ hg5]; rfl
    clear hyes hseg hb5 hg5
    go_wp2_with fail
    go_ret2
    refine ⟨.inl ⟨HYES.out, g, rfl, by have := HG.out; omega, wo.heap.size, sg, q, kc, tc, ka, ta, HGR.out, by rw [Qc, <- HN.out], by rw [Qc, <- HN.out], Qs w5 g 0 _ _ _ HGM5.out.1, HSEG.out.above (zCn (Above.refl _ _) _ _ HGR.out) (by simp [World.setCell]) (Qp _), ?_, ?_, fun b hb => ?_, fun b hb => ?_⟩, HB5.out.setCell (p := ⟨g, 0, none⟩) (by show _ <= g; have := HG.out; omega) _⟩
    ·have h := HGM5.out.2.2.1
     rw [HTK.out] at h
     have h2 := Joins.ownsRow_le h (show w.heap.size <= g + 1 by have := HG.out; omega)
     rw [Ql]
     exact zAe h2 (zBl (fun b => b = g) w5 ⟨g, 0, none⟩ _ rfl) (fun b hb e => by have := (zAw h b hb).1; omega)
    ·have h := HGM5.out.2.2.2.1
     rw [HTK.out] at h
     have h2 := Joins.ownsRow_le h (show w.heap.size <= g + 1 by have := HG.out; omega)
     rw [show (L.map Ver.sp4).map spc = L.map Ver.sp by rw [Ql]; rfl]
     exact zAe h2 (zBl (fun b => b = g) w5 ⟨g, 0, none⟩ _ rfl) (fun b hb e => by have := (zAw h b hb).1; omega)
    ·have := zAw HGM.out.2.2.1 b hb
     exact ⟨this.2, by omega, HGM.out.2.2.2.2.2.1 b hb⟩
    ·have := zAw HGM.out.2.2.2.1 b hb
     exact ⟨this.2, by omega⟩
   ·obtain ⟨hno, rfl⟩ := h
    have HB5 := hid (zAa HBR.out hb5)
    have HNO := hid (show (risT L && rowsB cols (L.map Ver.row)) = false by rw [hno, Bool.and_false])
    clear hno hb5
    go_wp2_with fail
    go_ret2
    exact ⟨.inr ⟨HNO.out, rfl⟩, HB5.out⟩
end Go.Proofs.YtmpgnjhgegbdkaaGreat
