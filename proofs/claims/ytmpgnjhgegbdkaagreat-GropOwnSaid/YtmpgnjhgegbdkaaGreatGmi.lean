import Derived.Test.YtmpgnjhgegbdkaaGreatGme
set_option linter.unusedVariables false
set_option linter.unusedSimpArgs false
namespace Go.Proofs.YtmpgnjhgegbdkaaGreat
open Go.RowKit
open _root_.List renaming set_cons_succ -> Qa, map_cons -> Qb, flatten_cons -> Qc, length_map -> Qd, mem_map -> Qe, cons_append -> Qf, nil_append -> Qg, length_set -> Qh, mem_or_eq_of_mem_set -> Qi, getElem?_eq_getElem -> Ql
open _root_.Nat renaming le_refl -> Qj
open _root_.Bool renaming and_false -> Qk
structure VersB (B : Nat) (w : World) (v : Value) (L : List Ver) : Prop where
 own : w.ownsRow B 81 6 v L.length (L.map Ver.cells).flatten
 val : Free (fun b => v.ownBlock = some b) w fun w' => ∀ x ∈ L, RdP w' x.s x.l
theorem zQc (B : Nat) (w : World) : VersB B w (.slice none 0 0) [] := ⟨World.ownsRow_nil _ _ _ _, fun w' _ x hx => by cases hx⟩
theorem VersB.rd {B : Nat} {w : World} {v : Value} {L : List Ver} (h : VersB B w v L) : RdVs w v L :=
 ⟨zHm (ls := L.map Ver.cells) h.own (by rw [Qd]) (fun t ht => by obtain ⟨x, _, rfl⟩ := Qe.1 ht; rfl), h.val.now⟩
theorem VersB.keptB {B : Nat} {w w' : World} {v : Value} {L : List Ver} (h : VersB B w v L) (hb : Below w.heap.size w w') : VersB B w' v L :=
 ⟨zB7 h.own hb, h.val.to (zMj hb hb.size) (fun i hi hz => absurd hz (by omega)) (fun i hi hy => hy)⟩
theorem VersB.add {B n cap : Nat} {ao : Option Addr} {w w3 w4 : World} {o : Obj} {v4 : Value} {L : List Ver} {x : Ver} (h : VersB B w (.slice ao n cap) L) (hb : Below w.heap.size w w3)
  (hx : ∀ w', Above w.heap.size w3 w' -> RdP w' x.s x.l) (hg : (w3.alloc o).grownBy w4 (Value.slice ao n cap).ownBlock) (hn : ∀ b, v4.ownBlock = some b -> (Value.slice ao n cap).ownBlock = some b ∨ b = (w3.alloc o).heap.size)
  (h4 : w4.ownsRow B 81 6 v4 (L.length + 1) ((L.map Ver.cells).flatten ++ x.cells)) : VersB B w4 v4 (L ++ [x]) := by
 have hsz : (w3.alloc o).heap.size = w3.heap.size + 1 := by simp
 have hold : ∀ b, (Value.slice ao n cap).ownBlock = some b -> B <= b ∧ b < w.heap.size := h.own.lt
 have hag : Agree (fun b => (Value.slice ao n cap).ownBlock = some b) w w4 := (((Agree.refl _ w).thenBelow hb).alloc o).thenGrown hg fun i _ h => h
 have hag3 : Agree (fun b => (Value.slice ao n cap).ownBlock = some b) w3 w4 := (zCf _ w3 o).thenGrown hg fun i _ h => h
 have hnv : ∀ b, b < w3.heap.size -> v4.ownBlock = some b -> (Value.slice ao n cap).ownBlock = some b := fun b hb2 h2 => (hn b h2).resolve_right (by omega)
 refine ⟨?_, fun w' ha y hy => ?_⟩
 ·rw [List.length_append, List.map_append, List.flatten_append]
  simpa using h4
 ·rcases List.mem_append.1 hy with hy | hy
  ·exact (h.val.to hag (fun i _ h => h) (fun i hi h2 => hnv i (Nat.lt_of_lt_of_le hi hb.size) h2)) w' ha y hy
  ·rw [List.mem_singleton.1 hy]
   exact hx w' fun b h1 h2 => (ha.block b (by have := hag3.size; omega) (fun e => by have := (hold b (hnv b h2 e)).2; omega)).trans (hag3.block b h2 (fun e => by have := (hold b e).2; omega))
theorem zKa : ∀ (l : List Ver) (k : Nat) (x : Ver) (i : Int), l[k]? = some x -> ((l.map Ver.cells).flatten).set (k * 6) (.int .i64 i) = ((l.set k { x with id := i }).map Ver.cells).flatten
 | [], k, x, i, h => by simp at h
 | a :: r, 0, x, i, h => by
  have ha : a = x := by simpa using h
  subst ha
  simp [Ver.cells, Ver.sp]
 | a :: r, k + 1, x, i, h => by
  have ih := zKa r k x i (by simpa using h)
  rw [Qa, Qb, Qc, Qb, Qc, <- ih, show (k + 1) * 6 = k * 6 + 1 + 1 + 1 + 1 + 1 + 1 by omega]
  simp only [Ver.cells, Ver.sp, Qf, Qg, Qa]
theorem VersB.id {B g n cap k : Nat} {w : World} {L : List Ver} {x : Ver} (h : VersB B w (.slice (some ⟨g, 0, none⟩) n cap) L) (hn : L.length = n) (hx : L[k]? = some x) (i : Int) :
  VersB B (w.setCell ⟨g, k * 6, none⟩ (.int .i64 i)) (.slice (some ⟨g, 0, none⟩) n cap) (L.set k { x with id := i }) := by
 subst hn
 have hst := (h.own.stored (k * 6) (.int .i64 i)).1
 rw [zKa L k x i hx] at hst
 refine ⟨by rw [Qh]; exact hst, fun w' ha y hy => ?_⟩
 have hag : Agree (fun b => (Value.slice (some ⟨g, 0, none⟩) L.length cap).ownBlock = some b) w w' := (zBl (fun b => (Value.slice (some ⟨g, 0, none⟩) L.length cap).ownBlock = some b) w ⟨g, k * 6, none⟩ (.int .i64 i) rfl).trans ha
 rcases Qi hy with h1 | h1
 ·exact h.val w' hag y h1
 ·rw [h1]
  exact h.val w' hag x (List.mem_of_getElem? hx)
theorem zL6 : ∀ (l : List Ver) (k : Nat) (x : Ver), l[k]? = some x -> ((l.map Ver.cells).flatten).set (k * 6 + 1) (.slice none 0 0) = ((l.set k { x with s := .slice none 0 0, l := [] }).map Ver.cells).flatten
 | [], k, x, h => by simp at h
 | a :: r, 0, x, h => by
  have ha : a = x := by simpa using h
  subst ha
  simp [Ver.cells, Ver.sp]
 | a :: r, k + 1, x, h => by
  have ih := zL6 r k x (by simpa using h)
  rw [Qa, Qb, Qc, Qb, Qc, <- ih, show (k + 1) * 6 + 1 = (k * 6 + 1) + 1 + 1 + 1 + 1 + 1 + 1 by omega]
  simp only [Ver.cells, Ver.sp, Qf, Qg, Qa]
theorem VersB.norow {B g n cap k : Nat} {w : World} {L : List Ver} {x : Ver} (h : VersB B w (.slice (some ⟨g, 0, none⟩) n cap) L) (hn : L.length = n) (hx : L[k]? = some x) :
  VersB B (w.setCell ⟨g, k * 6 + 1, none⟩ (.slice none 0 0)) (.slice (some ⟨g, 0, none⟩) n cap) (L.set k { x with s := .slice none 0 0, l := [] }) := by
 subst hn
 have hst := (h.own.stored (k * 6 + 1) (.slice none 0 0)).1
 rw [zL6 L k x hx] at hst
 refine ⟨by rw [Qh]; exact hst, fun w' ha y hy => ?_⟩
 have hag : Agree (fun b => (Value.slice (some ⟨g, 0, none⟩) L.length cap).ownBlock = some b) w w' := (zBl (fun b => (Value.slice (some ⟨g, 0, none⟩) L.length cap).ownBlock = some b) w ⟨g, k * 6 + 1, none⟩ (.slice none 0 0) rfl).trans ha
 rcases Qi hy with h1 | h1
 ·exact h.val w' hag y h1
 ·rw [h1]
  exact ⟨RdS.nil _ _, fun t ht => by cases ht⟩
theorem zSr {K n : Nat} {w : World} {s : Value} {l : List (Vc × Value)} (h : w.ownsRow K 31 4 s n (l.map cellsV).flatten) (hn : n = l.length) (hv : ∀ t ∈ l, RdB K w t.2 t.1.b ∧ ∀ x ∈ t.1.b, x < 256) : ∀ w', Above K w w' -> RdP w' s l := fun w' ha => by
 subst hn
 exact ⟨zHm (ls := l.map cellsV) (zD9 h ha (Qj _)) (by rw [Qd]) (fun t ht => by obtain ⟨x, _, rfl⟩ := Qe.1 ht; rfl), fun t ht => ⟨(hv t ht).1.rd ha, (hv t ht).2⟩⟩
theorem zL7 {L : List Ver} {p : Nat} {a b : Ver} (ha : L[p]? = some a) (hb : L[p + 1]? = some b) (h : ¬ a.id < b.id) : risT L = false := by
 cases hr : risT L with
 | false => rfl
 | true =>
  have h1 := zIh L (p + 1 + 1) hr
  rw [zHj ha hb, decide_eq_false h, Qk] at h1
  cases h1
theorem zKb {L : List Ver} (h : ∀ (k : Nat) (x : Ver), L[k]? = some x -> x.id = (k : Int) + 1) : ∀ j, j <= L.length -> risT (L.take j) = true
 | 0, _ => rfl
 | 1, _ => by cases L <;> rfl
 | j + 2, hj => by
  have ha : L[j]? = some (L[j]'(by omega)) := Ql _
  have hb : L[j + 1]? = some (L[j + 1]'(by omega)) := Ql _
  rw [zHj ha hb, zKb h (j + 1) (by omega), Bool.true_and, decide_eq_true_eq, h _ _ ha, h _ _ hb]
  omega
theorem zDw {L : List Ver} (h : ∀ (k : Nat) (x : Ver), L[k]? = some x -> x.id = (k : Int) + 1) : risT L = true := by
 have := zKb h L.length (Qj _)
 rwa [List.take_length] at this
theorem zEi : ∀ (l : List (Int × Int × Int × Int)), (∀ s ∈ l, s = (0, 0, 0, 0)) -> liveT l = l.length
 | [], _ => rfl
 | a :: r, h => by
  have ih := zEi r fun s hs => h s (List.mem_cons_of_mem _ hs)
  have ha := h a List.mem_cons_self
  subst ha
  unfold liveT at ih ⊢
  rw [List.filter_cons]
  simpa using ih
theorem zOp {cols : List Co} {R : List (List Vc)} (h : ∀ r ∈ R, fitsR cols r = true) : rowsB cols R = (decide (0 < R.length) && decide (R.length <= 64)) := by
 unfold rowsB
 rw [List.all_eq_true.2 h, Bool.and_true]
theorem zQd {cols : List Co} {R : List (List Vc)} {r : List Vc} (hr : r ∈ R) (h : fitsR cols r = false) : rowsB cols R = false := by
 unfold rowsB
 rw [List.all_eq_false.2 ⟨r, hr, by rw [h]; decide⟩, Qk]
end Go.Proofs.YtmpgnjhgegbdkaaGreat
