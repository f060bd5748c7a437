/-
  What the walks stand on.
  Contract of layer 6's Schema: a schema that may be.
  Slices of things of some cells each, as they read; values, rows of them, schemas.
  Plain: orders told by -1, 0, 1; those of values and of rows.
  Contracts: bytes.Compare, cmp.Compare at int64, schm.Compare, schm.Rows.
  Contract of layer 6's Value.
  Contracts: schm.Compare, Rows, fits, Fits; the reference's SameVal, SameRow.
  Contracts: the reference's SameVal, SameRow; schm.Rows, schm.Fits.
  Contracts: the reference's SameRow; how values lie.
  Contracts: slices.CompareFunc at values, schm.Rows.
  Contract of schm.Fits.
  Contract of layer 6's Row.
  Plain: rows of numbers are such as may be; their order.
-/
import Derived.Test.YtjcmekhamohbnaaRows
import Derived.Test.YtjcmekhamohbnaaLone
import Derived.WalkSpells
import Derived.WalkLawsBesides
import Derived.BigQuiet
import Derived.IntWalk
import Derived.Lib.Hide
import Derived.OwnWalk
import Derived.Deep.RegionHeld3
import Derived.Deep.AppendLies
import Derived.Deep.RegionLaw
import Derived.BigRegion
import Derived.RegionTactic
import Derived.Shelf.Slices.Clone
import Derived.StillTactics
import Derived.Laws.Pointers
import Derived.Lib.BytesEntry
import Derived.Laws.IdiomStrings
import Derived.Lib.BufferRead
import Derived.Lib.SmallJoins
namespace Go.Proofs.Ytjcmekhamohbnaa
set_option linter.unusedVariables false
open Go.RowKit


theorem own_base {w : World} {B : Nat} {E : TypeId} {size n : Nat} {v : Value} {xs : List Value} (h : w.ownsRow B E size v n xs) : ∀ k, v.ownBlock = some k → B ≤ k := by
  intro k hk
  rcases h.2 with ⟨rfl, _⟩ | ⟨g, cap, cur, rfl, hbg, _⟩
  · cases hk
  · have h2 : g = k := by simpa [Value.ownBlock] using hk
    omega

theorem rdz_cells {w : World} {ao : Option Addr} {len cap : Nat} {xs : List Int} (h : Rd w (.slice ao len cap) (xs.map (Value.int .i64))) :
    len = xs.length ∧ (0 < len → ∃ b off, ao = some ⟨b, off, none⟩ ∧ ∀ i, i < len → w.cell? ⟨b, off + i, none⟩ = some (.int .i64 (xs.getD i 0))) := by
  obtain ⟨ao', cap', hv, _, hc⟩ := h
  simp only [List.length_map, Value.slice.injEq] at hv hc
  obtain ⟨rfl, hl, rfl⟩ := hv
  refine ⟨hl, fun hp => ?_⟩
  obtain ⟨b, off, ha, hcell⟩ := hc (by omega)
  refine ⟨b, off, ha, fun i hi => ?_⟩
  have := hcell i (by omega)
  rw [this, List.getD_eq_getElem?_getD, List.getElem?_map, List.getD_eq_getElem?_getD, List.getElem?_eq_getElem (show i < xs.length by omega)]
  rfl

end Go.Proofs.Ytjcmekhamohbnaa

namespace Go.Proofs.Ytjcmekhamohbnaa
set_option linter.unusedVariables false
open Go.RowKit

structure Co where
  n : ByteArray
  k : Int
  u : Bool
def Co.cells (c : Co) : List Value := [.string c.n, .int .i64 c.k, .bool c.u]
end Go.Proofs.Ytjcmekhamohbnaa

namespace Go.Proofs.Ytjcmekhamohbnaa
set_option linter.unusedVariables false
open Go.RowKit

def RdS (w : World) (sz : Nat) (v : Value) (ls : List (List Value)) : Prop :=
  ∃ ao cap, v = .slice ao ls.length cap ∧ ((ao = none → cap = 0) ∧ ls.length ≤ cap) ∧
    ∀ k t, ls[k]? = some t → ∃ b off, ao = some ⟨b, off, none⟩ ∧ ∀ j u, t[j]? = some u → w.cell? ⟨b, off + k * sz + j, none⟩ = some u

theorem RdS.kept {w w' : World} {sz : Nat} {v : Value} {ls : List (List Value)} (h : RdS w sz v ls) (hb : Below w.heap.size w w') : RdS w' sz v ls := by
  obtain ⟨ao, cap, hv, hn, hc⟩ := h
  refine ⟨ao, cap, hv, hn, fun k t ht => ?_⟩
  obtain ⟨b, off, ha, hcell⟩ := hc k t ht
  refine ⟨b, off, ha, fun j u hu => ?_⟩
  have h1 := hcell j u hu
  exact (hb.cell (p := ⟨b, off + k * sz + j, none⟩) (World.block_lt_of_cell? _ _ h1)).trans h1

theorem flatten_at : ∀ (ls : List (List Value)) (sz : Nat), (∀ t ∈ ls, t.length = sz) → ∀ k t j u, ls[k]? = some t → t[j]? = some u → ls.flatten[k * sz + j]? = some u
  | [], _, _, k, t, j, u, hk, _ => by simp at hk
  | x :: r, sz, hl, 0, t, j, u, hk, hj => by
    simp only [List.getElem?_cons_zero, Option.some.injEq] at hk
    subst hk
    rw [List.flatten_cons, Nat.zero_mul, Nat.zero_add, List.getElem?_append_left (List.getElem?_eq_some_iff.1 hj).1]
    exact hj
  | x :: r, sz, hl, k + 1, t, j, u, hk, hj => by
    rw [List.getElem?_cons_succ] at hk
    have hx := hl x List.mem_cons_self
    rw [List.flatten_cons, List.getElem?_append_right (by rw [hx, Nat.add_mul]; omega), hx, show (k + 1) * sz + j - sz = k * sz + j by rw [Nat.add_mul]; omega]
    exact flatten_at r sz (fun t ht => hl t (List.mem_cons_of_mem _ ht)) k t j u hk hj

theorem flatten_len (ls : List (List Value)) (sz : Nat) (h : ∀ t ∈ ls, t.length = sz) : ls.flatten.length = ls.length * sz := by
  induction ls with
  | nil => simp
  | cons x r ih => rw [List.flatten_cons, List.length_append, ih (fun t ht => h t (List.mem_cons_of_mem _ ht)), h x List.mem_cons_self, List.length_cons, Nat.add_mul]; omega

theorem RdS.at {w : World} {sz : Nat} {ao : Option Addr} {len cap : Nat} {ls : List (List Value)} (h : RdS w sz (.slice ao len cap) ls) {k : Nat} {t : List Value} (hk : ls[k]? = some t) :
    ∃ b off, ao = some ⟨b, off, none⟩ ∧ ∀ j u, t[j]? = some u → w.cell? ⟨b, off + k * sz + j, none⟩ = some u := by
  obtain ⟨ao', cap', hv, _, hc⟩ := h
  simp only [Value.slice.injEq] at hv
  rw [hv.1]
  exact hc k t hk

theorem RdS.nil (w : World) (sz : Nat) : RdS w sz (.slice none 0 0) [] := ⟨none, 0, rfl, ⟨fun _ => rfl, by simp⟩, fun k t h => by simp at h⟩

/-! Columns. -/
def RdC (w : World) (v : Value) (l : List Co) : Prop := RdS w 3 v (l.map Co.cells)
def Co.agg (c : Co) : Value := .agg #[.string c.n, .int .i64 c.k, .bool c.u]

/-! Values. -/
structure Vc where
  u : Bool
  k : Int
  n : Int
  b : List Nat
def cellsV (p : Vc × Value) : List Value := [.bool p.1.u, .int .i64 p.1.k, .int .i64 p.1.n, p.2]
def OkV (w : World) (p : Vc × Value) : Prop := Rd w p.2 (p.1.b.map u8v) ∧ ∀ x ∈ p.1.b, x < 256
theorem OkV.kept {w w' : World} {p : Vc × Value} (h : OkV w p) (hb : Below w.heap.size w w') : OkV w' p := ⟨h.1.kept hb, h.2⟩
def RdP (w : World) (v : Value) (l : List (Vc × Value)) : Prop := RdS w 4 v (l.map cellsV) ∧ ∀ t ∈ l, OkV w t
theorem RdP.kept {w w' : World} {v : Value} {l : List (Vc × Value)} (h : RdP w v l) (hb : Below w.heap.size w w') : RdP w' v l := ⟨h.1.kept hb, fun t ht => (h.2 t ht).kept hb⟩
def RdRow (w : World) (v : Value) (cs : List Vc) : Prop := ∃ l : List (Vc × Value), l.map Prod.fst = cs ∧ RdP w v l
theorem RdRow.kept {w w' : World} {v : Value} {cs : List Vc} (h : RdRow w v cs) (hb : Below w.heap.size w w') : RdRow w' v cs := by
  obtain ⟨l, h1, h2⟩ := h
  exact ⟨l, h1, h2.kept hb⟩
end Go.Proofs.Ytjcmekhamohbnaa

namespace Go.Proofs.Ytjcmekhamohbnaa
set_option linter.unusedVariables false
open Go.RowKit

structure Cmp3 {α : Type} (f : α → α → Int) : Prop where
  anti : ∀ a b, f b a = - f a b
  tri : ∀ a b, f a b = -1 ∨ f a b = 0 ∨ f a b = 1
  eq : ∀ a b, f a b = 0 ↔ a = b
  tr : ∀ a b c, f a b ≤ 0 → f b c ≤ 0 → f a c ≤ 0 ∧ (f a c = 0 → f a b = 0 ∧ f b c = 0)

def cmpZ (a b : Int) : Int := if a < b then -1 else if b < a then 1 else 0
theorem cmpZ_ok : Cmp3 cmpZ := by
  refine ⟨fun a b => ?_, fun a b => ?_, fun a b => ?_, fun a b c => ?_⟩ <;> unfold cmpZ
  · split <;> split <;> (try split) <;> omega
  · split <;> (try split) <;> omega
  · split <;> (try split) <;> omega
  · repeat' split
    all_goals omega

def lexL {α : Type} (f : α → α → Int) : List α → List α → Int
  | [], [] => 0
  | [], _ :: _ => -1
  | _ :: _, [] => 1
  | a :: x, b :: y => if f a b = 0 then lexL f x y else f a b

theorem lexL_ok {α : Type} {f : α → α → Int} (h : Cmp3 f) : Cmp3 (lexL f) := by
  refine ⟨?_, ?_, ?_, ?_⟩
  · intro a
    induction a with
    | nil => intro b; cases b <;> rfl
    | cons x l ih =>
      intro b
      cases b with
      | nil => rfl
      | cons y r =>
        unfold lexL
        rw [h.anti x y, ih r]
        split <;> split <;> omega
  · intro a
    induction a with
    | nil => intro b; cases b <;> simp [lexL]
    | cons x l ih =>
      intro b
      cases b with
      | nil => simp [lexL]
      | cons y r =>
        unfold lexL
        split
        · exact ih r
        · exact h.tri x y
  · intro a
    induction a with
    | nil => intro b; cases b <;> simp [lexL]
    | cons x l ih =>
      intro b
      cases b with
      | nil => simp [lexL]
      | cons y r =>
        unfold lexL
        rw [List.cons.injEq, ← h.eq x y, ← ih r]
        split <;> rename_i hx <;> simp [hx]
  · intro a
    induction a with
    | nil => intro b c; cases b <;> cases c <;> simp [lexL]
    | cons x l ih =>
      intro b c
      cases b with
      | nil => cases c <;> simp [lexL]
      | cons y r =>
        cases c with
        | nil => simp [lexL]
        | cons z s =>
          have h1 := h.tr x y z
          have h2 := ih r s
          unfold lexL
          by_cases e1 : f x y = 0
          · have e1' := (h.eq x y).1 e1
            subst e1'
            rw [if_pos e1]
            by_cases e2 : f x z = 0
            · rw [if_pos e2, if_pos e2]; exact h2
            · rw [if_neg e2, if_neg e2]
              intro _ k2
              exact ⟨k2, fun k3 => absurd k3 e2⟩
          · rw [if_neg e1]
            by_cases e2 : f y z = 0
            · have e2' := (h.eq y z).1 e2
              subst e2'
              rw [if_pos e2, if_neg e1]
              intro k1 _
              exact ⟨k1, fun k3 => absurd k3 e1⟩
            · rw [if_neg e2]
              intro k1 k2
              have k3 := h1 k1 k2
              have e3 : ¬ f x z = 0 := fun k4 => e1 (k3.2 k4).1
              rw [if_neg e3]
              exact ⟨k3.1, fun k4 => absurd k4 e3⟩

def cmpN (a b : Nat) : Int := cmpZ a b
theorem cmpN_ok : Cmp3 cmpN := by
  refine ⟨fun a b => cmpZ_ok.anti _ _, fun a b => cmpZ_ok.tri _ _, fun a b => ?_, fun a b c => cmpZ_ok.tr _ _ _⟩
  unfold cmpN
  rw [cmpZ_ok.eq]; omega
def cmpB : List Nat → List Nat → Int := lexL cmpN

end Go.Proofs.Ytjcmekhamohbnaa

namespace Go.Proofs.Ytjcmekhamohbnaa
set_option linter.unusedVariables false
open Go.RowKit

theorem run_bytesOf {P : Program} {w : World} {v : Value} {bs : List Nat} (hr : Rd w v (bs.map u8v)) : (Extern.Bytes.bytesOf v).run P w = .ok ⟨(bs.map UInt8.ofNat).toArray⟩ w := by
  obtain ⟨ao, cap, rfl, _, hc⟩ := hr
  rcases ao with _ | a
  · have h0 : bs = [] := by
      rcases bs with _ | ⟨x, r⟩
      · rfl
      · obtain ⟨b, off, h1, _⟩ := hc (by simp)
        cases h1
    subst h0
    rfl
  · rcases Nat.eq_zero_or_pos (bs.map u8v).length with h0 | hp
    · have : bs = [] := by simpa using h0
      subst this
      rfl
    · obtain ⟨b, off, h1, h2⟩ := hc hp
      cases h1
      have := Lib.run_loadBytesX (P := P) (w := w) (bs.map fun x : Nat => (x : Int)) ⟨b, off, none⟩ .empty (fun j x hj => by
        rw [List.getElem?_map] at hj
        have hjl : j < bs.length := by
          rcases Nat.lt_or_ge j bs.length with h | h
          · exact h
          · rw [List.getElem?_eq_none h] at hj; cases hj
        rw [List.getElem?_eq_getElem hjl] at hj
        simp only [Option.map_some, Option.some.injEq] at hj
        have e : (⟨b, off, none⟩ : Addr).add j = ⟨b, off + j, none⟩ := by simp [Addr.add]
        rw [e, h2 j (by simpa using hjl), List.getD_eq_getElem?_getD, List.getElem?_map, List.getElem?_eq_getElem hjl, ← hj]
        rfl)
      rw [List.length_map] at this
      show (Extern.Bytes.loadBytes ⟨b, off, none⟩ (bs.map u8v).length .empty).run P w = _
      rw [List.length_map]
      refine this.trans ?_
      simp [Lib.bytesOf, UInt8.ofNat]

theorem compareBytes_eq : ∀ (x y : List Nat), (∀ a ∈ x, a < 256) → (∀ a ∈ y, a < 256) → Lib.compareBytes (x.map UInt8.ofNat) (y.map UInt8.ofNat) = cmpB x y
  | [], [], _, _ => rfl
  | [], _ :: _, _, _ => rfl
  | _ :: _, [], _, _ => rfl
  | a :: x, b :: y, hx, hy => by
    have ih := compareBytes_eq x y (fun v hv => hx v (List.mem_cons_of_mem _ hv)) (fun v hv => hy v (List.mem_cons_of_mem _ hv))
    have ha := hx a List.mem_cons_self
    have hb := hy b List.mem_cons_self
    have l1 : (UInt8.ofNat a < UInt8.ofNat b) ↔ a < b := by rw [UInt8.lt_iff_toNat_lt, UInt8.toNat_ofNat', UInt8.toNat_ofNat', Nat.mod_eq_of_lt ha, Nat.mod_eq_of_lt hb]
    have l2 : (UInt8.ofNat b < UInt8.ofNat a) ↔ b < a := by rw [UInt8.lt_iff_toNat_lt, UInt8.toNat_ofNat', UInt8.toNat_ofNat', Nat.mod_eq_of_lt ha, Nat.mod_eq_of_lt hb]
    unfold cmpB at ih ⊢
    rw [List.map_cons, List.map_cons, Lib.compareBytes, lexL, ih]
    unfold cmpN cmpZ
    by_cases h1 : a < b
    · rw [if_pos (l1.2 h1), if_pos (show (a : Int) < b by omega), if_neg (by decide)]
    · rw [if_neg (fun h => h1 (l1.1 h)), if_neg (show ¬ (a : Int) < b by omega)]
      by_cases h2 : b < a
      · rw [if_pos (l2.2 h2), if_pos (show (b : Int) < a by omega), if_neg (by decide)]
      · rw [if_neg (fun h => h2 (l2.1 h)), if_neg (show ¬ (b : Int) < a by omega), if_pos rfl]

set_option maxHeartbeats 1000000 in
set_option maxRecDepth 100000 in
theorem bcompare_any (v1 v2 : Value) (x y : List Nat) (w : World) (h1 : Rd w v1 (x.map u8v)) (h2 : Rd w v2 (y.map u8v)) (hx : ∀ a ∈ x, a < 256) (hy : ∀ a ∈ y, a < 256) :
    Calls Try.prog 33 #[v1, v2] w fun e w' => e = .returned (.int .i64 (cmpB x y)) ∧ w = w' := by
  have hrun : (Extern.BytealgCompare.compare #[v1, v2]).run Try.prog w = .ok (.int .i64 (cmpB x y)) w := by
    show (do pure (goInt (Extern.BytealgCompare.cmp (← Extern.Bytes.bytesOf v1) (← Extern.Bytes.bytesOf v2))) : Sem Value).run Try.prog w = _
    simp only [Sem.run_bind, run_bytesOf h1, run_bytesOf h2, Result.andThen_ok, Sem.run_pure]
    rw [Lib.cmp_eq, ← compareBytes_eq x y hx hy]
    rfl
  have HR := Lib.hid hrun
  clear hrun h1 h2
  go_enter Try.func33, Try.ntmps33
  go_wp2
  rw [run_callFunc_extern Try.func65 (by kernel_rfl) (by kernel_rfl) (by kernel_rfl) (e := Extern.BytealgCompare.compare) (by kernel_rfl), HR.out]
  simp only [Result.andThen]
  rw [Oper.upon_value]
  go_wp2
  go_ret
  exact ⟨rfl, rfl⟩

end Go.Proofs.Ytjcmekhamohbnaa

namespace Go.Proofs.Ytjcmekhamohbnaa
set_option linter.unusedVariables false
open Go.RowKit

theorem heap2 (w : World) (o1 o2 : Obj) : ((w.alloc o1).alloc o2).heap[w.heap.size + 1]? = some o2 := by
  have := heap_alloc_new (w.alloc o1) o2
  rwa [show (w.alloc o1).heap.size = w.heap.size + 1 by simp] at this
end Go.Proofs.Ytjcmekhamohbnaa

namespace Go.Proofs.Ytjcmekhamohbnaa
set_option linter.unusedVariables false
set_option linter.unusedSimpArgs false
open Go.RowKit

end Go.Proofs.Ytjcmekhamohbnaa

namespace Go.Proofs.Ytjcmekhamohbnaa
set_option linter.unusedVariables false
set_option linter.unusedSimpArgs false
open Go.RowKit

end Go.Proofs.Ytjcmekhamohbnaa

namespace Go.Proofs.Ytjcmekhamohbnaa
set_option linter.unusedVariables false
set_option linter.unusedSimpArgs false
open Go.RowKit

theorem RdP.at {w : World} {ao : Option Addr} {len cap : Nat} {l : List (Vc × Value)} (h : RdP w (.slice ao len cap) l) {k : Nat} {t : Vc × Value} (hk : l[k]? = some t) :
    ∃ b off, ao = some ⟨b, off, none⟩ ∧ w.cell? ⟨b, off + k * 4, none⟩ = some (.bool t.1.u) ∧ w.cell? ⟨b, off + k * 4 + 1, none⟩ = some (.int .i64 t.1.k) ∧ w.cell? ⟨b, off + k * 4 + 2, none⟩ = some (.int .i64 t.1.n) ∧
      w.cell? ⟨b, off + k * 4 + 3, none⟩ = some t.2 ∧ OkV w t := by
  obtain ⟨b, off, ha, hc⟩ := h.1.at (k := k) (t := cellsV t) (by rw [List.getElem?_map, hk]; rfl)
  exact ⟨b, off, ha, hc 0 _ rfl, hc 1 _ rfl, hc 2 _ rfl, hc 3 _ rfl, h.2 t (List.mem_of_getElem? hk)⟩
end Go.Proofs.Ytjcmekhamohbnaa

namespace Go.Proofs.Ytjcmekhamohbnaa
set_option linter.unusedVariables false
set_option linter.unusedSimpArgs false
open Go.RowKit

end Go.Proofs.Ytjcmekhamohbnaa

namespace Go.Proofs.Ytjcmekhamohbnaa
set_option linter.unusedVariables false
set_option linter.unusedSimpArgs false
open Go.RowKit

theorem RdC.at {w : World} {ao : Option Addr} {len cap : Nat} {l : List Co} (h : RdC w (.slice ao len cap) l) {k : Nat} {t : Co} (hk : l[k]? = some t) :
    ∃ b off, ao = some ⟨b, off, none⟩ ∧ w.cell? ⟨b, off + k * 3, none⟩ = some (.string t.n) ∧ w.cell? ⟨b, off + k * 3 + 1, none⟩ = some (.int .i64 t.k) ∧ w.cell? ⟨b, off + k * 3 + 2, none⟩ = some (.bool t.u) := by
  obtain ⟨b, off, ha, hc⟩ := RdS.at h (k := k) (t := t.cells) (by rw [List.getElem?_map, hk]; rfl)
  exact ⟨b, off, ha, hc 0 _ rfl, hc 1 _ rfl, hc 2 _ rfl⟩
theorem RdC.kept {w w' : World} {v : Value} {l : List Co} (h : RdC w v l) (hb : Below w.heap.size w w') : RdC w' v l := RdS.kept h hb

end Go.Proofs.Ytjcmekhamohbnaa

namespace Go.Proofs.Ytjcmekhamohbnaa
set_option linter.unusedVariables false
set_option linter.unusedSimpArgs false
open Go.RowKit

def FarV (g : Nat) (t : Vc × Value) : Prop := t.1.b ≠ [] → ∀ a n c, t.2 = .slice (some a) n c → a.block ≠ g
theorem OkV.grown {w w' : World} {t : Vc × Value} {g : Option Nat} (h : OkV w t) (hg : w.grownBy w' g) (hf : ∀ k, g = some k → FarV k t) : OkV w' t := by
  refine ⟨?_, h.2⟩
  obtain ⟨ao, cap, hv, hn, hc⟩ := h.1
  refine ⟨ao, cap, hv, hn, fun hp => ?_⟩
  obtain ⟨b, off, ha, hcell⟩ := hc hp
  refine ⟨b, off, ha, fun i hi => ?_⟩
  have h1 := hcell i hi
  rw [hg.cell_far ⟨b, off + i, none⟩ (World.block_lt_of_cell? _ _ h1) (fun e => hf b e.symm (fun e2 => by rw [e2] at hp; simp at hp) ⟨b, off, none⟩ _ cap (by rw [hv, ha]) rfl)]
  exact h1
end Go.Proofs.Ytjcmekhamohbnaa

namespace Go.Proofs.Ytjcmekhamohbnaa
set_option linter.unusedVariables false
open Go.RowKit

end Go.Proofs.Ytjcmekhamohbnaa
