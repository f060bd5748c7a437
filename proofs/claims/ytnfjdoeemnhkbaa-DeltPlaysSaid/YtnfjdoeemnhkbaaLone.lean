/-
  Small facts on worlds, whatever the program: what only one row may have been written in; owned rows read as lists.
  Slices that came in, as the frames tell of them, read as lists.
-/
import Derived.WalkKit
import Derived.WalkSmall
namespace Go.Proofs.Ytnfjdoeemnhkbaa
set_option linter.unusedVariables false
open Go.RowKit

theorem grown_trans {a b c : World} {row : Option Nat} (h : a.grownBy b row) (k : b.grownBy c row) : a.grownBy c row :=
  ⟨k.os.trans h.os, k.tape.trans h.tape, k.output.trans h.output, Nat.le_trans h.size k.size, fun i hi hr => (k.block i (Nat.lt_of_lt_of_le hi h.size) hr).trans (h.block i hi hr)⟩

theorem grown_drewN (w : World) (row : Option Nat) (n : Nat) : w.grownBy (w.drewN n) row := ⟨rfl, rfl, rfl, Nat.le_refl _, fun _ _ _ => rfl⟩

/-- An octet as a value. -/
def u8v (n : Nat) : Value := .int .u8 n
/-- A word of 64 bits as a value. -/
def u64v (n : Nat) : Value := .int .u64 n
def intv (n : Int) : Value := .int .i64 n
def boolv (b : Bool) : Value := .bool b

theorem ownsRow_drewN {w : World} {base : Nat} {e : TypeId} {size : Nat} {v : Value} {n : Nat} {xs : List Value} (h : w.ownsRow base e size v n xs) (k : Nat) : (w.drewN k).ownsRow base e size v n xs := h

theorem below_of_grown {w w' : World} {base : Nat} {g : Nat} (h : w.grownBy w' (some g)) (hb : base ≤ w.heap.size) (hg : base ≤ g) : Below base w w' :=
  (Below.refl base w).grown h hb (fun k e => by cases e; exact hg)

theorem grown_setCell (w : World) (a : Addr) (u : Value) : w.grownBy (w.setCell a u) (some a.block) :=
  ⟨rfl, rfl, rfl, by simp [World.setCell], fun k _ hk => heap_setCell_other w a k u (fun e => hk (by simp [e]))⟩

theorem grown_alloc (w : World) (o : Obj) (row : Option Nat) : w.grownBy (w.alloc o) row := World.grownBy_alloc w o row

/-- v is a slice that reads as xs. -/
def Rd (w : World) (v : Value) (xs : List Value) : Prop :=
  ∃ ao cap, v = .slice ao xs.length cap ∧ ((ao = none → cap = 0) ∧ xs.length ≤ cap) ∧ (0 < xs.length → ∃ b off, ao = some ⟨b, off, none⟩ ∧ ∀ i, i < xs.length → w.cell? ⟨b, off + i, none⟩ = some (xs.getD i undef))

theorem Rd.kept {w w' : World} {v : Value} {xs : List Value} (h : Rd w v xs) (hb : Below w.heap.size w w') : Rd w' v xs := by
  obtain ⟨ao, cap, hv, hn, hc⟩ := h
  refine ⟨ao, cap, hv, hn, fun hp => ?_⟩
  obtain ⟨b, off, ha, hcell⟩ := hc hp
  refine ⟨b, off, ha, fun i hi => ?_⟩
  have h1 := hcell i hi
  have hlt : b < w.heap.size := by
    exact World.block_lt_of_cell? _ _ h1
  rw [hb.cell (p := ⟨b, off + i, none⟩) hlt]
  exact h1

theorem Rd.nil (w : World) : Rd w (.slice none 0 0) [] := ⟨none, 0, rfl, ⟨fun _ => rfl, by simp⟩, fun h => absurd h (by simp)⟩

theorem Rd.of_owns {w : World} {base : Nat} {e : TypeId} {v : Value} {n : Nat} {xs : List Value} (h : w.ownsRow base e 1 v n xs) : Rd w v xs := by
  have hl : xs.length = n := by simpa using h.1
  rcases h.2 with ⟨rfl, rfl⟩ | ⟨g, cap, cur, rfl, hbg, hh, r⟩
  · have : xs = [] := List.length_eq_zero_iff.1 hl
    subst this
    exact Rd.nil _
  · refine ⟨some ⟨g, 0, none⟩, cap, by rw [hl], ⟨(fun h => by cases h), by rw [hl]; exact r.1⟩, fun _ => ⟨g, 0, rfl, fun i hi => ?_⟩⟩
    have := h.cellAt i (by omega)
    rw [Nat.zero_add, this, List.getD_eq_getElem?_getD, List.getElem?_eq_getElem hi]; rfl

theorem rd_news {w : World} {a : Addr} {n c : Nat} {xs : List Value} (h : Rd w (.slice (some a) n c) xs) : ∀ j u, xs[j]? = some u → w.cell? (a.add j) = some u := by
  intro j u hj
  obtain ⟨ao, cap, hv, _, hc⟩ := h
  have hjl : j < xs.length := (List.getElem?_eq_some_iff.1 hj).1
  obtain ⟨b, off, ha, hcell⟩ := hc (by omega)
  simp only [Value.slice.injEq] at hv
  obtain ⟨rfl, _, _⟩ := hv
  cases ha
  have e : (⟨b, off, none⟩ : Addr).add j = ⟨b, off + j, none⟩ := by simp [Addr.add]
  rw [e, hcell j hjl, List.getD_eq_getElem?_getD, hj]; rfl

theorem rd_drop {w : World} {b off len cap n : Nat} {xs : List Value} (h : Rd w (.slice (some ⟨b, off, none⟩) len cap) xs) (hn : n ≤ len) :
    Rd w (.slice (some ⟨b, off + n, none⟩) (len - n) (cap - n)) (xs.drop n) := by
  obtain ⟨ao, cap', hv, hcap, hc⟩ := h
  simp only [Value.slice.injEq] at hv
  obtain ⟨rfl, hl, rfl⟩ := hv
  refine ⟨some ⟨b, off + n, none⟩, cap - n, by rw [List.length_drop, hl], ⟨(fun h => by cases h), by rw [List.length_drop]; omega⟩, fun hp => ⟨b, off + n, rfl, fun i hi => ?_⟩⟩
  rw [List.length_drop] at hp hi
  obtain ⟨b', off', ha, hcell⟩ := hc (by omega)
  cases ha
  have := hcell (n + i) (by omega)
  rw [List.getD_eq_getElem?_getD, List.getElem?_drop, Nat.add_assoc, this, List.getD_eq_getElem?_getD]

theorem rd_take {w : World} {ao : Option Addr} {len cap m : Nat} {xs : List Value} (h : Rd w (.slice ao len cap) xs) (hm : m ≤ len) : Rd w (.slice ao m cap) (xs.take m) := by
  obtain ⟨ao', cap', hv, hcap, hc⟩ := h
  simp only [Value.slice.injEq] at hv
  obtain ⟨rfl, hl, rfl⟩ := hv
  have hl2 : (xs.take m).length = m := by rw [List.length_take]; omega
  refine ⟨ao, cap, by rw [hl2], ⟨hcap.1, by rw [hl2]; have := hcap.2; omega⟩, fun hp => ?_⟩
  rw [hl2] at hp ⊢
  obtain ⟨b, off, ha, hcell⟩ := hc (by omega)
  refine ⟨b, off, ha, fun i hi => ?_⟩
  rw [hcell i (by omega), List.getD_eq_getElem?_getD, List.getD_eq_getElem?_getD, List.getElem?_take, if_pos hi]

theorem rd_empty (w : World) (a : Addr) (cap : Nat) : Rd w (.slice (some a) 0 cap) [] := ⟨some a, cap, rfl, ⟨(fun h => by cases h), by simp⟩, fun h => absurd h (by simp)⟩

theorem own_shape {w : World} {B : Nat} {E : TypeId} {size : Nat} {v : Value} {n : Nat} {xs : List Value} (h : w.ownsRow B E size v n xs) : ∃ ao cap, v = .slice ao n cap := by
  rcases h.2 with ⟨rfl, rfl⟩ | ⟨g, cap, cur, rfl, _⟩
  · exact ⟨none, 0, rfl⟩
  · exact ⟨_, cap, rfl⟩

theorem ones_u8 (bs : List Nat) : ∀ u ∈ bs.map u8v, u.oneCell' = true := by
  intro u hu; obtain ⟨x, _, rfl⟩ := List.mem_map.1 hu; rfl

/-- The call hands back a slice of its own that holds xs; below B nothing has turned. -/
def RetOwn (B : Nat) (E : TypeId) (xs : List Value) (w : World) (e : Ending) (w' : World) : Prop :=
  ∃ ao cap, e = .returned (.slice ao xs.length cap) ∧ w'.ownsRow B E 1 (.slice ao xs.length cap) xs.length xs ∧ Below w.heap.size w w'

/-- .. and a bool beside it. -/
def RetOwn2 (B : Nat) (E : TypeId) (xs : List Value) (b : Bool) (w : World) (e : Ending) (w' : World) : Prop :=
  ∃ ao cap, e = .returned (.tuple #[.slice ao xs.length cap, .bool b]) ∧ w'.ownsRow B E 1 (.slice ao xs.length cap) xs.length xs ∧ Below w.heap.size w w'

theorem owns_nil (w : World) (B : Nat) (E : TypeId) : w.ownsRow B E 1 (.slice none 0 0) 0 [] := ⟨rfl, .inl ⟨rfl, rfl⟩⟩

theorem below_drew (w : World) (B : Nat) (k : Nat) : Below B w (w.drewN k) := ⟨rfl, rfl, rfl, Nat.le_refl _, fun _ _ => rfl⟩

theorem below_drw (B : Nat) (w : World) : Below B w w.drew := ⟨rfl, rfl, rfl, Nat.le_refl _, fun _ _ => rfl⟩

theorem rd_lit (w : World) (cs : Array Value) (E : TypeId) (n : Nat) (xs : List Value) (hs : cs.toList = xs) (hn : n = xs.length) (hm : n ≤ maxLen) : Rd (w.alloc (.cells cs E)) (.slice (some ⟨w.heap.size, 0, none⟩) n n) xs := by
  subst hs
  exact Rd.of_owns (World.ownsRow_lit (base := w.heap.size) (size := 1) w cs n (Nat.le_refl _) hm (by rw [hn]; simp))

theorem below_alloc (w : World) (o : Obj) : Below w.heap.size w (w.alloc o) := (Below.refl _ _).alloc (Nat.le_refl _) _

/-- Two calls, one behind the other. -/
theorem below_then {a b c : World} (h : Below a.heap.size a b) (k : Below b.heap.size b c) : Below a.heap.size a c := h.trans (k.mono h.size)

theorem below_draws {a b : World} (h : Below a.heap.size a b) (k : Nat) : Below a.heap.size a (b.drewN k) := h.trans (below_drew _ _ k)

theorem below_lay {a b : World} (h : Below a.heap.size a b) (o : Obj) : Below a.heap.size a (b.alloc o) := h.alloc h.size o

end Go.Proofs.Ytnfjdoeemnhkbaa

namespace Go.Proofs.Ytnfjdoeemnhkbaa
set_option linter.unusedVariables false
open Go.RowKit

/-- What a walk is told of a slice of integers that came in: it is nil; or it leads to cap cells, the numbers zs, each fitting its kind. -/
def IsRow (k : IntKind) (w : World) (a : Option Addr) (len cap : Nat) (zs : List Int) : Prop :=
  (a = none ∧ len = 0 ∧ cap = 0 ∧ zs = []) ∨
  ∃ x, a = some x ∧ len ≤ cap ∧ cap ≤ maxLen ∧ zs.length = cap ∧ (∀ i, i < zs.length → w.cell? (x.add i) = some (.int k (zs.getD i 0))) ∧ ∀ n ∈ zs, (Lit.int k n).wf = true

theorem isRow_rd {k : IntKind} {w : World} {a : Option Addr} {len cap : Nat} {zs : List Int} (h : IsRow k w a len cap zs) :
    ∃ xs : List Int, xs.length = len ∧ Rd w (.slice a len cap) (xs.map (Value.int k)) ∧ ∀ n ∈ xs, (Lit.int k n).wf = true := by
  rcases h with ⟨rfl, rfl, rfl, rfl⟩ | ⟨x, rfl, hl, hm, hz, hc, hw⟩
  · exact ⟨[], rfl, Rd.nil _, fun n hn => by cases hn⟩
  · refine ⟨zs.take len, by rw [List.length_take]; omega, ?_, fun n hn => hw n (List.mem_of_mem_take hn)⟩
    have hl2 : ((zs.take len).map (Value.int k)).length = len := by rw [List.length_map, List.length_take]; omega
    refine ⟨some x, cap, by rw [hl2], ⟨(fun h => by cases h), by rw [hl2]; exact hl⟩, fun hp => ?_⟩
    rw [hl2] at hp ⊢
    obtain ⟨b, off, spot⟩ := x
    have h0 := hc 0 (by omega)
    have hspot : spot = none := by simpa [Addr.add] using World.cell?_spot h0
    subst hspot
    refine ⟨b, off, rfl, fun i hi => ?_⟩
    have h1 := hc i (by omega)
    have e : (⟨b, off, none⟩ : Addr).add i = ⟨b, off + i, none⟩ := by simp [Addr.add]
    rw [e] at h1
    rw [h1]
    simp only [List.getD_eq_getElem?_getD, List.getElem?_map, List.getElem?_take, if_pos hi, List.getElem?_eq_getElem (show i < zs.length by omega)]
    rfl

theorem rd_own_map {α : Type} {f : α → Value} {w : World} {B : Nat} {E : TypeId} {ao : Option Addr} {cap : Nat} {xs : List α} (h : w.ownsRow B E 1 (.slice ao (xs.map f).length cap) (xs.map f).length (xs.map f)) :
    Rd w (.slice ao xs.length cap) (xs.map f) := by
  have := Rd.of_owns h
  rwa [List.length_map] at this

theorem wf_u64 {n : Int} (h : (Lit.int .u64 n).wf = true) : 0 ≤ n ∧ n < 18446744073709551616 := by
  have h1 : IntKind.u64.min = 0 := rfl
  have h2 : IntKind.u64.max = 18446744073709551615 := rfl
  simp only [Lit.wf, Bool.and_eq_true, decide_eq_true_eq] at h
  omega

theorem wf_u8 {n : Int} (h : (Lit.int .u8 n).wf = true) : 0 ≤ n ∧ n < 256 := by
  have h1 : IntKind.u8.min = 0 := rfl
  have h2 : IntKind.u8.max = 255 := rfl
  simp only [Lit.wf, Bool.and_eq_true, decide_eq_true_eq] at h
  omega

theorem wf_i64 {n : Int} (h : (Lit.int .i64 n).wf = true) : -9223372036854775808 ≤ n ∧ n ≤ 9223372036854775807 := by
  have h1 : IntKind.i64.min = -9223372036854775808 := rfl
  have h2 : IntKind.i64.max = 9223372036854775807 := rfl
  simp only [Lit.wf, Bool.and_eq_true, decide_eq_true_eq] at h
  omega

theorem isRow_u64 {w : World} {a : Option Addr} {len cap : Nat} {zs : List Int} (h : IsRow .u64 w a len cap zs) :
    ∃ us : List Nat, us.length = len ∧ Rd w (.slice a len cap) (us.map u64v) ∧ ∀ x ∈ us, x < 18446744073709551616 := by
  obtain ⟨xs, hl, hr, hw⟩ := isRow_rd h
  refine ⟨xs.map Int.toNat, by simpa using hl, ?_, ?_⟩
  · have e : (xs.map Int.toNat).map u64v = xs.map (Value.int .u64) := by
      rw [List.map_map]
      refine List.map_congr_left fun n hn => ?_
      have := wf_u64 (hw n hn)
      show Value.int .u64 ((n.toNat : Nat) : Int) = _
      rw [show ((n.toNat : Nat) : Int) = n from by omega]
    rw [e]; exact hr
  · intro x hx
    obtain ⟨n, hn, rfl⟩ := List.mem_map.1 hx
    have := wf_u64 (hw n hn)
    omega

theorem isRow_u8 {w : World} {a : Option Addr} {len cap : Nat} {zs : List Int} (h : IsRow .u8 w a len cap zs) :
    ∃ bs : List Nat, bs.length = len ∧ Rd w (.slice a len cap) (bs.map u8v) ∧ ∀ x ∈ bs, x < 256 := by
  obtain ⟨xs, hl, hr, hw⟩ := isRow_rd h
  refine ⟨xs.map Int.toNat, by simpa using hl, ?_, ?_⟩
  · have e : (xs.map Int.toNat).map u8v = xs.map (Value.int .u8) := by
      rw [List.map_map]
      refine List.map_congr_left fun n hn => ?_
      have := wf_u8 (hw n hn)
      show Value.int .u8 ((n.toNat : Nat) : Int) = _
      rw [show ((n.toNat : Nat) : Int) = n from by omega]
    rw [e]; exact hr
  · intro x hx
    obtain ⟨n, hn, rfl⟩ := List.mem_map.1 hx
    have := wf_u8 (hw n hn)
    omega

end Go.Proofs.Ytnfjdoeemnhkbaa
