/-
  Contracts of layer 4: a number put behind bytes, and taken of a Reader; the coder of numbers.
  Contracts of layer 4: what the coder of numbers tells, and reads: one behind the other, and runs.
  Contracts of layer 4: what the coder of numbers reads: one behind the other, runs, words. A Reader whose bytes lie below a block outlives writes to one's own rows.
  Contracts of layer 4: numbers read one behind the other, and runs.
-/
import Derived.Test.YtjcmekhamohbnaaIcolm
import Derived.Test.YtjcmekhamohbnaaReadg
import Derived.Test.YtjcmekhamohbnaaRowops
import Derived.Test.YtjcmekhamohbnaaNullg
import Derived.Deep.QuietTactic
import Derived.BigQuiet
namespace Go.Proofs.Ytjcmekhamohbnaa
set_option linter.unusedVariables false
set_option linter.unusedSimpArgs false
open Go.RowKit

theorem elm_of {P : Program} {t e : TypeId} {z : Value} {sz bytes : Nat} (hu : P.underlying t = some (.slice e)) (h : (P.info? e).map (fun i => (i.zero, i.size, i.bytes)) = some (some z, sz, bytes)) (hz : z.cells.size = sz) (hp : 0 < sz) (hb : bytes ≤ 10000) : Elm P t e sz bytes := by
  cases hq : P.info? e with
  | none => rw [hq] at h; cases h
  | some i =>
    rw [hq] at h
    simp only [Option.map_some, Option.some.injEq, Prod.mk.injEq] at h
    exact ⟨hu, ⟨i, z, hq, h.1, h.2.1, h.2.2, hz⟩, hp, hb⟩
theorem info_u8 : (Try.prog.info? 5).map (fun i => (i.zero, i.size, i.bytes)) = some (some (.int .u8 0), 1, 1) := by kernel_rfl
theorem info_u64 : (Try.prog.info? 57).map (fun i => (i.zero, i.size, i.bytes)) = some (some (.int .u64 0), 1, 8) := by kernel_rfl
theorem elmU8 : Elm Try.prog 24 5 1 1 := elm_of Try.underlying24 info_u8 rfl (by decide) (by decide)
def OwnB (base : Nat) (w : World) (v : Value) (bs : List Nat) : Prop := w.ownsRow base 5 1 v bs.length (bs.map u8v)
def OwnI (base : Nat) (w : World) (v : Value) (l : List Int) : Prop := w.ownsRow base 2 1 v l.length (l.map (Value.int .i64))
theorem OwnB.shape {base : Nat} {w : World} {v : Value} {bs : List Nat} (h : OwnB base w v bs) : ∃ ao cap, v = .slice ao bs.length cap := own_shape h
theorem OwnI.shape {base : Nat} {w : World} {v : Value} {l : List Int} (h : OwnI base w v l) : ∃ ao cap, v = .slice ao l.length cap := own_shape h
theorem OwnB.rd {base : Nat} {w : World} {v : Value} {bs : List Nat} (h : OwnB base w v bs) : Rd w v (bs.map u8v) := Rd.of_owns h
theorem OwnI.rd {base : Nat} {w : World} {v : Value} {l : List Int} (h : OwnI base w v l) : Rd w v (l.map (Value.int .i64)) := Rd.of_owns h
theorem OwnB.of {base : Nat} {w : World} {v : Value} {n : Nat} {bs : List Nat} (h : w.ownsRow base 5 1 v n (bs.map u8v)) : OwnB base w v bs := by
  have h1 := h.1
  rw [List.length_map, Nat.mul_one] at h1
  subst h1
  exact h
theorem OwnI.of {base : Nat} {w : World} {v : Value} {n : Nat} {l : List Int} (h : w.ownsRow base 2 1 v n (l.map (Value.int .i64))) : OwnI base w v l := by
  have h1 := h.1
  rw [List.length_map, Nat.mul_one] at h1
  subst h1
  exact h
theorem ownB_nil (base : Nat) (w : World) : OwnB base w (.slice none 0 0) [] := World.ownsRow_nil ..
theorem rd_i64_cells {w : World} {ao : Option Addr} {len cap : Nat} {l : List Int} (h : Rd w (.slice ao len cap) (l.map (Value.int .i64))) :
    len = l.length ∧ (0 < len → ∃ b off, ao = some ⟨b, off, none⟩ ∧ ∀ i, i < len → w.cell? ⟨b, off + i, none⟩ = some (.int .i64 (l.getD i 0))) := rdz_cells h
theorem rd_shape1 {w : World} {v : Value} {xs : List Value} (h : Rd w v xs) : ∃ ao cap, v = .slice ao xs.length cap := by
  obtain ⟨ao, cap, hv, _⟩ := h
  exact ⟨ao, cap, hv⟩

theorem nextF_val : ∀ (l : List Nat) (i U u n : Nat), i ≤ 9 → U < 2 ^ (7 * i) → nextF i U l = some (u, n) → u < 18446744073709551616
  | [], i, U, u, n, _, _, h => by rw [nextF] at h; cases h
  | x :: r, i, U, u, n, hi, hU, h => by
    rw [nextF] at h
    split at h
    · cases h
    · rename_i h9
      split at h
      · rename_i hx
        by_cases hi9 : i = 9
        · subst hi9; omega
        · refine nextF_val r (i + 1) _ u n (by omega) ?_ h
          have e : 2 ^ (7 * (i + 1)) = 128 * 2 ^ (7 * i) := pow_step i
          rw [e]
          have h1 : x % 128 ≤ 127 := by omega
          have h2 : x % 128 * 2 ^ (7 * i) ≤ 127 * 2 ^ (7 * i) := Nat.mul_le_mul_right _ h1
          omega
      · rename_i hx
        split at h
        · cases h
        · simp only [Option.some.injEq, Prod.mk.injEq] at h
          obtain ⟨rfl, _⟩ := h
          by_cases hi9 : i = 9
          · subst hi9
            have hx1 : x ≤ 1 := by omega
            have e : (2 : Nat) ^ (7 * 9) = 9223372036854775808 := by decide +kernel
            rw [e] at hU ⊢
            have : x % 128 ≤ 1 := by omega
            have h2 : x % 128 * 9223372036854775808 ≤ 1 * 9223372036854775808 := Nat.mul_le_mul_right _ this
            omega
          · have hp : (2 : Nat) ^ (7 * i) ≤ 2 ^ (7 * 8) := Nat.pow_le_pow_right (by decide) (by omega)
            have e : (2 : Nat) ^ (7 * 8) = 72057594037927936 := by decide +kernel
            rw [e] at hp
            have h1 : x % 128 ≤ 127 := by omega
            have h2 : x % 128 * 2 ^ (7 * i) ≤ 127 * 2 ^ (7 * i) := Nat.mul_le_mul_right _ h1
            omega
theorem nextC_val {l : List Nat} {u n : Nat} (h : nextC l = some (u, n)) : u < 18446744073709551616 := nextF_val l 0 0 u n (by decide) (by decide) h
theorem numR_lt (left : List Nat) (bad : Bool) : (numR left bad).1 < 18446744073709551616 := by
  unfold numR
  split
  · rename_i h; exact nextC_val h
  · decide
theorem numR_mem {left : List Nat} {bad : Bool} (h : ∀ x ∈ left, x < 256) : ∀ x ∈ (numR left bad).2.1, x < 256 := by
  unfold numR
  split
  · exact fun x hx => h x (List.mem_of_mem_drop hx)
  · exact fun x hx => by cases hx
theorem numR_len (left : List Nat) (bad : Bool) : (numR left bad).2.1.length ≤ left.length := by
  unfold numR
  split
  · simp
  · simp
theorem rnumR_any (r : Nat) (left : List Nat) (bad : Bool) (w : World) (h : IsR w r left bad) (h256 : ∀ x ∈ left, x < 256) (hbig : left.length ≤ 1000000) :
    Calls Try.prog 52 #[.pointer (some ⟨r, 0, none⟩)] w fun e w' => e = .returned (.int .u64 ((numR left bad).1 : Nat)) ∧ IsR w' r (numR left bad).2.1 (numR left bad).2.2 ∧ w.grownBy w' (some r) := by
  unfold numR
  cases hq : nextC left with
  | none => exact rnum_no r left bad w h h256 (by omega) hq
  | some p =>
    obtain ⟨u, n⟩ := p
    obtain ⟨h1, h2⟩ := nextC_bound left u n hq
    exact rnum_any r left bad w h h256 (by omega) u n hq h1 h2

end Go.Proofs.Ytjcmekhamohbnaa

namespace Go.Proofs.Ytjcmekhamohbnaa
set_option linter.unusedVariables false
set_option linter.unusedSimpArgs false
open Go.RowKit

theorem cod_cells {w : World} {X : Nat} {a b c d : Value} {T : TypeId} (h : w.heap[X]? = some (.cells #[a, b, c, d] T (0, 0))) : w.cell? ⟨X, 0, none⟩ = some a ∧ w.cell? ⟨X, 1, none⟩ = some b ∧ w.cell? ⟨X, 2, none⟩ = some c ∧ w.cell? ⟨X, 3, none⟩ = some d :=
  ⟨by rw [cell_of_row w X 0 _ _ _ h]; rfl, by rw [cell_of_row w X 1 _ _ _ h]; rfl, by rw [cell_of_row w X 2 _ _ _ h]; rfl, by rw [cell_of_row w X 3 _ _ _ h]; rfl⟩
theorem own_mono {w : World} {base base' : Nat} {e : TypeId} {size : Nat} {v : Value} {n : Nat} {xs : List Value} (h : w.ownsRow base e size v n xs) (hb : base' ≤ base) : w.ownsRow base' e size v n xs := by
  rcases h.2 with ⟨h1, h2⟩ | ⟨g, cap, cur, h1, h2, r⟩
  · exact ⟨h.1, .inl ⟨h1, h2⟩⟩
  · exact ⟨h.1, .inr ⟨g, cap, cur, h1, Nat.le_trans hb h2, r⟩⟩
theorem ownB_base {base : Nat} {w : World} {v : Value} {bs : List Nat} (h : OwnB base w v bs) : ∀ k, v.ownBlock = some k → base ≤ k := own_base h
theorem below_ownB {base : Nat} {w0 w w' : World} {v : Value} (hb : Below base w0 w) (hs : base ≤ w.heap.size) (hg : w.grownBy w' v.ownBlock) (hk : ∀ k, v.ownBlock = some k → base ≤ k) : Below base w0 w' := hb.grown hg hs hk
theorem take_succ_at {l : List Int} {q : Nat} (hq : q < l.length) : l.take (q + 1) = l.take q ++ [l.getD q 0] := by
  rw [List.take_succ_eq_append_getElem hq, List.getD_eq_getElem?_getD, List.getElem?_eq_getElem hq]
  rfl
theorem below_draws2 {base : Nat} {a b : World} (h : Below base a b) (k : Nat) : Below base a (b.drewN k) := h.trans (below_drew _ _ k)
theorem below_drw2 {base : Nat} {a b : World} (h : Below base a b) : Below base a b.drew := Below.trans h ⟨rfl, rfl, rfl, Nat.le_refl _, fun _ _ => rfl⟩
theorem own_keptB {base : Nat} {w w' : World} {v : Value} {bs : List Nat} (h : OwnB base w v bs) (hb : Below w.heap.size w w') : OwnB base w' v bs :=
  h.kept (grown_of_below hb none) (by cases h : v.ownBlock with | none => exact .inl rfl | some g => exact .inr (by simp))
theorem getD_at {l : List Int} {q : Nat} (hq : q < l.length) : l[q]? = some (l.getD q 0) := by
  rw [List.getD_eq_getElem?_getD, List.getElem?_eq_getElem hq]
  rfl

def lenV : Value → Nat
  | .slice _ n _ => n
  | _ => 0
end Go.Proofs.Ytjcmekhamohbnaa

namespace Go.Proofs.Ytjcmekhamohbnaa
set_option linter.unusedVariables false
set_option linter.unusedSimpArgs false
open Go.RowKit

def IsRB (B : Nat) (w : World) (r : Nat) (left : List Nat) (bad : Bool) : Prop :=
  ∃ v, w.heap[r]? = some (.cells #[v, .bool bad] 73 (0, 0)) ∧ Rd w v (left.map u8v) ∧ ∀ b off n c, v = .slice (some ⟨b, off, none⟩) n c → 0 < n → b < B ∧ b ≠ r
theorem IsRB.isR {B : Nat} {w : World} {r : Nat} {left : List Nat} {bad : Bool} (h : IsRB B w r left bad) : IsR w r left bad := by
  obtain ⟨v, h1, h2, _⟩ := h
  exact ⟨v, h1, h2⟩
theorem isRB_of {w : World} {r : Nat} {left : List Nat} {bad : Bool} (h : IsR w r left bad) : IsRB w.heap.size w r left bad := by
  obtain ⟨v, h1, h2⟩ := h
  refine ⟨v, h1, h2, fun b off n c hv hp => ?_⟩
  subst hv
  obtain ⟨hn, hc⟩ := rd_cells h2
  obtain ⟨b', off', ha, hcell⟩ := hc hp
  simp only [Option.some.injEq, Addr.mk.injEq] at ha
  obtain ⟨rfl, rfl, _⟩ := ha
  have h0 := hcell 0 hp
  exact ⟨World.block_lt_of_cell? w _ h0, isR_apart h1 h0⟩
theorem isRB_nil {B : Nat} {w : World} {r : Nat} {bad : Bool} (h : IsR w r [] bad) : IsRB B w r [] bad := by
  obtain ⟨v, h1, h2⟩ := h
  refine ⟨v, h1, h2, fun b off n c hv hp => ?_⟩
  subst hv
  have := (rd_cells h2).1
  simp at this
  omega
theorem rd_row {B : Nat} {w w' : World} {v : Value} {xs : List Value} {row : Option Nat} (h : Rd w v xs) (hd : ∀ b off n c, v = .slice (some ⟨b, off, none⟩) n c → 0 < n → some b ≠ row) (hg : w.grownBy w' row) : Rd w' v xs := by
  obtain ⟨ao, cap, hv, hn, hc⟩ := h
  refine ⟨ao, cap, hv, hn, fun hp => ?_⟩
  obtain ⟨b, off, ha, hcell⟩ := hc hp
  exact ⟨b, off, ha, fun i hi => hg.cell (hcell i hi) (hd b off _ _ (by rw [hv, ha]) hp)⟩
theorem IsRB.own {B : Nat} {w w' : World} {r : Nat} {left : List Nat} {bad : Bool} {row : Option Nat} (h : IsRB B w r left bad) (hg : w.grownBy w' row) (hrow : ∀ k, row = some k → B ≤ k) (hr : r < B) : IsRB B w' r left bad := by
  obtain ⟨v, h1, h2, h3⟩ := h
  refine ⟨v, (hg.block r (Array.getElem?_eq_some_iff.1 h1).1 (fun e => by have := hrow r e.symm; omega)).trans h1, rd_row (B := B) h2 (fun b off n c hv hp e => ?_) hg, h3⟩
  have := (h3 b off n c hv hp).1
  have := hrow b e.symm
  omega
theorem IsRB.mono {B B' : Nat} {w : World} {r : Nat} {left : List Nat} {bad : Bool} (h : IsRB B w r left bad) (hb : B ≤ B') : IsRB B' w r left bad := by
  obtain ⟨v, h1, h2, h3⟩ := h
  exact ⟨v, h1, h2, fun b off n c hv hp => ⟨by have := (h3 b off n c hv hp).1; omega, (h3 b off n c hv hp).2⟩⟩
theorem IsRB.kept {B : Nat} {w w' : World} {r : Nat} {left : List Nat} {bad : Bool} (h : IsRB B w r left bad) (hb : Below w.heap.size w w') (hr : r < B) : IsRB B w' r left bad := h.own (grown_of_below hb none) (fun k e => by cases e) hr
theorem grown_own {w0 w w' : World} {r base : Nat} {row : Option Nat} (h : w0.grownBy w (some r)) (hg : w.grownBy w' row) (hrow : ∀ k, row = some k → w0.heap.size ≤ k) : w0.grownBy w' (some r) :=
  ⟨hg.os.trans h.os, hg.tape.trans h.tape, hg.output.trans h.output, Nat.le_trans h.size hg.size, fun i hi hne => (hg.block i (Nat.lt_of_lt_of_le hi h.size) (fun e => by have := hrow i e.symm; omega)).trans (h.block i hi hne)⟩

set_option maxRecDepth 100000 in
set_option maxHeartbeats 8000000 in
theorem rnumB_any (B r : Nat) (left : List Nat) (bad : Bool) (w : World) (h : IsRB B w r left bad) (h256 : ∀ x ∈ left, x < 256) (hbig : left.length ≤ 1000000) :
    Calls Try.prog 52 #[.pointer (some ⟨r, 0, none⟩)] w fun e w' => e = .returned (.int .u64 ((numR left bad).1 : Nat)) ∧ IsRB B w' r (numR left bad).2.1 (numR left bad).2.2 ∧ w.grownBy w' (some r) := by
  unfold numR
  cases hq : nextC left with
  | none =>
    refine (rnum_no r left bad w h.isR h256 (by omega) hq).mono ?_
    rintro e w' ⟨rfl, h1, h2⟩
    exact ⟨rfl, isRB_nil h1, h2⟩
  | some p =>
    obtain ⟨u, n⟩ := p
    obtain ⟨hn1, hn2⟩ := nextC_bound left u n hq
    obtain ⟨v, hv, hr, hd⟩ := h
    obtain ⟨c0, c1, f0, f1⟩ := isR_cells hv
    have HV := Lib.hid hv
    have HR := Lib.hid hr
    have HDB := Lib.hid hd
    have hr2 := hr
    obtain ⟨ao, cap, hvs, hrr⟩ := hr2
    clear hrr
    rw [List.length_map] at hvs
    subst hvs
    have HN := Lib.hid hq
    obtain ⟨len, hlen⟩ : ∃ len, len = left.length := ⟨_, rfl⟩
    rw [← hlen] at c0 hbig hn2 HR HV HDB
    have HLEN := Lib.hid hlen
    clear hv hr hq hlen hd
    obtain ⟨b, off, rfl, hcell⟩ := (rd_cells HR.out).2 (by omega)
    have HAP := Lib.hid (HDB.out b off len cap rfl (by omega))
    have hbig2 : len ≤ 140737488355328 := by omega
    clear hcell
    go_enter Try.func52, Try.ntmps52
    go_wp2_with fail
    refine (next_any _ len cap left w HR.out h256 hbig2).mono ?_
    rw [HN.out]
    rintro e w1 ⟨rfl, rfl⟩
    have hne : ((n : Int) == 0) = false := by rw [beq_eq_false_iff_ne]; omega
    go_wp2_with fail
    · go_ret
      have hz : len - n = 0 := by have := rd_cap HR.out; omega
      refine ⟨rfl, ⟨_, heap_setCell_same w r 0 _ _ _ HV.out, ?_, fun b' off' n' c' hv' hp => ?_⟩, grown_setCell _ _ _⟩
      · rw [hz, List.drop_of_length_le (by rw [← HLEN.out]; omega)]
        exact rd_empty _ _ _
      · simp only [Value.slice.injEq] at hv'
        omega
    · go_ret
      refine ⟨rfl, ⟨_, heap_setCell_same w r 0 _ _ _ HV.out, ?_, fun b' off' n' c' hv' hp => ?_⟩, grown_setCell _ _ _⟩
      · have hd := rd_drop HR.out hn2
        rw [← List.map_drop] at hd
        refine rd_set hd fun b' off' c' n' hv' hp => ?_
        simp only [Value.slice.injEq, Option.some.injEq, Addr.mk.injEq] at hv'
        rw [← hv'.1.1]
        exact HAP.out.2
      · simp only [Value.slice.injEq, Option.some.injEq, Addr.mk.injEq] at hv'
        rw [← hv'.1.1]
        exact HAP.out

end Go.Proofs.Ytjcmekhamohbnaa

namespace Go.Proofs.Ytjcmekhamohbnaa
set_option linter.unusedVariables false
set_option linter.unusedSimpArgs false
open Go.RowKit

theorem grownBy_any {w w' : World} {o : Option Nat} (h : w.grownBy w' none) : w.grownBy w' o := ⟨h.os, h.tape, h.output, h.size, fun i hi _ => h.block i hi (by simp)⟩
theorem le_alloc0 {b : Nat} {w : World} (h : b ≤ w.heap.size) (o : Obj) : b ≤ (w.alloc o).heap.size := by simp; omega
theorem grownBy_some {w w' : World} {r : Nat} (h : w.grownBy w' none) : w.grownBy w' (some r) := ⟨h.os, h.tape, h.output, h.size, fun i hi _ => h.block i hi (by simp)⟩

end Go.Proofs.Ytjcmekhamohbnaa
