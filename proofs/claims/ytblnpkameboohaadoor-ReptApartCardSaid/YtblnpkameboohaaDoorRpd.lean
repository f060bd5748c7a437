/-
  The closure of ReptApart: a result of a number.
-/
import Derived.Test.YtblnpkameboohaaDoorRpb
namespace Go.Proofs.YtblnpkameboohaaDoor
set_option linter.unusedVariables false
set_option linter.unusedSimpArgs false
open Go.RowKit

def eltN (n i k : Nat) : Vc := ⟨false, 1, ((n / 2 ^ (10 + 2 * i + k) % 4 : Nat) : Int), []⟩
def rowN (n i : Nat) : List Vc := (List.range (1 + n / 2 ^ (7 + i) % 2)).map (eltN n i)
def errN (n : Nat) : Nat := if n / 4 % 8 = 0 then 1 + n / 32 % 4 else 0
def rowsN (n : Nat) : List (List Vc) := if n / 4 % 8 = 0 then [] else (List.range (n / 32 % 4)).map (rowN n)
theorem eltN_ok (n i k : Nat) : OkT (eltN n i k) := .inr ⟨rfl, rfl, n / 2 ^ (10 + 2 * i + k) % 4, by omega, rfl⟩
theorem infoVal5 : (Tryd.prog.info? 30).map (fun i => (i.zero, i.size, i.bytes)) = some (some (.agg #[.bool false, .int .i64 0, .int .i64 0, .slice none 0 0]), 4, 48) := by kernel_rfl
theorem infoRow5 : (Tryd.prog.info? 27).map (fun i => (i.zero, i.size, i.bytes)) = some (some (.slice none 0 0), 1, 24) := by kernel_rfl
theorem elmVal5 : Elm Tryd.prog 27 30 4 48 := by
  have hi0 : ∃ i, Tryd.prog.info? 30 = some i ∧ i.zero = some (.agg #[.bool false, .int .i64 0, .int .i64 0, .slice none 0 0]) ∧ i.size = 4 ∧ i.bytes = 48 := by
    have h := infoVal5
    cases hq : Tryd.prog.info? 30 with
    | none => rw [hq] at h; cases h
    | some i =>
      rw [hq] at h
      simp only [Option.map_some, Option.some.injEq, Prod.mk.injEq] at h
      exact ⟨i, rfl, h⟩
  obtain ⟨i, h1, h2, h3, h4⟩ := hi0
  exact ⟨Tryd.underlying27, ⟨i, _, h1, h2, h3, h4, rfl⟩, by decide, by decide⟩
theorem elmRow5 : Elm Tryd.prog 23 27 1 24 := by
  have hi0 : ∃ i, Tryd.prog.info? 27 = some i ∧ i.zero = some (.slice none 0 0) ∧ i.size = 1 ∧ i.bytes = 24 := by
    have h := infoRow5
    cases hq : Tryd.prog.info? 27 with
    | none => rw [hq] at h; cases h
    | some i =>
      rw [hq] at h
      simp only [Option.map_some, Option.some.injEq, Prod.mk.injEq] at h
      exact ⟨i, rfl, h⟩
  obtain ⟨i, h1, h2, h3, h4⟩ := hi0
  exact ⟨Tryd.underlying23, ⟨i, _, h1, h2, h3, h4, rfl⟩, by decide, by decide⟩
theorem three_heap {w : World} {X : Nat} {a0 a1 a2 v0 v1 v2 : Value} {T : TypeId} (h : w.heap[X]? = some (.cells #[a0, a1, a2] T (0, 0))) : (((w.setCell ⟨X, 0, none⟩ v0).setCell ⟨X, 1, none⟩ v1).setCell ⟨X, 2, none⟩ v2).heap[X]? = some (.cells #[v0, v1, v2] T (0, 0)) := by
  have h0 := heap_setCell_same w X 0 _ _ v0 h
  have h1 := heap_setCell_same (w.setCell ⟨X, 0, none⟩ v0) X 1 _ _ v1 h0
  have h2 := heap_setCell_same ((w.setCell ⟨X, 0, none⟩ v0).setCell ⟨X, 1, none⟩ v1) X 2 _ _ v2 h1
  simpa using h2
theorem infoRes : (Tryd.prog.info? 25).map (·.size) = some 3 := by kernel_rfl

structure OfI (B X : Nat) (w0 : World) (N : Nat) (L : List (Value × List (Vc × Value))) (ao : Option Addr) (i cap : Nat) (wr : World) : Prop where
  blk : wr.heap[X]? = some (.cells #[.int .i64 0, .int .i64 (N : Int), .slice ao i cap] 25 (0, 0))
  own : wr.ownsRow B 27 1 (.slice ao i cap) i (L.map Prod.fst)
  ne : (Value.slice ao i cap).ownBlock ≠ some X
  bx : B ≤ X
  rows : ∀ x ∈ L, Free (fun b => b ≤ X ∨ (Value.slice ao i cap).ownBlock = some b) wr fun w => RdP w x.1 x.2
  len : L.length = i
  bel : Below B w0 wr
theorem OfI.lt {B X : Nat} {w0 : World} {N : Nat} {L : List (Value × List (Vc × Value))} {ao : Option Addr} {i cap : Nat} {wr : World} (h : OfI B X w0 N L ao i cap wr) : X < wr.heap.size := (Array.getElem?_eq_some_iff.1 h.blk).1
theorem OfI.kept {B X : Nat} {w0 : World} {N : Nat} {L : List (Value × List (Vc × Value))} {ao : Option Addr} {i cap : Nat} {wr w' : World} (h : OfI B X w0 N L ao i cap wr) (hb : Below wr.heap.size wr w') : OfI B X w0 N L ao i cap w' where
  blk := (hb.block X h.lt).trans h.blk
  own := own_keptn h.own hb
  ne := h.ne
  bx := h.bx
  rows := fun x hx => (h.rows x hx).to (agree_below hb hb.size) (fun i hi h2 => by omega) (fun _ _ h => h)
  len := h.len
  bel := h.bel.trans (hb.mono (Nat.le_trans h.bx (Nat.le_of_lt h.lt)))
theorem OfI.add {B X : Nat} {w0 : World} {N : Nat} {L : List (Value × List (Vc × Value))} {ao : Option Addr} {i cap : Nat} {w2 w3 w4 : World} (h : OfI B X w0 N L ao i cap w2) {s : Value} {l : List (Vc × Value)} (hs : ∀ Z : Nat → Prop, (∀ b, Z b → s.ownBlock ≠ some b) → Free Z w2 fun w => RdP w s l)
    (hsx : ∀ b, b ≤ X → s.ownBlock ≠ some b) (hso : ∀ b, (Value.slice ao i cap).ownBlock = some b → s.ownBlock ≠ some b) (hsl : ∀ b, s.ownBlock = some b → b < w2.heap.size) (hb3 : Below w2.heap.size w2 w3) {ao' : Option Addr} {cap' : Nat}
    (hown : w4.ownsRow B 27 1 (.slice ao' (i + 1) cap') (i + 1) (L.map Prod.fst ++ [s])) (hg : w3.grownBy w4 (Value.slice ao i cap).ownBlock) (hnew : ∀ g, (Value.slice ao' (i + 1) cap').ownBlock = some g → (Value.slice ao i cap).ownBlock = some g ∨ g = w3.heap.size) :
    OfI B X w0 N (L ++ [(s, l)]) ao' (i + 1) cap' (w4.setCell ⟨X, 2, none⟩ (.slice ao' (i + 1) cap')) := by
  have h3 := h.kept hb3
  have hA34 : Agree (fun b => b ≤ X ∨ (Value.slice ao i cap).ownBlock = some b) w3 (w4.setCell ⟨X, 2, none⟩ (.slice ao' (i + 1) cap')) :=
    ((agree_grown hg).mono (fun i _ e => .inr e)).set ⟨X, 2, none⟩ _ (.inl (.inl (Nat.le_refl _)))
  have hx4 : w4.heap[X]? = some (.cells #[.int .i64 0, .int .i64 (N : Int), .slice ao i cap] 25 (0, 0)) := (hg.block X h3.lt (fun e => h.ne e.symm)).trans h3.blk
  have hne' : (Value.slice ao' (i + 1) cap').ownBlock ≠ some X := fun e => by
    rcases hnew X e with h1 | h1
    · exact h.ne h1
    · have := h3.lt; omega
  exact {
    blk := by
      have h1 := heap_setCell_same w4 X 2 _ _ (.slice ao' (i + 1) cap') hx4
      simpa only [List.setIfInBounds_toArray, List.set_cons_zero, List.set_cons_succ] using h1
    own := by
      rw [List.map_append]
      exact ownsRow_agree hown (agree_set (fun b => b = X) w4 ⟨X, 2, none⟩ _ rfl) (fun j hj e => by subst e; exact hne' hj)
    ne := hne'
    bx := h.bx
    rows := fun x hx => by
      have hz : ∀ b, b < w3.heap.size → (b ≤ X ∨ (Value.slice ao' (i + 1) cap').ownBlock = some b) → (b ≤ X ∨ (Value.slice ao i cap).ownBlock = some b) := fun b hb e => e.imp_right fun e => (hnew b e).elim id fun e => by omega
      rcases List.mem_append.1 hx with hx | hx
      · exact (h3.rows x hx).to hA34 (fun _ _ e => e) hz
      · rw [List.mem_singleton.1 hx]
        have h1 := hs (fun b => b ≤ X ∨ (Value.slice ao i cap).ownBlock = some b) (fun b e => by
          rcases e with e | e
          · exact hsx b e
          · exact hso b e)
        exact (h1.to (Y := fun b => b ≤ X ∨ (Value.slice ao i cap).ownBlock = some b) (agree_below hb3 hb3.size) (fun i hi h2 => by omega) (fun _ _ h => h)).to hA34 (fun _ _ e => e) hz
    len := by rw [List.length_append, h.len]; rfl
    bel := (Below.grown h3.bel hg (Nat.le_trans h.bx (Nat.le_of_lt h3.lt)) (own_basen h3.own)).setCell (p := ⟨X, 2, none⟩) h.bx _ }

set_option maxRecDepth 100000 in
set_option maxHeartbeats 8000000 in
theorem of_any (n : Nat) (hn : n < 16777216) (w : World) :
    Calls Tryd.prog 5 #[.int .i64 (n : Int)] w fun e w' => ∃ (v : Value) (L : List (Value × List (Vc × Value))), e = .returned (.agg #[.int .i64 (errN n : Int), .int .i64 ((n % 4 : Nat) : Int), v]) ∧ RowsR w' v L ∧ rowsL L = rowsN n ∧ RowsOk L ∧ Below w.heap.size w w' := by
  obtain ⟨N, hN⟩ : ∃ N, N = n % 4 := ⟨_, rfl⟩
  obtain ⟨E, hE⟩ : ∃ E, E = n / 4 % 8 := ⟨_, rfl⟩
  obtain ⟨C, hC⟩ : ∃ C, C = n / 32 % 4 := ⟨_, rfl⟩
  have hC3 : C ≤ 3 := by omega
  have f1 : bits .and .i64 (n : Int) 3 = (N : Int) := by rw [and_low _ 2 (by decide) 3 rfl, hN]; omega
  have f2 : bits .and .i64 ((n : Int) / 4) 7 = (E : Int) := by rw [and_low _ 3 (by decide) 7 rfl, hE]; omega
  have f3 : bits .and .i64 ((n : Int) / 32) 3 = (C : Int) := by rw [and_low _ 2 (by decide) 3 rfl, hC]; omega
  have HN := Lib.hid hN
  have HE := Lib.hid hE
  have HC := Lib.hid hC
  clear hN hE hC
  go_enter Tryd.func5, Tryd.ntmps5
  by_cases h0 : E = 0
  · have hz : ((E : Int) == 0) = true := by rw [beq_iff_eq]; omega
    have f4 : IntKind.i64.wrap (1 + (C : Int)) = 1 + (C : Int) := IntWalk.i64_in _ (by omega)
    have hz2 := heap_alloc_new w (.cells #[.int .i64 0, .int .i64 0, .slice none 0 0] 25)
    have hy2 := (heap_alloc_old (w.alloc (.cells #[.int .i64 0, .int .i64 0, .slice none 0 0] 25)) (.cells #[.int .i64 0, .int .i64 (N : Int), .slice none 0 0] 25) (r := w.heap.size) (by simp)).trans hz2
    have hb2 := below_lay (below_alloc w (.cells #[.int .i64 0, .int .i64 0, .slice none 0 0] 25)) (.cells #[.int .i64 0, .int .i64 (N : Int), .slice none 0 0] 25)
    go_upto_region 3 with (fail)
    obtain ⟨W, hW⟩ : ∃ W : World, W = (w.alloc (.cells #[.int .i64 0, .int .i64 0, .slice none 0 0] 25)).alloc (.cells #[.int .i64 0, .int .i64 (N : Int), .slice none 0 0] 25) := ⟨_, rfl⟩
    obtain ⟨Y, hY⟩ : ∃ Y, Y = w.heap.size := ⟨_, rfl⟩
    rw [← hW] at hy2 hb2 ⊢
    rw [← hY] at hy2 ⊢
    have HY := Lib.hid hy2
    have HYY := Lib.hid hY
    have HB := Lib.hid hb2
    have cy0 : W.cell? ⟨Y, 0, none⟩ = some (.int .i64 0) := by rw [cell_of_row W Y 0 _ _ _ hy2]; rfl
    have cyf0 : W.frozen? ⟨Y, 0, none⟩ = false := frozen_of_row W Y 0 _ _ hy2
    have cy1 : W.cell? ⟨Y, 1, none⟩ = some (.int .i64 0) := by rw [cell_of_row W Y 1 _ _ _ hy2]; rfl
    have cyf1 : W.frozen? ⟨Y, 1, none⟩ = false := frozen_of_row W Y 1 _ _ hy2
    have cy2 : W.cell? ⟨Y, 2, none⟩ = some (.slice none 0 0) := by rw [cell_of_row W Y 2 _ _ _ hy2]; rfl
    have cyf2 : W.frozen? ⟨Y, 2, none⟩ = false := frozen_of_row W Y 2 _ _ hy2
    clear hW hY hz2 hy2 hb2
    go_wp2_with fail
    refine bodyPost_ret (results_cell_row rfl _ _ Y _ _ (0, 0) _ rfl (three_heap HY.out) Tryd.underlying25 rfl infoRes) rfl ?_
    have h1 : n / 4 % 8 = 0 := HE.out ▸ h0
    refine ⟨.slice none 0 0, [], ?_, ⟨RdS.nil _ 1, fun x hx => by cases hx⟩, ?_, ⟨Nat.zero_le _, (fun x hx => by cases hx), (fun x hx => by cases hx)⟩, ?_⟩
    · unfold errN
      rw [if_pos h1, ← HC.out, ← HN.out]
      push_cast
      rfl
    · unfold rowsN rowsL
      rw [if_pos h1]
      rfl
    · have hY := HYY.out
      exact ((HB.out.setCell (p := ⟨Y, 0, none⟩) (by show _ ≤ Y; omega) _).setCell (p := ⟨Y, 1, none⟩) (by show _ ≤ Y; omega) _).setCell (p := ⟨Y, 2, none⟩) (by show _ ≤ Y; omega) _
  · have hz : ((E : Int) == 0) = false := by rw [beq_eq_false_iff_ne]; omega
    have hy2 := (heap_alloc_old (w.alloc (.cells #[.int .i64 0, .int .i64 0, .slice none 0 0] 25)) (.cells #[.int .i64 0, .int .i64 (N : Int), .slice none 0 0] 25) (r := w.heap.size) (by simp)).trans (heap_alloc_new w (.cells #[.int .i64 0, .int .i64 0, .slice none 0 0] 25))
    have hx2 := heap_alloc_new (w.alloc (.cells #[.int .i64 0, .int .i64 0, .slice none 0 0] 25)) (.cells #[.int .i64 0, .int .i64 (N : Int), .slice none 0 0] 25)
    have hb2 := below_lay (below_alloc w (.cells #[.int .i64 0, .int .i64 0, .slice none 0 0] 25)) (.cells #[.int .i64 0, .int .i64 (N : Int), .slice none 0 0] 25)
    have hs2 : (w.alloc (.cells #[.int .i64 0, .int .i64 0, .slice none 0 0] 25)).heap.size = w.heap.size + 1 := by simp
    rw [hs2] at hx2
    go_upto_region 4 with (fail)
    obtain ⟨W, hW⟩ : ∃ W : World, W = (w.alloc (.cells #[.int .i64 0, .int .i64 0, .slice none 0 0] 25)).alloc (.cells #[.int .i64 0, .int .i64 (N : Int), .slice none 0 0] 25) := ⟨_, rfl⟩
    obtain ⟨Y, hY⟩ : ∃ Y, Y = w.heap.size := ⟨_, rfl⟩
    rw [← hW] at hy2 hb2 hx2 ⊢
    rw [← hY] at hy2 hx2 ⊢
    obtain ⟨X, hX⟩ : ∃ X, X = Y + 1 := ⟨_, rfl⟩
    rw [← hX] at hx2 ⊢
    have HY := Lib.hid hy2
    have HYY := Lib.hid hY
    have HXX := Lib.hid hX
    have HI0 := Lib.hid (show OfI X X W N [] none 0 0 W from ⟨hx2, World.ownsRow_nil .., (by simp [Value.ownBlock]), Nat.le_refl _, (fun x hx => by cases hx), rfl, Below.refl _ _⟩)
    have HB := Lib.hid hb2
    have HE0 := Lib.hid h0
    clear hW hY hX hx2 hy2 hb2 hs2 hz h0
    go_wp2_with fail
    go_loopw [4] (fun i wr => ∃ (q : Nat) (ao : Option Addr) (cap : Nat) (L : List (Value × List (Vc × Value))), q ≤ C ∧ i = .int .i64 (q : Int) ∧ OfI X X W N L ao q cap wr ∧ rowsL L = (List.range q).map (rowN n)) (fun i _ => C - (intOf i).toNat)
    case atStart => exact ⟨0, none, 0, [], Nat.zero_le _, rfl, HI0.out, rfl⟩
    case round =>
      obtain ⟨q, ao, cap, L, hq, rfl, hI, hL⟩ := hrel
      have HI := Lib.hid hI
      have HL := Lib.hid hL
      clear hI hL HI0
      by_cases hlt : q < C
      · have hd : decide ((q : Int) < (C : Int)) = true := by simp; omega
        obtain ⟨b, hb⟩ : ∃ b, b = n / 2 ^ (7 + q) % 2 := ⟨_, rfl⟩
        have HBB := Lib.hid hb
        have g1 : bits .and .i64 ((n : Int) / 2 ^ (7 + q)) 1 = (b : Int) := by
          rw [and_low _ 1 (by decide) 1 rfl, hb]
          push_cast
          rfl
        have hb2 : b ≤ 1 := by omega
        have g2 : IntKind.i64.wrap (1 + (b : Int)) = 1 + (b : Int) := IntWalk.i64_in _ (by omega)
        clear hb
        obtain ⟨W1, hW1⟩ : ∃ W1 : World, W1 = wr := ⟨_, rfl⟩
        rw [← hW1] at HI ⊢
        clear hW1
        go_upto_region 9 with (fail)
        go_wp2_with fail
        go_loopw [5, 6] (fun row k wr2 => ∃ (j : Nat) (ro : Option Addr) (rc : Nat) (l : List (Vc × Value)), j ≤ 1 + b ∧ k = .int .i64 (j : Int) ∧ row = .slice ro j rc ∧ wr2.ownsRow W1.heap.size 30 4 (.slice ro j rc) j (l.map cellsV).flatten ∧ l.map Prod.fst = (List.range j).map (eltN n q) ∧ (∀ t ∈ l, t.2 = .slice none 0 0 ∧ t.1.b = []) ∧ Below W1.heap.size W1 wr2) (fun _ k _ => 1 + b - (intOf k).toNat)
        case atStart => exact ⟨0, none, 0, [], Nat.zero_le _, rfl, rfl, World.ownsRow_nil .., rfl, (fun t ht => by cases ht), Below.refl _ _⟩
        case round =>
          obtain ⟨j, ro, rc, l, hj, rfl, rfl, hown, hl, h0, hb⟩ := hrel
          have HO := Lib.hid hown
          have HLL := Lib.hid hl
          have H0 := Lib.hid h0
          have HB1 := Lib.hid hb
          clear hown hl h0 hb
          by_cases hj2 : j < 1 + b
          · have hd2 : decide ((j : Int) < 1 + (b : Int)) = true := by simp; omega
            obtain ⟨y, hy⟩ : ∃ y, y = n / 2 ^ (10 + 2 * q + j) % 4 := ⟨_, rfl⟩
            have g3 : bits .and .i64 ((n : Int) / 2 ^ (10 + 2 * q + j)) 3 = (y : Int) := by
              rw [and_low _ 2 (by decide) 3 rfl, hy]
              push_cast
              rfl
            have HY2 := Lib.hid hy
            have HRL := Lib.hid (rdS_lit wr #[.bool false, .int .i64 1, .int .i64 (y : Int), .slice none 0 0] 30 4 rfl)
            have HO2 := Lib.hid (HO.out.alloc (.cells #[.bool false, .int .i64 1, .int .i64 (y : Int), .slice none 0 0] 30))
            have HB2 := Lib.hid (below_lay HB1.out (.cells #[.bool false, .int .i64 1, .int .i64 (y : Int), .slice none 0 0] 30))
            clear hy
            go_wp2_with (at_builtin; go_must (refine wpList_append_k elmVal5 rfl _ _ rfl W1.heap.size _ _ _ rfl HO2.out _ [[.bool false, .int .i64 1, .int .i64 (y : Int), .slice none 0 0]] rfl HRL.out (fun t ht => by rw [List.mem_singleton.1 ht]; exact ⟨rfl, fun u hu => by simp at hu; rcases hu with h | h | h | h <;> rw [h] <;> rfl⟩) (by simp only [List.length_cons, List.length_nil]; omega) HB2.out.size (j + 1) rfl ?_); intro ao4 cap4 w4 hown4 hgrow4 hnew4)
            go_roundw
            case rel =>
              refine ⟨j + 1, ao4, cap4, l ++ [(eltN n q j, .slice none 0 0)], by omega, by go_num, rfl, ?_, ?_, ?_, ?_⟩
              · rw [List.map_append, List.flatten_append]
                unfold eltN
                rw [← HY2.out]
                exact hown4
              · rw [List.map_append, HLL.out, List.range_succ, List.map_append]
                rfl
              · exact fun t ht => by
                  rcases List.mem_append.1 ht with h | h
                  · exact H0.out t h
                  · rw [List.mem_singleton.1 h]; exact ⟨rfl, rfl⟩
              · exact Below.grown HB2.out hgrow4 HB2.out.size (own_basen HO2.out)
            case measure => simp [intOf]; omega
          · have hjb : j = 1 + b := by omega
            have hd2 : decide ((j : Int) < 1 + (b : Int)) = false := by simp; omega
            have HJB := Lib.hid hjb
            clear hjb
            have HI2 := Lib.hid (HI.out.kept HB1.out)
            have hI2 := HI2.out.blk
            have cx2 : wr.cell? ⟨X, 2, none⟩ = some (.slice ao q cap) := by rw [cell_of_row wr X 2 _ _ _ hI2]; rfl
            have HRL := Lib.hid (rdS_lit wr #[.slice ro j rc] 27 1 rfl)
            have HO2 := Lib.hid ((HI2.out.own).alloc (.cells #[.slice ro j rc] 27))
            have HB2 := Lib.hid (below_alloc wr (.cells #[.slice ro j rc] 27))
            have HXL := Lib.hid HI2.out.lt
            have HXW1 := Lib.hid HI.out.lt
            clear hI2
            go_wp2_with (at_builtin; go_must (refine wpList_append_k elmRow5 rfl _ _ rfl X _ _ _ rfl HO2.out _ [[.slice ro j rc]] rfl HRL.out (fun t ht => by rw [List.mem_singleton.1 ht]; exact ⟨rfl, fun u hu => by rw [List.mem_singleton.1 hu]; rfl⟩) (by simp only [List.length_cons, List.length_nil]; omega) (Nat.le_trans (Nat.le_of_lt HXL.out) HB2.out.size) (q + 1) rfl ?_); intro ao4 cap4 w4 hown4 hgrow4 hnew4; have hx4 := (hgrow4.block X (Nat.lt_of_lt_of_le HXL.out HB2.out.size) (fun e => HI2.out.ne e.symm)).trans ((HB2.out.block X HXL.out).trans HI2.out.blk); have c42 : w4.cell? ⟨X, 2, none⟩ = some (.slice ao q cap) := (by rw [cell_of_row w4 X 2 _ _ _ hx4]; rfl); have f42 : w4.frozen? ⟨X, 2, none⟩ = false := frozen_of_row w4 X 2 _ _ hx4)
            go_roundw
            case rel =>
              refine ⟨q + 1, ao4, cap4, L ++ [(.slice ro j rc, l)], by omega, by go_num, ?_, ?_⟩
              · refine HI2.out.add (fun Z hZ w' ha => ?_) (fun b hb e => ?_) (fun b hb e => ?_) (own_lt2m HO.out) HB2.out hown4 hgrow4 hnew4
                · have ho := ownsRow_agree HO.out ha (fun i hi hz => hZ i hz hi)
                  refine ⟨rdS_own ho (by rw [List.length_map]; have h1 := congrArg List.length HLL.out; rw [List.length_map, List.length_map, List.length_range] at h1; exact h1.symm) (fun t ht => by obtain ⟨x, _, rfl⟩ := List.mem_map.1 ht; rfl), fun t ht => ?_⟩
                  obtain ⟨h1, h2⟩ := H0.out t ht
                  refine ⟨?_, fun x hx => by rw [h2] at hx; cases hx⟩
                  rw [h1, h2]
                  exact Rd.nil _
                · have h1 := own_basen HO.out b e
                  have h2 := HXW1.out
                  omega
                · have h1 := own_basen HO.out b e
                  have h2 := own_lt2m HI.out.own b hb
                  omega
              · unfold rowsL at *
                have h1 := HL.out
                rw [List.map_append, h1, List.range_succ, List.map_append, List.map_cons, List.map_nil, List.map_cons, List.map_nil]
                have h2 : l.map Prod.fst = rowN n q := by rw [HLL.out, HJB.out, HBB.out]; rfl
                rw [h2]
            case measure => simp [intOf]; omega
      · have hqC : q = C := by omega
        subst hqC
        have hd : decide ((q : Int) < (q : Int)) = false := by simp
        have hI := HI.out.blk
        have hYX : Y < X := by rw [HXX.out]; omega
        have hYb := (HI.out.bel.block Y hYX).trans HY.out
        have HYB := Lib.hid hYb
        have cx0 : wr.cell? ⟨X, 0, none⟩ = some (.int .i64 0) := by rw [cell_of_row wr X 0 _ _ _ hI]; rfl
        have cx1 : wr.cell? ⟨X, 1, none⟩ = some (.int .i64 (N : Int)) := by rw [cell_of_row wr X 1 _ _ _ hI]; rfl
        have cx2 : wr.cell? ⟨X, 2, none⟩ = some (.slice ao q cap) := by rw [cell_of_row wr X 2 _ _ _ hI]; rfl
        have cy0 : wr.cell? ⟨Y, 0, none⟩ = some (.int .i64 0) := by rw [cell_of_row wr Y 0 _ _ _ hYb]; rfl
        have cyf0 : wr.frozen? ⟨Y, 0, none⟩ = false := frozen_of_row wr Y 0 _ _ hYb
        have cy1 : wr.cell? ⟨Y, 1, none⟩ = some (.int .i64 0) := by rw [cell_of_row wr Y 1 _ _ _ hYb]; rfl
        have cyf1 : wr.frozen? ⟨Y, 1, none⟩ = false := frozen_of_row wr Y 1 _ _ hYb
        have cy2 : wr.cell? ⟨Y, 2, none⟩ = some (.slice none 0 0) := by rw [cell_of_row wr Y 2 _ _ _ hYb]; rfl
        have cyf2 : wr.frozen? ⟨Y, 2, none⟩ = false := frozen_of_row wr Y 2 _ _ hYb
        clear hI hYb
        go_wp2_with fail
        refine bodyPost_ret (results_cell_row rfl _ _ Y _ _ (0, 0) _ rfl (three_heap HYB.out) Tryd.underlying25 rfl infoRes) rfl ?_
        have hYw := HYY.out
        have hA : Agree (fun b => b ≤ X ∨ (Value.slice ao q cap).ownBlock = some b) wr (((wr.setCell ⟨Y, 0, none⟩ (.int .i64 0)).setCell ⟨Y, 1, none⟩ (.int .i64 (N : Int))).setCell ⟨Y, 2, none⟩ (.slice ao q cap)) :=
          (((Agree.refl _ wr).set ⟨Y, 0, none⟩ _ (.inl (.inl (Nat.le_of_lt hYX)))).set ⟨Y, 1, none⟩ _ (.inl (.inl (Nat.le_of_lt hYX)))).set ⟨Y, 2, none⟩ _ (.inl (.inl (Nat.le_of_lt hYX)))
        have hA2 : Agree (fun b => b = Y) wr (((wr.setCell ⟨Y, 0, none⟩ (.int .i64 0)).setCell ⟨Y, 1, none⟩ (.int .i64 (N : Int))).setCell ⟨Y, 2, none⟩ (.slice ao q cap)) :=
          (((Agree.refl (fun b => b = Y) wr).set ⟨Y, 0, none⟩ _ (.inl rfl)).set ⟨Y, 1, none⟩ _ (.inl rfl)).set ⟨Y, 2, none⟩ _ (.inl rfl)
        have hE1 : ¬ n / 4 % 8 = 0 := fun e => HE0.out (HE.out.trans e)
        refine ⟨.slice ao q cap, L, ?_, ⟨?_, fun x hx => HI.out.rows x hx _ hA⟩, ?_, ⟨by rw [HI.out.len]; omega, fun x hx => ?_, fun x hx t ht => ?_⟩, ?_⟩
        · unfold errN
          rw [if_neg hE1, ← HN.out]
          rfl
        · refine rdS_own (ls := L.map fun x => [x.1]) (B := X) (E := 27) ?_ (by rw [List.length_map, HI.out.len]) (fun t ht => by obtain ⟨x, _, rfl⟩ := List.mem_map.1 ht; rfl)
          have e1 : (L.map fun x => [x.1]).flatten = L.map Prod.fst := by
            have h := flat_ones (L.map Prod.fst)
            rw [List.map_map] at h
            exact h
          rw [e1]
          exact ownsRow_agree HI.out.own hA2 (fun i hi e => by have h1 := own_basen HI.out.own i hi; omega)
        · rw [HL.out]
          unfold rowsN
          rw [if_neg hE1, ← HC.out]
        · have h1 : x.2.map Prod.fst ∈ rowsL L := List.mem_map.2 ⟨x, hx, rfl⟩
          rw [HL.out] at h1
          obtain ⟨i, _, hi⟩ := List.mem_map.1 h1
          have h2 := congrArg List.length hi
          unfold rowN at h2
          rw [List.length_map, List.length_map, List.length_range] at h2
          omega
        · have h1 : x.2.map Prod.fst ∈ rowsL L := List.mem_map.2 ⟨x, hx, rfl⟩
          rw [HL.out] at h1
          obtain ⟨i, _, hi⟩ := List.mem_map.1 h1
          have h2 : t.1 ∈ rowN n i := by rw [hi]; exact List.mem_map_of_mem ht
          obtain ⟨k, _, hk⟩ := List.mem_map.1 h2
          rw [← hk]
          exact eltN_ok n i k
        · have hb0 := HB.out.trans (HI.out.bel.mono (show w.heap.size ≤ X by omega))
          exact ((hb0.setCell (p := ⟨Y, 0, none⟩) (by show _ ≤ Y; omega) _).setCell (p := ⟨Y, 1, none⟩) (by show _ ≤ Y; omega) _).setCell (p := ⟨Y, 2, none⟩) (by show _ ≤ Y; omega) _
end Go.Proofs.YtblnpkameboohaaDoor
