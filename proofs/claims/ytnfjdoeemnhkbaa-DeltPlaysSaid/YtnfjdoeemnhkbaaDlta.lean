/-
  Contracts of layer 12: versions; cmp.Compare at int, BinarySearchFunc of versions, find; New; fresh.Version.
-/
import Derived.Test.YtnfjdoeemnhkbaaFrow
import Derived.Test.YtnfjdoeemnhkbaaFrAp
import Derived.Test.YtnfjdoeemnhkbaaLsix
namespace Go.Proofs.Ytnfjdoeemnhkbaa
set_option linter.unusedVariables false
set_option linter.unusedSimpArgs false
open Go.RowKit

/-- A version, its row a slice. -/
structure Vr where
  i : Int
  ra : Option Addr
  rn : Nat
  rc : Nat
  s1 : Int
  s2 : Int
  s3 : Int
  s4 : Int
def Vr.cells (x : Vr) : List Value := [.int .i64 x.i, .slice x.ra x.rn x.rc, .int .i64 x.s1, .int .i64 x.s2, .int .i64 x.s3, .int .i64 x.s4]
/-- Their IDs rise. -/
def Rise (vs : List Vr) : Prop := ∀ (i j : Nat) (a b : Vr), i < j → vs[i]? = some a → vs[j]? = some b → a.i < b.i
/-- Where an ID stands among them, and whether it does. -/
def FindR (vs : List Vr) (t : Int) (i : Nat) (b : Bool) : Prop := i ≤ vs.length ∧ (∀ (k : Nat) (x : Vr), k < i → vs[k]? = some x → x.i < t) ∧ (∀ (k : Nat) (x : Vr), i ≤ k → vs[k]? = some x → t ≤ x.i) ∧ b = (vs[i]?.map Vr.i == some t)

set_option maxRecDepth 100000 in
set_option maxHeartbeats 8000000 in
theorem icompare_any (a b : Int) (w : World) :
    Calls Try.prog 106 #[.int .i64 a, .int .i64 b] w fun e w' => e = .returned (.int .i64 (cmpZ a b)) ∧ w = w' := by
  unfold cmpZ
  rcases (by omega : a < b ∨ a = b ∨ b < a) with h | h | h
  · have q1 : decide (a < b) = true := decide_eq_true h
    rw [if_pos h]
    clear h
    go_enter Try.func106, Try.ntmps106
    go_wp2
    go_ret
    exact ⟨rfl, rfl⟩
  · subst h
    rw [if_neg (Int.lt_irrefl a)]
    go_enter Try.func106, Try.ntmps106
    go_wp2
    go_ret
    exact ⟨rfl, rfl⟩
  · rw [if_neg (by omega), if_pos h]
    go_enter Try.func106, Try.ntmps106
    go_wp2
    go_ret
    exact ⟨rfl, rfl⟩

set_option maxRecDepth 100000 in
set_option maxHeartbeats 8000000 in
theorem find1_any (xi x1 x2 x3 x4 t : Int) (xra : Option Addr) (xrn xrc : Nat) (w : World) :
    Calls Try.prog 105 #[.agg #[.int .i64 xi, .slice xra xrn xrc, .int .i64 x1, .int .i64 x2, .int .i64 x3, .int .i64 x4], .int .i64 t] w fun e w' => e = .returned (.int .i64 (cmpZ xi t)) ∧ Below w.heap.size w w' := by
  go_enter Try.func105, Try.ntmps105
  go_wp2_with fail
  refine (icompare_any xi t _).mono ?_
  rintro e w2 ⟨rfl, rfl⟩
  go_wp2_with fail
  go_ret
  exact ⟨rfl, below_alloc w _⟩

set_option maxRecDepth 100000 in
set_option maxHeartbeats 8000000 in
theorem bsearch_any (vs : List Vr) (hl : vs.length ≤ 100000) (hs : Rise vs) (v : Value) (t : Int) (w : World) (hr : RdS w 6 v (vs.map Vr.cells)) :
    Calls Try.prog 104 #[v, .int .i64 t, .func (.func 105) #[] #[]] w fun e w' => ∃ (i : Nat) (b : Bool), e = .returned (.tuple #[.int .i64 (i : Int), .bool b]) ∧ FindR vs t i b ∧ Below w.heap.size w w' := by
  obtain ⟨va, vc, rfl⟩ := rdS_shape hr
  obtain ⟨n, hn⟩ : ∃ n, n = vs.length := ⟨_, rfl⟩
  rw [List.length_map, ← hn] at hr ⊢
  rw [← hn] at hl
  have HN := Lib.hid hn
  have HR := Lib.hid hr
  have HRI := Lib.hid hs
  clear hn hr hs
  go_enter Try.func104, Try.ntmps104
  go_wp2_with fail
  go_loopw [9, 10] (fun a c wr => ∃ i j : Nat, i ≤ j ∧ j ≤ n ∧ a = .int .i64 (i : Int) ∧ c = .int .i64 (j : Int) ∧ (∀ (k : Nat) (x : Vr), k < i → vs[k]? = some x → x.i < t) ∧ (∀ (k : Nat) (x : Vr), j ≤ k → vs[k]? = some x → t ≤ x.i) ∧ Below w.heap.size w wr) (fun a c _ => (intOf c).toNat - (intOf a).toNat)
  case atStart => exact ⟨0, n, Nat.zero_le _, Nat.le_refl _, rfl, rfl, (fun k x h => by omega), (fun k x h hx => by have := (List.getElem?_eq_some_iff.1 hx).1; have := HN.out; omega), Below.refl _ _⟩
  case round =>
    obtain ⟨i, j, hij, hjn, rfl, rfl, hlo, hhi, hb⟩ := hrel
    have HB := Lib.hid hb
    have HLO := Lib.hid hlo
    have HHI := Lib.hid hhi
    clear hlo hhi
    by_cases hlt : i < j
    · obtain ⟨H, hH⟩ : ∃ H, H = (i + j) / 2 := ⟨_, rfl⟩
      have h1 : i ≤ H ∧ H < j := by omega
      obtain ⟨hiH, hHj⟩ := h1
      have hHn : H < n := by omega
      have hHni : (H : Int) < (n : Int) := by omega
      have hH0 : (0 : Int) ≤ (H : Int) := by omega
      have e1 : IntKind.i64.wrap ((i : Int) + (j : Int)) = (i : Int) + (j : Int) := IntWalk.i64_in _ (by omega)
      have e2 : IntKind.u64.wrap ((i : Int) + (j : Int)) = (i : Int) + (j : Int) := IntWalk.u64_in _ (by omega)
      have e3 : ((i : Int) + (j : Int)) / 2 = (H : Int) := by rw [hH]; omega
      have e4 : IntKind.i64.wrap (H : Int) = (H : Int) := IntWalk.i64_in _ (by omega)
      obtain ⟨x, hx⟩ : ∃ x, vs[H]? = some x := ⟨_, List.getElem?_eq_getElem (by rw [← HN.out]; exact hHn)⟩
      have HX := Lib.hid hx
      obtain ⟨b, off, rfl, hcell⟩ := (HR.out.kept hb).at (k := H) (t := x.cells) (by rw [List.getElem?_map, hx]; rfl)
      obtain ⟨xi, xra, xrn, xrc, x1, x2, x3, x4⟩ := x
      unfold Vr.cells at hcell
      simp only at hcell
      have k0 : wr.cell? ⟨b, off + H * 6, none⟩ = some (.int .i64 xi) := by have h := hcell 0 _ rfl; simpa using h
      have k1 : wr.cell? ⟨b, off + H * 6 + 1, none⟩ = some (.slice xra xrn xrc) := by have h := hcell 1 _ rfl; simpa using h
      have k2 : wr.cell? ⟨b, off + H * 6 + 2, none⟩ = some (.int .i64 x1) := by have h := hcell 2 _ rfl; simpa using h
      have k3 : wr.cell? ⟨b, off + H * 6 + 3, none⟩ = some (.int .i64 x2) := by have h := hcell 3 _ rfl; simpa using h
      have k4 : wr.cell? ⟨b, off + H * 6 + 4, none⟩ = some (.int .i64 x3) := by have h := hcell 4 _ rfl; simpa using h
      have k5 : wr.cell? ⟨b, off + H * 6 + 5, none⟩ = some (.int .i64 x4) := by have h := hcell 5 _ rfl; simpa using h
      clear hcell hx hb hH
      have hij2 : (i : Int) < (j : Int) := by omega
      by_cases hc : xi < t
      · have HCZ := Lib.hid (show cmpZ xi t = -1 by unfold cmpZ; rw [if_pos hc])
        have HC := Lib.hid hc
        clear hc
        go_wp2_with fail
        refine (find1_any xi x1 x2 x3 x4 t xra xrn xrc wr).mono ?_
        rintro e w2 ⟨rfl, hb2⟩
        have HB2 := Lib.hid (below_then HB.out hb2)
        clear hb2
        rw [HCZ.out]
        go_wp2_with fail
        go_roundw
        case rel =>
          refine ⟨H + 1, j, by omega, hjn, by go_num, rfl, fun k y hk hy => ?_, HHI.out, HB2.out⟩
          by_cases h : k = H
          · subst h
            rw [HX.out] at hy
            simp only [Option.some.injEq] at hy
            rw [← hy]; exact HC.out
          · have h2 := HRI.out k H y _ (by omega) hy HX.out
            have h3 := HC.out
            simp only at h2
            omega
        case measure => simp [intOf]; omega
      · have HC := Lib.hid hc
        by_cases hc2 : xi = t
        · have HCZ := Lib.hid (show cmpZ xi t = 0 by unfold cmpZ; rw [if_neg hc, if_neg (by omega)])
          clear hc hc2
          go_wp2_with fail
          refine (find1_any xi x1 x2 x3 x4 t xra xrn xrc wr).mono ?_
          rintro e w2 ⟨rfl, hb2⟩
          have HB2 := Lib.hid (below_then HB.out hb2)
          clear hb2
          rw [HCZ.out]
          go_wp2_with fail
          go_roundw
          case rel =>
            refine ⟨i, H, hiH, by omega, rfl, rfl, HLO.out, fun k y hk hy => ?_, HB2.out⟩
            by_cases h : k = H
            · subst h
              rw [HX.out] at hy
              simp only [Option.some.injEq] at hy
              rw [← hy]; have := HC.out; simp only; omega
            · have h2 := HRI.out H k _ y (by omega) HX.out hy
              have h3 := HC.out
              simp only at h2
              omega
          case measure => simp [intOf]; omega
        · have HCZ := Lib.hid (show cmpZ xi t = 1 by unfold cmpZ; rw [if_neg hc, if_pos (by omega)])
          clear hc hc2
          go_wp2_with fail
          refine (find1_any xi x1 x2 x3 x4 t xra xrn xrc wr).mono ?_
          rintro e w2 ⟨rfl, hb2⟩
          have HB2 := Lib.hid (below_then HB.out hb2)
          clear hb2
          rw [HCZ.out]
          go_wp2_with fail
          go_roundw
          case rel =>
            refine ⟨i, H, hiH, by omega, rfl, rfl, HLO.out, fun k y hk hy => ?_, HB2.out⟩
            by_cases h : k = H
            · subst h
              rw [HX.out] at hy
              simp only [Option.some.injEq] at hy
              rw [← hy]; have := HC.out; simp only; omega
            · have h2 := HRI.out H k _ y (by omega) HX.out hy
              have h3 := HC.out
              simp only at h2
              omega
          case measure => simp [intOf]; omega
    · have hij2 : i = j := by omega
      subst hij2
      have hijn : ¬ (i : Int) < (i : Int) := by omega
      by_cases hin : i < n
      · obtain ⟨x, hx⟩ : ∃ x, vs[i]? = some x := ⟨_, List.getElem?_eq_getElem (by rw [← HN.out]; exact hin)⟩
        have HX := Lib.hid hx
        have hini : (i : Int) < (n : Int) := by omega
        have hi0 : (0 : Int) ≤ (i : Int) := by omega
        obtain ⟨b, off, rfl, hcell⟩ := (HR.out.kept hb).at (k := i) (t := x.cells) (by rw [List.getElem?_map, hx]; rfl)
        obtain ⟨xi, xra, xrn, xrc, x1, x2, x3, x4⟩ := x
        unfold Vr.cells at hcell
        simp only at hcell
        have k0 : wr.cell? ⟨b, off + i * 6, none⟩ = some (.int .i64 xi) := by have h := hcell 0 _ rfl; simpa using h
        have k1 : wr.cell? ⟨b, off + i * 6 + 1, none⟩ = some (.slice xra xrn xrc) := by have h := hcell 1 _ rfl; simpa using h
        have k2 : wr.cell? ⟨b, off + i * 6 + 2, none⟩ = some (.int .i64 x1) := by have h := hcell 2 _ rfl; simpa using h
        have k3 : wr.cell? ⟨b, off + i * 6 + 3, none⟩ = some (.int .i64 x2) := by have h := hcell 3 _ rfl; simpa using h
        have k4 : wr.cell? ⟨b, off + i * 6 + 4, none⟩ = some (.int .i64 x3) := by have h := hcell 4 _ rfl; simpa using h
        have k5 : wr.cell? ⟨b, off + i * 6 + 5, none⟩ = some (.int .i64 x4) := by have h := hcell 5 _ rfl; simpa using h
        clear hcell hx hb
        have HT := Lib.hid (show t ≤ xi from HHI.out i _ (Nat.le_refl _) HX.out)
        by_cases hc : xi = t
        · have HCZ := Lib.hid (show cmpZ xi t = 0 by unfold cmpZ; rw [if_neg (by omega), if_neg (by omega)])
          have HC := Lib.hid hc
          clear hc
          go_wp2_with fail
          refine (find1_any xi x1 x2 x3 x4 t xra xrn xrc wr).mono ?_
          rintro e w2 ⟨rfl, hb2⟩
          have HB2 := Lib.hid (below_then HB.out hb2)
          clear hb2
          rw [HCZ.out]
          go_wp2_with fail
          go_ret2
          exact ⟨i, true, rfl, ⟨by have := HN.out; omega, HLO.out, HHI.out, by rw [HX.out, ← HC.out]; simp⟩, HB2.out⟩
        · have HCZ := Lib.hid (show cmpZ xi t = 1 by have := HT.out; unfold cmpZ; rw [if_neg (by omega), if_pos (by omega)])
          have HC := Lib.hid hc
          clear hc
          go_wp2_with fail
          refine (find1_any xi x1 x2 x3 x4 t xra xrn xrc wr).mono ?_
          rintro e w2 ⟨rfl, hb2⟩
          have HB2 := Lib.hid (below_then HB.out hb2)
          clear hb2
          rw [HCZ.out]
          go_wp2_with fail
          go_ret2
          exact ⟨i, false, rfl, ⟨by have := HN.out; omega, HLO.out, HHI.out, by rw [HX.out]; have := HC.out; simp only [Option.map_some]; symm; rw [beq_eq_false_iff_ne]; intro h; exact this (by simpa using h)⟩, HB2.out⟩
      · have hni : i = n := by omega
        have hini : ¬ (i : Int) < (n : Int) := by omega
        have HNI := Lib.hid (show vs[i]? = none from List.getElem?_eq_none (by rw [← HN.out]; omega))
        clear hb hni
        go_wp2_with fail
        go_ret2
        exact ⟨i, .inl ⟨rfl, ⟨by have := HN.out; omega, HLO.out, HHI.out, by rw [HNI.out]; rfl⟩, HB.out⟩⟩

set_option maxRecDepth 100000 in
set_option maxHeartbeats 8000000 in
theorem find_any (vs : List Vr) (hl : vs.length ≤ 100000) (hs : Rise vs) (va : Option Addr) (n vc d : Nat) (most t : Int) (w : World) (hn : n = vs.length) (hr : RdS w 6 (.slice va n vc) (vs.map Vr.cells)) (hd : w.heap[d]? = some (.cells #[.int .i64 most, .slice va n vc] 121 (0, 0))) :
    Calls Try.prog 74 #[.pointer (some ⟨d, 0, none⟩), .int .i64 t] w fun e w' => ∃ (i : Nat) (b : Bool), e = .returned (.tuple #[.int .i64 (i : Int), .bool b]) ∧ FindR vs t i b ∧ Below w.heap.size w w' := by
  have HC := Lib.hid (bsearch_any vs hl hs _ t w hr)
  have c1 : w.cell? ⟨d, 1, none⟩ = some (.slice va n vc) := by rw [cell_of_row w d 1 _ _ _ hd]; rfl
  clear hr hd hn
  go_enter Try.func74, Try.ntmps74
  go_wp2_with fail
  refine HC.out.mono ?_
  rintro e w2 ⟨i, b, rfl, h1, hb2⟩
  have H1 := Lib.hid h1
  have HB := Lib.hid hb2
  clear h1 hb2 c1
  go_wp2_with fail
  go_ret2
  exact ⟨i, b, rfl, H1.out, HB.out⟩

set_option maxRecDepth 100000 in
set_option maxHeartbeats 8000000 in
theorem dnew_any (m : Int) (w : World) :
    Calls Try.prog 35 #[.int .i64 m] w fun e w' => e = .returned (.pointer (some ⟨w.heap.size, 0, none⟩)) ∧ w' = w.alloc (.cells #[.int .i64 (min (max m 1) 1000), .slice none 0 0] 121) := by
  go_enter Try.func35, Try.ntmps35
  go_wp2_with fail
  go_ret
  exact ⟨rfl, rfl⟩

end Go.Proofs.Ytnfjdoeemnhkbaa
