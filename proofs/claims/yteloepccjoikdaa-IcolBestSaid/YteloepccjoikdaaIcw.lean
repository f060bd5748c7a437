/-
  Contracts of layer 4: Encode.
-/
import Derived.Test.YteloepccjoikdaaIcolu
namespace Go.Proofs.Yteloepccjoikdaa
set_option linter.unusedVariables false
set_option linter.unusedSimpArgs false
open Go.RowKit

/-- The best of the first kinds. -/
def bestN (l : List Int) : Nat → List Nat
  | 0 => []
  | q + 1 => if q = 0 ∨ ((q + 1) :: kindT ((q : Int) + 1) l).length < (bestN l q).length then (q + 1) :: kindT ((q : Int) + 1) l else bestN l q
theorem bestN_ok (l : List Int) : ∀ q, 0 < q → (∃ k : Nat, 1 ≤ k ∧ k ≤ q ∧ bestN l q = k :: kindT (k : Int) l) ∧ (∀ k : Nat, 1 ≤ k → k ≤ q → (bestN l q).length ≤ (k :: kindT (k : Int) l).length) ∧ (∀ k : Nat, 1 ≤ k → k ≤ q → (bestN l q).length = (k :: kindT (k : Int) l).length → ∀ x, (bestN l q)[0]? = some x → x ≤ k)
  | 0, h => by omega
  | q + 1, _ => by
    by_cases h0 : q = 0
    · subst h0
      have e : bestN l (0 + 1) = 1 :: kindT (((1 : Nat) : Int)) l := by rw [bestN, if_pos (.inl rfl)]; rfl
      rw [e]
      refine ⟨⟨1, by omega, by omega, rfl⟩, fun k h1 h2 => ?_, fun k h1 h2 _ x hx => ?_⟩
      · rw [show k = 1 by omega]; exact Nat.le_refl _
      · rw [List.getElem?_cons_zero] at hx
        have := Option.some.inj hx
        omega
    · obtain ⟨⟨k, hk1, hk2, hk3⟩, hall, hlow⟩ := bestN_ok l q (by omega)
      have en : (((q + 1 : Nat)) : Int) = (q : Int) + 1 := by omega
      by_cases hlt : ((q + 1) :: kindT ((q : Int) + 1) l).length < (bestN l q).length
      · have e : bestN l (q + 1) = (q + 1) :: kindT (((q + 1 : Nat) : Int)) l := by rw [bestN, if_pos (.inr hlt), en]
        rw [e]
        refine ⟨⟨q + 1, by omega, by omega, rfl⟩, fun k h1 h2 => ?_, fun k h1 h2 h3 x hx => ?_⟩
        · rcases Nat.lt_or_ge k (q + 1) with h | h
          · have := hall k h1 (by omega)
            rw [en]
            omega
          · rw [show k = q + 1 by omega]; exact Nat.le_refl _
        · rcases Nat.lt_or_ge k (q + 1) with h | h
          · have := hall k h1 (by omega)
            rw [en] at h3
            omega
          · rw [List.getElem?_cons_zero] at hx
            have := Option.some.inj hx
            omega
      · have e : bestN l (q + 1) = bestN l q := by rw [bestN, if_neg (by rintro (h | h) <;> omega)]
        rw [e]
        refine ⟨⟨k, hk1, by omega, hk3⟩, fun j h1 h2 => ?_, fun j h1 h2 h3 x hx => ?_⟩
        · rcases Nat.lt_or_ge j (q + 1) with h | h
          · exact hall j h1 (by omega)
          · rw [show j = q + 1 by omega, en]; omega
        · rcases Nat.lt_or_ge j (q + 1) with h | h
          · exact hlow j h1 (by omega) h3 x hx
          · rw [hk3, List.getElem?_cons_zero] at hx
            have := Option.some.inj hx
            omega

set_option maxRecDepth 100000 in
set_option maxHeartbeats 8000000 in
theorem enc1_any (k : Int) (hk : 1 ≤ k ∧ k ≤ 4) (X : Nat) (l : List Int) (lv : Value) (w : World) (hI : ∀ n ∈ l, I64 n) (hl : l.length ≤ 100) (hr : Rd w lv (l.map (.int .i64))) (hx : w.cell? ⟨X, 0, none⟩ = some lv) :
    Calls Try.prog 71 #[.int .i64 k, .pointer (some ⟨X, 0, none⟩)] w fun e w' => ∃ v, e = .returned (.tuple #[v, .bool true]) ∧ OwnB w.heap.size w' v (k.toNat :: kindT k l) ∧ Below w.heap.size w w' := by
  obtain ⟨ao, cap, rfl⟩ := rd_shape1 hr
  rw [List.length_map] at hr hx
  have hT := tell_any k l (.slice ao l.length cap) w hI (by omega) hr
  rw [tell_some k hk l hl] at hT
  obtain ⟨bs, hbs⟩ : ∃ bs, bs = k.toNat :: kindT k l := ⟨_, rfl⟩
  rw [← hbs] at hT ⊢
  obtain ⟨n, hn⟩ : ∃ n, n = l.length := ⟨_, rfl⟩
  rw [← hn] at hT hx
  have HT := Lib.hid hT
  clear hT hr hk hl hbs hn hI
  go_enter Try.func71, Try.ntmps71
  go_wp2_with fail
  refine HT.out.mono ?_
  rintro e w2 ⟨⟨v, rfl, hown⟩, hb⟩
  have HO := Lib.hid hown
  have HB := Lib.hid hb
  clear hown hb
  go_wp2_with fail
  go_ret2
  exact ⟨v, rfl, HO.out, HB.out⟩

set_option maxRecDepth 100000 in
set_option maxHeartbeats 8000000 in
theorem shortest_any (X : Nat) (l : List Int) (lv : Value) (w : World) (hI : ∀ n ∈ l, I64 n) (hl : l.length ≤ 100) (hr : Rd w lv (l.map (.int .i64))) (hx : w.cell? ⟨X, 0, none⟩ = some lv) :
    Calls Try.prog 70 #[.int .i64 4, .func (.func 71) #[] #[.pointer (some ⟨X, 0, none⟩)]] w fun e w' => ∃ v, e = .returned v ∧ OwnB w.heap.size w' v (bestN l 4) ∧ Below w.heap.size w w' := by
  have HE := Lib.hid (show ∀ (k : Int) w', 1 ≤ k ∧ k ≤ 4 → Below w.heap.size w w' → Calls Try.prog 71 #[.int .i64 k, .pointer (some ⟨X, 0, none⟩)] w' fun e w'' => ∃ ao n cap, e = .returned (.tuple #[.slice ao n cap, .bool true]) ∧ OwnB w.heap.size w'' (.slice ao n cap) (k.toNat :: kindT k l) ∧ n = (k.toNat :: kindT k l).length ∧ Below w'.heap.size w' w'' from fun k w' hk hb => by
    refine (enc1_any k hk X l lv w' hI hl (hr.kept hb) ((hb.cell (World.block_lt_of_cell? _ _ hx)).trans hx)).mono ?_
    rintro e w'' ⟨v, he, ho, hb2⟩
    obtain ⟨ao, cap, rfl⟩ := ho.shape
    exact ⟨ao, _, cap, he, own_mono ho hb.size, rfl, hb2⟩)
  clear hI hl hr hx
  go_enter Try.func70, Try.ntmps70
  go_wp2_with fail
  go_loopw [5, 6] (fun b k wr => ∃ q : Nat, q ≤ 4 ∧ k = .int .i64 ((q : Int) + 1) ∧ OwnB w.heap.size wr b (bestN l q) ∧ Below w.heap.size w wr ∧ (q = 0 → b = .slice none 0 0)) (fun _ k _ => 5 - (intOf k).toNat)
  case atStart => exact ⟨0, by omega, rfl, ownB_nil _ _, Below.refl _ _, fun _ => rfl⟩
  case round =>
    obtain ⟨q, hq, rfl, hown, hbel, hnone⟩ := hrel
    obtain ⟨ao, cap, rfl⟩ := hown.shape
    obtain ⟨n, hn⟩ : ∃ n, n = (bestN l q).length := ⟨_, rfl⟩
    rw [← hn] at hown hnone ⊢
    have HO := Lib.hid (show wr.ownsRow w.heap.size 5 1 (.slice ao n cap) n ((bestN l q).map u8v) from by subst hn; exact hown)
    have HN := Lib.hid hn
    have HB := Lib.hid hbel
    have HNONE := Lib.hid (show q = 0 → ao = none ∧ n = 0 ∧ cap = 0 from fun h => by have := hnone h; simp only [Value.slice.injEq] at this; exact ⟨this.1, by omega, this.2.2⟩)
    clear hown hn hbel hnone
    by_cases hq4 : q < 4
    · have hk1 : (q : Int) + 1 ≤ 4 := by omega
      have HC := Lib.hid (HE.out ((q : Int) + 1) wr (by omega) HB.out)
      go_wp2_with fail
      refine HC.out.mono ?_
      rintro e w2 ⟨ao2, n2, cap2, rfl, hown2, hn2, hb2⟩
      rw [show ((q : Int) + 1).toNat = q + 1 by omega] at hown2 hn2
      have HO2 := Lib.hid hown2
      have HB2 := Lib.hid (below_then HB.out hb2)
      have HN2 := Lib.hid hn2
      have HOK := Lib.hid (show OwnB w.heap.size w2 (.slice ao n cap) (bestN l q) from OwnB.of <| HO.out.kept (grown_of_below hb2 none) (by cases h : (Value.slice ao n cap).ownBlock with | none => exact .inl rfl | some g => exact .inr (by simp)))
      clear hown2 hn2 hb2
      by_cases h0 : q = 0
      · subst h0
        obtain ⟨rfl, rfl, rfl⟩ := HNONE.out rfl
        have heq := fun (w' : World) => Lib.run_eql_slice_nil (P := Try.prog) w' 38 5 none 0 0 0 0 Try.underlying38
        go_wp2_with fail
        go_roundw
        case rel =>
          refine ⟨0 + 1, by omega, rfl, ?_, HB2.out, fun h => by omega⟩
          rw [bestN, if_pos (.inl rfl)]
          exact HO2.out
        case measure => simp [intOf]
      · have hbl := (bestN_ok l q (by omega)).1
        have hnp : 0 < n := by
          obtain ⟨k, _, _, e⟩ := hbl
          rw [HN.out, e]; simp
        obtain ⟨g, rfl⟩ : ∃ g, ao = some ⟨g, 0, none⟩ := by
          rcases HO.out.2 with ⟨hv, _⟩ | ⟨g, c, cur, h1, _⟩
          · simp only [Value.slice.injEq] at hv; omega
          · simp only [Value.slice.injEq] at h1; exact ⟨g, h1.1⟩
        have heq := fun (w' : World) => Lib.run_eql_slice_nil (P := Try.prog) w' 38 5 (some ⟨g, 0, none⟩) n cap 0 0 Try.underlying38
        clear hbl
        by_cases hlt : n2 < n
        · have hlti : (n2 : Int) < (n : Int) := by omega
          go_wp2_with fail
          go_roundw
          case rel =>
            refine ⟨q + 1, by omega, by go_num, ?_, HB2.out, fun h => by omega⟩
            rw [bestN, if_pos (.inr (by rw [← HN2.out, ← HN.out]; exact hlt))]
            exact HO2.out
          case measure => simp [intOf]; omega
        · have hlti : ¬ (n2 : Int) < (n : Int) := by omega
          go_wp2_with fail
          go_roundw
          case rel =>
            refine ⟨q + 1, by omega, by go_num, ?_, HB2.out, fun h => by omega⟩
            rw [bestN, if_neg (by rw [← HN2.out, ← HN.out]; omega)]
            exact HOK.out
          case measure => simp [intOf]; omega
    · have hq4e : q = 4 := by omega
      subst hq4e
      have hk1 : ¬ ((4 : Nat) : Int) + 1 ≤ 4 := by omega
      go_wp2_with fail
      go_ret
      exact ⟨_, rfl, OwnB.of HO.out, HB.out⟩

set_option maxRecDepth 100000 in
set_option maxHeartbeats 8000000 in
theorem encode_i (l : List Int) (lv : Value) (w : World) (hI : ∀ n ∈ l, I64 n) (hl : l.length ≤ 100) (hr : Rd w lv (l.map (.int .i64))) :
    Calls Try.prog 32 #[lv] w fun e w' => ∃ v, e = .returned v ∧ OwnB w.heap.size w' v (bestN l 4) ∧ Below w.heap.size w w' := by
  obtain ⟨ao, cap, rfl⟩ := rd_shape1 hr
  obtain ⟨n, hn⟩ : ∃ n, n = l.length := ⟨_, rfl⟩
  rw [List.length_map, ← hn] at hr ⊢
  obtain ⟨W1, hW1⟩ : ∃ W1 : World, W1 = w.alloc (.cells #[.slice ao n cap] 54) := ⟨_, rfl⟩
  have hb1 : Below w.heap.size w W1 := by rw [hW1]; exact below_alloc w _
  have hx : W1.cell? ⟨w.heap.size, 0, none⟩ = some (.slice ao n cap) := by rw [hW1, cell_of_row _ w.heap.size 0 _ _ _ (heap_alloc_new w _)]; rfl
  have HS := Lib.hid (shortest_any w.heap.size l (.slice ao n cap) W1 hI (by omega) (hr.kept hb1) hx)
  have HB1 := Lib.hid hb1
  have HW1 := Lib.hid hW1
  clear hr hn hb1 hx hW1
  go_enter Try.func32, Try.ntmps32
  go_upto_region 1 with (fail)
  rw [← HW1.out]
  go_wp2_with fail
  refine HS.out.mono ?_
  rintro e w2 ⟨v, rfl, hown, hb⟩
  have HO := Lib.hid hown
  have HB := Lib.hid hb
  clear hown hb
  go_wp2_with fail
  go_ret
  exact ⟨v, rfl, own_mono HO.out HB1.out.size, below_then HB1.out HB.out⟩


end Go.Proofs.Yteloepccjoikdaa
