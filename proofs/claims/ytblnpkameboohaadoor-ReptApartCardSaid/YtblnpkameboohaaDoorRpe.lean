/-
  Law 6's Same of any rows; the texts of ReptApart's results (plain).
-/
import Derived.Test.YtblnpkameboohaaDoorRpd
import Derived.Test.YtblnpkameboohaaDoorHeld
namespace Go.Proofs.YtblnpkameboohaaDoor
set_option linter.unusedVariables false
set_option linter.unusedSimpArgs false
open Go.RowKit

/-- They are the same so far. -/
def SoFar2 (R1 R2 : List (List Vc)) (q : Nat) : Prop := R1.take q = R2.take q
set_option maxRecDepth 100000 in
set_option maxHeartbeats 8000000 in
theorem same27_any (v1 v2 : Value) (L1 L2 : List (Value × List (Vc × Value))) (w : World) (h1 : RowsR w v1 L1) (h2 : RowsR w v2 L2) (k1 : RowsOk L1) (k2 : RowsOk L2) :
    Calls Tryd.prog 6 #[v1, v2] w fun e w' => ∃ c : Bool, e = .returned (.bool c) ∧ (c = true ↔ rowsL L1 = rowsL L2) ∧ Below w.heap.size w w' := by
  obtain ⟨a1, c1, rfl⟩ := rdS_shape h1.out
  obtain ⟨a2, c2, rfl⟩ := rdS_shape h2.out
  rw [List.length_map] at h1 ⊢
  rw [List.length_map] at h2 ⊢
  obtain ⟨n1, hn1⟩ : ∃ n1, n1 = L1.length := ⟨_, rfl⟩
  obtain ⟨n2, hn2⟩ : ∃ n2, n2 = L2.length := ⟨_, rfl⟩
  rw [← hn1] at h1 ⊢
  rw [← hn2] at h2 ⊢
  have HN1 := Lib.hid hn1
  have HN2 := Lib.hid hn2
  have H1 := Lib.hid h1
  have H2 := Lib.hid h2
  have K1 := Lib.hid k1
  have K2 := Lib.hid k2
  have hl1 : (rowsL L1).length = n1 := by unfold rowsL; rw [List.length_map, hn1]
  have hl2 : (rowsL L2).length = n2 := by unfold rowsL; rw [List.length_map, hn2]
  have HL1 := Lib.hid hl1
  have HL2 := Lib.hid hl2
  have hs1 : n1 ≤ 100 := by have := k1.few; omega
  clear h1 h2 k1 k2 hn1 hn2 hl1 hl2
  by_cases hnn : n1 = n2
  · subst hnn
    have hb0 : ((n1 : Int) == (n1 : Int)) = true := by simp
    go_enter Tryd.func6, Tryd.ntmps6
    go_wp2_with fail
    clear hb0
    go_loopw [5] (fun i wr => ∃ q : Nat, q ≤ n1 ∧ i = .int .i64 (q : Int) ∧ SoFar2 (rowsL L1) (rowsL L2) q ∧ Below w.heap.size w wr) (fun i _ => n1 - (intOf i).toNat)
    case atStart => exact ⟨0, Nat.zero_le _, rfl, rfl, Below.refl _ _⟩
    case round =>
      obtain ⟨q, hq, rfl, hso, hb⟩ := hrel
      have HSO := Lib.hid hso
      have HB := Lib.hid hb
      clear hso hb
      by_cases hlt : q < n1
      · have hd : decide ((q : Int) < (n1 : Int)) = true := by simp; omega
        obtain ⟨x, hx⟩ : ∃ x, L1[q]? = some x := ⟨_, List.getElem?_eq_getElem (by rw [← HN1.out]; exact hlt)⟩
        obtain ⟨y, hy⟩ : ∃ y, L2[q]? = some y := ⟨_, List.getElem?_eq_getElem (by rw [← HN2.out]; exact hlt)⟩
        have r1 := H1.out.kept HB.out
        have r2 := H2.out.kept HB.out
        have m1 := List.mem_of_getElem? hx
        have m2 := List.mem_of_getElem? hy
        have p1 := r1.row x m1
        have p2 := r2.row y m2
        obtain ⟨b1, o1, rfl, hc1⟩ := r1.out.at (k := q) (t := [x.1]) (by rw [List.getElem?_map, hx]; rfl)
        obtain ⟨b2, o2, rfl, hc2⟩ := r2.out.at (k := q) (t := [y.1]) (by rw [List.getElem?_map, hy]; rfl)
        have q1 := hc1 0 _ rfl
        have q2 := hc2 0 _ rfl
        obtain ⟨xa, xc, hxv⟩ := rdP_shape p1
        obtain ⟨ya, yc, hyv⟩ := rdP_shape p2
        have hx1 : x.2.length ≤ 100 := K1.out.rows x m1
        have hy1 : y.2.length ≤ 100 := K2.out.rows y m2
        have HSR := Lib.hid (show ∀ w', Below wr.heap.size wr w' → Calls Tryd.prog 14 #[x.1, y.1] w' fun e w'' => e = .returned (.bool (sameR (x.2.map Prod.fst) (y.2.map Prod.fst))) ∧ Below w'.heap.size w' w'' from fun w' hb => sameRow_any x.1 y.1 _ _ w' ⟨x.2, rfl, p1.kept hb⟩ ⟨y.2, rfl, p2.kept hb⟩ (by rw [List.length_map]; omega) (by rw [List.length_map]; omega))
        obtain ⟨xm, hxm⟩ : ∃ xm, xm = x.2.length := ⟨_, rfl⟩
        obtain ⟨ym, hym⟩ : ∃ ym, ym = y.2.length := ⟨_, rfl⟩
        rw [hxv, ← hxm, hyv, ← hym] at HSR
        rw [hxv, ← hxm, Nat.mul_one, Nat.add_zero] at q1
        rw [hyv, ← hym, Nat.mul_one, Nat.add_zero] at q2
        obtain ⟨sm, hsm⟩ : ∃ sm, sm = sameR (x.2.map Prod.fst) (y.2.map Prod.fst) := ⟨_, rfl⟩
        rw [← hsm] at HSR
        have HSM := Lib.hid (show sm = true ↔ x.2.map Prod.fst = y.2.map Prod.fst by rw [hsm]; exact sameR_iff _ _)
        have HX := Lib.hid (show (rowsL L1)[q]? = some (x.2.map Prod.fst) by unfold rowsL; rw [List.getElem?_map, hx]; rfl)
        have HY := Lib.hid (show (rowsL L2)[q]? = some (y.2.map Prod.fst) by unfold rowsL; rw [List.getElem?_map, hy]; rfl)
        have HCX := Lib.hid (show ∀ w', Below wr.heap.size wr w' → ((w'.cell? ⟨b1, o1 + q, none⟩ = some (.slice xa xm xc) ∧ w'.cell? ⟨b2, o2 + q, none⟩ = some (.slice ya ym yc)) ∧ Below wr.heap.size wr w') from fun w' h => ⟨⟨(h.cell (World.block_lt_of_cell? _ _ q1)).trans q1, (h.cell (World.block_lt_of_cell? _ _ q2)).trans q2⟩, h⟩)
        clear r1 r2 p1 p2 m1 m2 hc1 hc2 q1 q2 hxv hyv hxm hym hsm hx hy hx1 hy1
        have hqi : (q : Int) < (n1 : Int) := by omega
        have hq0 : (0 : Int) ≤ (q : Int) := by omega
        go_upto_region 6 with (fail)
        refine wp_region_noPanic ?_
        refine wp_region_held_drew (S := fun w' => (w'.cell? ⟨b1, o1 + q, none⟩ = some (.slice xa xm xc) ∧ w'.cell? ⟨b2, o2 + q, none⟩ = some (.slice ya ym yc)) ∧ Below wr.heap.size wr w') (by kernel_rfl) ?hS0 (fun hHeld => ?go0)
        case' hS0 => ((try dsimp only); exact HCX.out _ (below_drw _ _))
        refine tkH 0 (v := ?v0) rfl (.inl ⟨by rfl, ?y0⟩) ?_
        case' y0 => (intro w hSw; first | (go_simp; done) | (go_simp; with_reducible rfl))
        (try simp only [Act.put, List.getElem_toArray, List.getElem_cons_succ, List.getElem_cons_zero, List.setIfInBounds_toArray, List.set_cons_zero, List.set_cons_succ])
        refine tkH 1 (v := ?v1) rfl (.inl ⟨by rfl, ?y1⟩) ?_
        case' y1 => (intro w hSw; first | (go_simp; done) | (go_simp; with_reducible rfl))
        (try simp only [Act.put, List.getElem_toArray, List.getElem_cons_succ, List.getElem_cons_zero, List.setIfInBounds_toArray, List.set_cons_zero, List.set_cons_succ])
        refine tkH 2 (v := ?v2) rfl (.inl ⟨by rfl, ?y2⟩) ?_
        case' y2 => (intro w hSw; first | (go_simp; done) | (go_simp; with_reducible rfl))
        (try simp only [Act.put, List.getElem_toArray, List.getElem_cons_succ, List.getElem_cons_zero, List.setIfInBounds_toArray, List.set_cons_zero, List.set_cons_succ])
        refine tkH 3 (v := ?v3) rfl (.inl ⟨by rfl, ?y3⟩) ?_
        case' y3 => (intro w hSw; first | (go_simp; done) | (go_simp; with_reducible rfl))
        (try simp only [Act.put, List.getElem_toArray, List.getElem_cons_succ, List.getElem_cons_zero, List.setIfInBounds_toArray, List.set_cons_zero, List.set_cons_succ])
        refine tkH 4 (v := ?v4) rfl (.inl ⟨by rfl, ?y4⟩) ?_
        case' y4 => (intro w hSw; first | (go_simp; done) | (go_simp; with_reducible rfl))
        (try simp only [Act.put, List.getElem_toArray, List.getElem_cons_succ, List.getElem_cons_zero, List.setIfInBounds_toArray, List.set_cons_zero, List.set_cons_succ])
        refine tkH 5 (v := ?v5) rfl (.inl ⟨by rfl, ?y5⟩) ?_
        case' y5 => (intro w hSw; first | (go_simp; done) | (go_simp; with_reducible rfl))
        (try simp only [Act.put, List.getElem_toArray, List.getElem_cons_succ, List.getElem_cons_zero, List.setIfInBounds_toArray, List.set_cons_zero, List.set_cons_succ])
        refine tkH 6 (v := ?v6) rfl (.inl ⟨by rfl, ?y6⟩) ?_
        case' y6 => (intro w hSw; first | (go_simp; done) | (go_simp; with_reducible rfl))
        (try simp only [Act.put, List.getElem_toArray, List.getElem_cons_succ, List.getElem_cons_zero, List.setIfInBounds_toArray, List.set_cons_zero, List.set_cons_succ])
        refine tkH 7 (v := ?v7) rfl (.inl ⟨by rfl, ?y7⟩) ?_
        case' y7 => (intro w hSw; first | (go_simp; done) | (go_simp; with_reducible rfl))
        (try simp only [Act.put, List.getElem_toArray, List.getElem_cons_succ, List.getElem_cons_zero, List.setIfInBounds_toArray, List.set_cons_zero, List.set_cons_succ])
        refine wpAnyH_ready (rs := [8]) (by kernel_rfl) (by simp) ?_
        refine AllReadyH.cons (o := _) rfl (fun K8a hK8a => ?_) AllReadyH.nil
        go_simp
        (go_at_call 14; refine (HSR.out _ (hHeld.2)).mono ?_; rintro e w5 ⟨rfl, hb5⟩; have hbc : Below wr.heap.size wr w5 := below_then (hHeld.2) hb5)
        refine hK8a.out _ _ ?hS8a (fun hHeld8a => ?_)
        case' hS8a => ((try dsimp only); exact HCX.out _ hbc)
        clear hK8a K8a
        (try simp only [Act.put, List.getElem_toArray, List.getElem_cons_succ, List.getElem_cons_zero, List.setIfInBounds_toArray, List.set_cons_zero, List.set_cons_succ])
        refine tkH 9 (v := ?v9a) rfl (.inl ⟨by rfl, ?y9a⟩) ?_
        case' y9a => (intro w hSw; first | (go_simp; done) | (go_simp; with_reducible rfl))
        (try simp only [Act.put, List.getElem_toArray, List.getElem_cons_succ, List.getElem_cons_zero, List.setIfInBounds_toArray, List.set_cons_zero, List.set_cons_succ])
        refine wpAnyH_done (by kernel_rfl) ?_ _
        refine NoPanic.normal ?_
        cases sm with
        | true =>
          go_wp2_with fail
          go_roundw
          case rel =>
            refine ⟨q + 1, by omega, by go_num, ?_, (HB.out.trans (hbc.mono HB.out.size))⟩
            unfold SoFar2
            rw [List.take_add_one, List.take_add_one, HX.out, HY.out, HSM.out.1 rfl]
            have h := HSO.out
            unfold SoFar2 at h
            rw [h]
          case measure => simp [intOf]; omega
        | false =>
          have HF := Lib.hid (show ¬ rowsL L1 = rowsL L2 by
            intro e
            have h1 := HX.out
            rw [e, HY.out] at h1
            exact absurd (HSM.out.2 (Option.some.inj h1).symm) (by decide))
          go_wp2_with fail
          go_ret
          exact ⟨false, rfl, ⟨(fun h => by cases h), (fun h => absurd h HF.out)⟩, HB.out.trans (hbc.mono HB.out.size)⟩
      · have hqn : q = n1 := by omega
        subst hqn
        have hd : decide ((q : Int) < (q : Int)) = false := by simp
        have HF := Lib.hid (show rowsL L1 = rowsL L2 by
          have h := HSO.out
          unfold SoFar2 at h
          rwa [List.take_of_length_le (by rw [HL1.out]; exact Nat.le_refl _), List.take_of_length_le (by rw [HL2.out]; exact Nat.le_refl _)] at h)
        go_wp2_with fail
        go_ret
        exact ⟨true, rfl, ⟨fun _ => HF.out, fun _ => rfl⟩, HB.out⟩
  · have hb0 : ((n1 : Int) == (n2 : Int)) = false := by rw [beq_eq_false_iff_ne]; omega
    have hb1 : ¬ ((n1 : Int) = (n2 : Int)) := by omega
    have HF := Lib.hid (show ¬ rowsL L1 = rowsL L2 by
      intro e
      have h1 := congrArg List.length e
      rw [HL1.out, HL2.out] at h1
      exact hnn h1)
    clear hnn
    go_enter Tryd.func6, Tryd.ntmps6
    go_wp2_with fail
    go_ret
    exact ⟨false, rfl, ⟨(fun h => by cases h), (fun h => absurd h HF.out)⟩, Below.refl _ _⟩

/-! ### the texts -/
def vN (a : Nat) : Vc := ⟨false, 1, (a : Int), []⟩
def GoodRow (r : List Vc) : Prop := (∃ a, a < 4 ∧ r = [vN a]) ∨ ∃ a b, a < 4 ∧ b < 4 ∧ r = [vN a, vN b]
def dig (a : Nat) : UInt8 := UInt8.ofNat (48 + a)
theorem dec_one2 {i : Nat} (h : i < 10) : Lib.decDigits i = [dig i] := by
  unfold Lib.decDigits
  rw [dif_pos h]
  rfl
theorem tv_vN {a : Nat} (h : a < 4) : tv (vN a) = [dig a] := by
  unfold tv vN
  rw [if_neg (fun h => by cases h)]
  exact dec_one2 (i := a) (by omega)
theorem dig_inj {a b : Nat} (ha : a < 10) (hb : b < 10) (h : dig a = dig b) : a = b := by
  unfold dig at h
  have h1 := congrArg UInt8.toNat h
  simp at h1
  omega
theorem rowT_one {a : Nat} (h : a < 4) : rowT [vN a] = [91, dig a, 93] := by
  unfold rowT
  rw [List.map_cons, List.map_nil, join_one, tv_vN h]
  rfl
theorem rowT_two {a b : Nat} (h : a < 4) (h2 : b < 4) : rowT [vN a, vN b] = [91, dig a, 44, dig b, 93] := by
  unfold rowT
  rw [List.map_cons, List.map_cons, List.map_nil, join_cons, join_one, tv_vN h, tv_vN h2]
  rfl
def encR (R : List (List Vc)) : List UInt8 := R.flatMap fun r => 32 :: rowT r
theorem encR_inj : ∀ (R R2 : List (List Vc)), (∀ r ∈ R, GoodRow r) → (∀ r ∈ R2, GoodRow r) → encR R = encR R2 → R = R2
  | [], [], _, _, _ => rfl
  | [], r :: R2, _, _, h => by simp [encR] at h
  | r :: R, [], _, _, h => by simp [encR] at h
  | r :: R, s :: R2, h1, h2, h => by
    have e : encR (r :: R) = 32 :: (rowT r ++ encR R) := by simp [encR]
    have e2 : encR (s :: R2) = 32 :: (rowT s ++ encR R2) := by simp [encR]
    rw [e, e2] at h
    have ht := (List.cons.inj h).2
    have ih := encR_inj R R2 (fun x hx => h1 x (List.mem_cons_of_mem _ hx)) (fun x hx => h2 x (List.mem_cons_of_mem _ hx))
    rcases h1 r List.mem_cons_self with ⟨a, ha, rfl⟩ | ⟨a, b, ha, hb, rfl⟩ <;> rcases h2 s List.mem_cons_self with ⟨c, hc, rfl⟩ | ⟨c, d, hc, hd, rfl⟩
    · rw [rowT_one ha, rowT_one hc] at ht
      simp only [List.cons_append, List.nil_append, List.cons.injEq, true_and] at ht
      rw [dig_inj (by omega) (by omega) ht.1, ih ht.2]
    · rw [rowT_one ha, rowT_two hc hd] at ht
      simp only [List.cons_append, List.nil_append, List.cons.injEq, true_and] at ht
      exact absurd ht.2.1 (by decide)
    · rw [rowT_two ha hb, rowT_one hc] at ht
      simp only [List.cons_append, List.nil_append, List.cons.injEq, true_and] at ht
      exact absurd ht.2.1 (by decide)
    · rw [rowT_two ha hb, rowT_two hc hd] at ht
      simp only [List.cons_append, List.nil_append, List.cons.injEq, true_and] at ht
      rw [dig_inj (by omega) (by omega) ht.1, dig_inj (by omega) (by omega) ht.2.1, ih ht.2.2]
theorem join_enc : ∀ (x : List UInt8) (R : List (List Vc)), Lib.join (x :: R.map rowT) [32] = x ++ encR R
  | x, [] => by rw [List.map_nil, join_one]; simp [encR]
  | x, r :: R => by
    rw [List.map_cons, join_cons, join_enc (rowT r) R]
    simp [encR]
theorem resT_ok {N : Nat} (hN : N < 10) (R : List (List Vc)) : resT 0 N R = 110 :: 32 :: dig N :: encR R := by
  unfold resT wordsT
  rw [if_pos rfl, join_cons, join_enc, dec_one2 hN]
  rfl
theorem resT_err {e : Nat} (h0 : e ≠ 0) (he : e < 10) (N : Nat) (R : List (List Vc)) : resT e N R = [101, 114, 114, 111, 114, 32, dig e] := by
  unfold resT
  rw [if_neg h0, dec_one2 he]
  rfl
theorem rowN_good (n i : Nat) : GoodRow (rowN n i) := by
  unfold rowN
  rcases (by omega : n / 2 ^ (7 + i) % 2 = 0 ∨ n / 2 ^ (7 + i) % 2 = 1) with h | h
  · rw [h]
    exact .inl ⟨n / 2 ^ (10 + 2 * i + 0) % 4, by omega, rfl⟩
  · rw [h]
    exact .inr ⟨n / 2 ^ (10 + 2 * i + 0) % 4, n / 2 ^ (10 + 2 * i + 1) % 4, by omega, by omega, rfl⟩
theorem rowsN_good (n : Nat) : ∀ r ∈ rowsN n, GoodRow r := fun r hr => by
  unfold rowsN at hr
  split at hr
  · cases hr
  · obtain ⟨i, _, rfl⟩ := List.mem_map.1 hr
    exact rowN_good n i
theorem errN_lt (n : Nat) : errN n < 10 := by
  unfold errN
  split <;> omega
/-- Two results have one text just if they are alike. -/
theorem text_iff (a b : Nat) : (resT (errN a) (a % 4) (rowsN a) = resT (errN b) (b % 4) (rowsN b)) ↔ (errN a = errN b ∧ (errN a ≠ 0 ∨ (a % 4 = b % 4 ∧ rowsN a = rowsN b))) := by
  have ha := errN_lt a
  have hb := errN_lt b
  by_cases h1 : errN a = 0 <;> by_cases h2 : errN b = 0
  · rw [h1, h2, resT_ok (by omega), resT_ok (by omega)]
    constructor
    · intro h
      simp only [List.cons.injEq, true_and] at h
      exact ⟨rfl, .inr ⟨dig_inj (by omega) (by omega) h.1, encR_inj _ _ (rowsN_good a) (rowsN_good b) h.2⟩⟩
    · rintro ⟨_, h | ⟨h3, h4⟩⟩
      · exact absurd rfl h
      · rw [h3, h4]
  · rw [h1, resT_ok (by omega), resT_err h2 hb]
    constructor
    · intro h
      simp only [List.cons.injEq] at h
      exact absurd h.1 (by decide)
    · rintro ⟨h, _⟩
      exact absurd h.symm h2
  · rw [h2, resT_ok (by omega), resT_err h1 ha]
    constructor
    · intro h
      simp only [List.cons.injEq] at h
      exact absurd h.1 (by decide)
    · rintro ⟨h, _⟩
      exact absurd h h1
  · rw [resT_err h1 ha, resT_err h2 hb]
    constructor
    · intro h
      simp only [List.cons.injEq, true_and, and_true] at h
      exact ⟨dig_inj ha hb h, .inl h1⟩
    · rintro ⟨h, _⟩
      rw [h]

end Go.Proofs.YtblnpkameboohaaDoor
