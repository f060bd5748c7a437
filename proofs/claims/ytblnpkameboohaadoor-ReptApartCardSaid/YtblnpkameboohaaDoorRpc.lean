/-
  Contracts of package rept: Event, thrice; the awake of layer 27.
-/
import Derived.Test.YtblnpkameboohaaDoorRpb
import Derived.Test.YtblnpkameboohaaDoorHeld
namespace Go.Proofs.YtblnpkameboohaaDoor
set_option linter.unusedVariables false
set_option linter.unusedSimpArgs false
open Go.RowKit

theorem dec_one {i : Nat} (h : i < 10) : Lib.decDigits i = [UInt8.ofNat (48 + i)] := by
  unfold Lib.decDigits
  rw [dif_pos h]
theorem itoaD (i : Nat) (hi : i < 10) (z : Int) (hz : z = (i : Int)) (w : World) : Calls Tryd.prog 16 #[.int .i64 z] w fun e w' => e = .returned (.string ⟨#[UInt8.ofNat (48 + i)]⟩) ∧ w' = w := by
  have h := Tryd.strconv_Itoa_small i (by omega) w
  rw [dec_one hi, ← hz] at h
  exact h

set_option maxRecDepth 100000 in
set_option maxHeartbeats 8000000 in
theorem tev3_any (w : World) : Calls Tryd.prog 19 #[.agg #[.int .i64 0, .int .i64 0, .int .i64 0, .int .i64 0, .int .i64 0, .slice none 0 0, .int .i64 0, .int .i64 0]] w fun e w' => e = .returned (.string ⟨#[]⟩) ∧ Below w.heap.size w w' := by
  go_enter Tryd.func19, Tryd.ntmps19
  go_wp2_with fail
  refine (itoaD 0 (by decide) _ rfl _).mono ?_
  rintro e w2 ⟨rfl, rfl⟩
  go_wp2_with fail
  go_ret
  exact ⟨rfl, below_alloc w _⟩

set_option maxRecDepth 100000 in
set_option maxHeartbeats 8000000 in
theorem tev2_any (w : World) : Calls Tryd.prog 19 #[.agg #[.int .i64 3, .int .i64 0, .int .i64 0, .int .i64 0, .int .i64 0, .slice none 0 0, .int .i64 7, .int .i64 0]] w fun e w' => e = .returned (.string ⟨#[48, 32, 99, 111, 109, 109, 105, 116, 32, 55]⟩) ∧ Below w.heap.size w w' := by
  go_enter Tryd.func19, Tryd.ntmps19
  go_wp2_with fail
  refine (itoaD 0 (by decide) _ rfl _).mono ?_
  rintro e w2 ⟨rfl, rfl⟩
  go_wp2_with fail
  refine (itoaD 7 (by decide) _ rfl _).mono ?_
  rintro e w2 ⟨rfl, rfl⟩
  go_wp2_with fail
  go_ret
  exact ⟨rfl, below_alloc w _⟩

theorem below_dr2n {B : Nat} {w0 w : World} (h : Below B w0 w) : Below B w0 w.drew := Below.trans h ⟨rfl, rfl, rfl, Nat.le_refl _, fun _ _ => rfl⟩
set_option maxRecDepth 100000 in
set_option maxHeartbeats 8000000 in
theorem tev1_any (w : World) : Calls Tryd.prog 19 #[.agg #[.int .i64 2, .int .i64 1, .int .i64 2, .int .i64 0, .int .i64 0, .slice none 0 0, .int .i64 0, .int .i64 0]] w fun e w' => e = .returned (.string ⟨#[49, 32, 111, 112, 32, 50, 32, 110, 32, 48]⟩) ∧ Below w.heap.size w w' := by
  have HRES := Lib.hid (show ∀ W : World, Calls Tryd.prog 7 #[.agg #[.int .i64 0, .int .i64 0, .slice none 0 0]] W fun e w' => e = .returned (.string ⟨#[110, 32, 48]⟩) ∧ Below W.heap.size W w' from fun W => by
    have h := tres_any 0 0 (.slice none 0 0) [] (by decide) (by decide) ⟨Nat.zero_le _, (fun x hx => by cases hx), (fun x hx => by cases hx)⟩ W ⟨RdS.nil W 1, (fun x hx => by cases hx)⟩
    have e1 : strV (resT 0 0 (rowsL [])) = .string ⟨#[110, 32, 48]⟩ := by
      unfold resT wordsT rowsL
      rw [if_pos rfl, dec_one (by decide)]
      rfl
    rw [e1] at h
    exact h)
  go_enter Tryd.func19, Tryd.ntmps19
  go_wp2_with fail
  refine (itoaD 1 (by decide) _ rfl _).mono ?_
  rintro e w2 ⟨rfl, rfl⟩
  have hbx := heap_alloc_new w (.cells #[.int .i64 2, .int .i64 1, .int .i64 2, .int .i64 0, .int .i64 0, .slice none 0 0, .int .i64 0, .int .i64 0] 56)
  have hba := below_alloc w (.cells #[.int .i64 2, .int .i64 1, .int .i64 2, .int .i64 0, .int .i64 0, .slice none 0 0, .int .i64 0, .int .i64 0] 56)
  obtain ⟨W, hW⟩ : ∃ W : World, W = w.alloc (.cells #[.int .i64 2, .int .i64 1, .int .i64 2, .int .i64 0, .int .i64 0, .slice none 0 0, .int .i64 0, .int .i64 0] 56) := ⟨_, rfl⟩
  obtain ⟨X, hX⟩ : ∃ X, X = w.heap.size := ⟨_, rfl⟩
  have hXW : X < W.heap.size := by rw [hW, hX]; simp
  rw [← hW] at hbx hba ⊢
  rw [← hX] at hbx ⊢
  have HBX := Lib.hid hbx
  have HBA := Lib.hid hba
  have HCX := Lib.hid (show ∀ w', Below W.heap.size W w' → ((w'.cell? ⟨X, 2, none⟩ = some (.int .i64 2) ∧ w'.cell? ⟨X, 3, none⟩ = some (.int .i64 0) ∧ w'.cell? ⟨X, 4, none⟩ = some (.int .i64 0) ∧ w'.cell? ⟨X, 5, none⟩ = some (.slice none 0 0)) ∧ Below W.heap.size W w') from fun w' h => by
    have hb : w'.heap[X]? = _ := (h.block X hXW).trans HBX.out
    exact ⟨⟨by rw [cell_of_row w' X 2 _ _ _ hb]; rfl, by rw [cell_of_row w' X 3 _ _ _ hb]; rfl, by rw [cell_of_row w' X 4 _ _ _ hb]; rfl, by rw [cell_of_row w' X 5 _ _ _ hb]; rfl⟩, h⟩)
  have k0 : W.cell? ⟨X, 0, none⟩ = some (.int .i64 2) := by rw [cell_of_row W X 0 _ _ _ hbx]; rfl
  clear hbx hba hW hX
  go_upto_region 6 with (fail)
  refine wp_region_noPanic ?_
  refine wp_region_held_drew (S := fun w' => (w'.cell? ⟨X, 2, none⟩ = some (.int .i64 2) ∧ w'.cell? ⟨X, 3, none⟩ = some (.int .i64 0) ∧ w'.cell? ⟨X, 4, none⟩ = some (.int .i64 0) ∧ w'.cell? ⟨X, 5, none⟩ = some (.slice none 0 0)) ∧ Below W.heap.size W w') (by kernel_rfl) ?hS0 (fun hHeld => ?go0)
  case' hS0 => ((try dsimp only); exact HCX.out _ (below_drw _ _))
  refine tkH 0 (v := ?v0) rfl (.inl ⟨by rfl, ?y0⟩) ?_
  case' y0 => (intro w hSw; first | (go_simp; done) | (go_simp; with_reducible rfl))
  (try simp only [Act.put, List.getElem_toArray, List.getElem_cons_succ, List.getElem_cons_zero, List.setIfInBounds_toArray, List.set_cons_zero, List.set_cons_succ])
  refine tkH 1 (v := ?v1) rfl (.inl ⟨by rfl, ?y1⟩) ?_
  case' y1 => (intro w hSw; first | (go_simp; done) | (go_simp; with_reducible rfl))
  (try simp only [Act.put, List.getElem_toArray, List.getElem_cons_succ, List.getElem_cons_zero, List.setIfInBounds_toArray, List.set_cons_zero, List.set_cons_succ])
  refine tkH 2 (v := ?v2) rfl (.inl ⟨by rfl, ?y2⟩) ?_
  case' y2 => (intro w hSw; first | (go_simp; done) | (go_simp; with_reducible rfl))
  (try simp only [Act.put, List.getElem_toArray, List.getElem_cons_succ, List.getElem_cons_zero, List.setIfInBounds_toArray, List.set_cons_zero, List.set_cons_succ])
  refine tkH 3 (v := ?v3) rfl (.inl ⟨by rfl, ?y3⟩) ?_
  case' y3 => (intro w hSw; first | (go_simp; done) | (go_simp; with_reducible rfl))
  (try simp only [Act.put, List.getElem_toArray, List.getElem_cons_succ, List.getElem_cons_zero, List.setIfInBounds_toArray, List.set_cons_zero, List.set_cons_succ])
  refine tkH 7 (v := ?v7) rfl (.inl ⟨by rfl, ?y7⟩) ?_
  case' y7 => (intro w hSw; first | (go_simp; done) | (go_simp; with_reducible rfl))
  (try simp only [Act.put, List.getElem_toArray, List.getElem_cons_succ, List.getElem_cons_zero, List.setIfInBounds_toArray, List.set_cons_zero, List.set_cons_succ])
  refine tkH 8 (v := ?v8) rfl (.inl ⟨by rfl, ?y8⟩) ?_
  case' y8 => (intro w hSw; first | (go_simp; done) | (go_simp; with_reducible rfl))
  (try simp only [Act.put, List.getElem_toArray, List.getElem_cons_succ, List.getElem_cons_zero, List.setIfInBounds_toArray, List.set_cons_zero, List.set_cons_succ])
  refine wpAnyH_ready (rs := [4]) (by kernel_rfl) (by simp) ?_
  refine AllReadyH.cons (o := _) rfl (fun K4a hK4a => ?_) AllReadyH.nil
  go_simp
  (go_at_call 16; refine (itoaD 2 (by decide) _ rfl _).mono ?_; rintro e w2 ⟨rfl, rfl⟩)
  refine hK4a.out _ _ ?hS4a (fun hHeld4a => ?_)
  case' hS4a => ((try dsimp only); exact hHeld)
  clear hK4a K4a
  (try simp only [Act.put, List.getElem_toArray, List.getElem_cons_succ, List.getElem_cons_zero, List.setIfInBounds_toArray, List.set_cons_zero, List.set_cons_succ])
  refine tkH 5 (v := ?v5a) rfl (.inl ⟨by rfl, ?y5a⟩) ?_
  case' y5a => (intro w hSw; first | (go_simp; done) | (go_simp; with_reducible rfl))
  (try simp only [Act.put, List.getElem_toArray, List.getElem_cons_succ, List.getElem_cons_zero, List.setIfInBounds_toArray, List.set_cons_zero, List.set_cons_succ])
  refine tkH 6 (v := ?v6a) rfl (.inl ⟨by rfl, ?y6a⟩) ?_
  case' y6a => (intro w hSw; first | (go_simp; done) | (go_simp; with_reducible rfl))
  (try simp only [Act.put, List.getElem_toArray, List.getElem_cons_succ, List.getElem_cons_zero, List.setIfInBounds_toArray, List.set_cons_zero, List.set_cons_succ])
  refine wpAnyH_ready (rs := [9]) (by kernel_rfl) (by simp) ?_
  refine AllReadyH.cons (o := _) rfl (fun K9b hK9b => ?_) AllReadyH.nil
  go_simp
  (go_at_call 7; refine (HRES.out _).mono ?_; rintro e w5 ⟨rfl, hb5⟩; have hbc : Below W.heap.size W w5 := below_then (hHeld.2) hb5)
  refine hK9b.out _ _ ?hS9b (fun hHeld9b => ?_)
  case' hS9b => ((try dsimp only); exact HCX.out _ hbc)
  clear hK9b K9b
  (try simp only [Act.put, List.getElem_toArray, List.getElem_cons_succ, List.getElem_cons_zero, List.setIfInBounds_toArray, List.set_cons_zero, List.set_cons_succ])
  refine tkH 10 (v := ?v10b) rfl (.inl ⟨by rfl, ?y10b⟩) ?_
  case' y10b => (intro w hSw; first | (go_simp; done) | (go_simp; with_reducible rfl))
  (try simp only [Act.put, List.getElem_toArray, List.getElem_cons_succ, List.getElem_cons_zero, List.setIfInBounds_toArray, List.set_cons_zero, List.set_cons_succ])
  refine tkH 11 (v := ?v11b) rfl (.inl ⟨by rfl, ?y11b⟩) ?_
  case' y11b => (intro w hSw; first | (go_simp; done) | (go_simp; with_reducible rfl))
  (try simp only [Act.put, List.getElem_toArray, List.getElem_cons_succ, List.getElem_cons_zero, List.setIfInBounds_toArray, List.set_cons_zero, List.set_cons_succ])
  refine wpAnyH_done (by kernel_rfl) ?_ _
  refine NoPanic.normal ?_
  go_wp2_with fail
  go_ret
  exact ⟨rfl, HBA.out.trans (hbc.mono HBA.out.size)⟩

theorem rdP_lit (w : World) (l : List (Vc × Value)) (cs : Array Value) (n : Nat) (hn : n = l.length) (hm : n ≤ 1000) (hc : cs.toList = (l.map cellsV).flatten) (h0 : ∀ t ∈ l, t.1.b = [] ∧ t.2 = .slice none 0 0) : RdP (w.alloc (.cells cs 30)) (.slice (some ⟨w.heap.size, 0, none⟩) n n) l := by
  have hs : cs.size = n * 4 := by
    have h := congrArg List.length hc
    rw [Array.length_toList, flatten_len (l.map cellsV) 4 (fun t ht => by obtain ⟨x, _, rfl⟩ := List.mem_map.1 ht; rfl), List.length_map, ← hn] at h
    exact h
  have ho := World.ownsRow_lit (e := 30) (size := 4) (base := 0) w cs n (Nat.zero_le _) (by unfold maxLen; omega) hs
  rw [hc] at ho
  exact ⟨rdS_own ho (by rw [List.length_map]; exact hn) (fun t ht => by obtain ⟨x, _, rfl⟩ := List.mem_map.1 ht; rfl), fun t ht => by
    obtain ⟨h1, h2⟩ := h0 t ht
    refine ⟨?_, fun x hx => by rw [h1] at hx; cases hx⟩
    rw [h1, h2]
    exact Rd.nil _⟩
set_option maxRecDepth 100000 in
set_option maxHeartbeats 8000000 in
theorem awake27_any (w : World) : Calls Tryd.prog 8 #[] w fun e w' => e = .returned (.bool true) ∧ Below w.heap.size w w' := by
  have HR0 := Lib.hid (show Calls Tryd.prog 7 #[.agg #[.int .i64 0, .int .i64 2, .slice (some ⟨w.heap.size + 1 + 1 + 1, 0, none⟩) 2 2]] ((((w.alloc (.cells #[.bool false, .int .i64 1, .int .i64 5, .slice none 0 0] 30)).alloc (.cells #[.bool false, .int .i64 1, .int .i64 5, .slice none 0 0, .bool true, .int .i64 0, .int .i64 0, .slice none 0 0] 30)).alloc (.cells #[.bool false, .int .i64 1, .int .i64 5, .slice none 0 0] 30)).alloc (.cells #[.slice (some ⟨w.heap.size + 1, 0, none⟩) 2 2, .slice (some ⟨w.heap.size + 1 + 1, 0, none⟩) 1 1] 27)) fun e w' => e = .returned (.string ⟨#[110, 32, 50, 32, 91, 53, 44, 110, 117, 108, 108, 93, 32, 91, 53, 93]⟩) ∧ Below w.heap.size w w' from by
    obtain ⟨W1, hW1⟩ : ∃ W1 : World, W1 = w.alloc (.cells #[.bool false, .int .i64 1, .int .i64 5, .slice none 0 0] 30) := ⟨_, rfl⟩
    have s1 : W1.heap.size = w.heap.size + 1 := by rw [hW1]; simp
    have b1 : Below w.heap.size w W1 := by rw [hW1]; exact below_alloc w _
    rw [← hW1]
    have p1 := rdP_lit W1 [(⟨false, 1, 5, []⟩, .slice none 0 0), (⟨true, 0, 0, []⟩, .slice none 0 0)] #[.bool false, .int .i64 1, .int .i64 5, .slice none 0 0, .bool true, .int .i64 0, .int .i64 0, .slice none 0 0] 2 rfl (by decide) rfl (fun t ht => by
      rcases List.mem_cons.1 ht with rfl | ht
      · exact ⟨rfl, rfl⟩
      · rw [List.mem_singleton.1 ht]; exact ⟨rfl, rfl⟩)
    have b2 := below_alloc W1 (.cells #[.bool false, .int .i64 1, .int .i64 5, .slice none 0 0, .bool true, .int .i64 0, .int .i64 0, .slice none 0 0] 30)
    obtain ⟨W2, hW2⟩ : ∃ W2 : World, W2 = W1.alloc (.cells #[.bool false, .int .i64 1, .int .i64 5, .slice none 0 0, .bool true, .int .i64 0, .int .i64 0, .slice none 0 0] 30) := ⟨_, rfl⟩
    have s2 : W2.heap.size = w.heap.size + 1 + 1 := by rw [hW2]; simp [s1]
    rw [← hW2] at p1 b2 ⊢
    rw [s1] at p1
    have p2 := rdP_lit W2 [(⟨false, 1, 5, []⟩, .slice none 0 0)] #[.bool false, .int .i64 1, .int .i64 5, .slice none 0 0] 1 rfl (by decide) rfl (fun t ht => by rw [List.mem_singleton.1 ht]; exact ⟨rfl, rfl⟩)
    have b3 := below_alloc W2 (.cells #[.bool false, .int .i64 1, .int .i64 5, .slice none 0 0] 30)
    obtain ⟨W3, hW3⟩ : ∃ W3 : World, W3 = W2.alloc (.cells #[.bool false, .int .i64 1, .int .i64 5, .slice none 0 0] 30) := ⟨_, rfl⟩
    have s3 : W3.heap.size = w.heap.size + 1 + 1 + 1 := by rw [hW3]; simp [s2]
    rw [← hW3] at p2 b3 ⊢
    rw [s2] at p2
    have ho := World.ownsRow_lit (e := 27) (size := 1) (base := 0) W3 #[.slice (some ⟨w.heap.size + 1, 0, none⟩) 2 2, .slice (some ⟨w.heap.size + 1 + 1, 0, none⟩) 1 1] 2 (Nat.zero_le _) (by unfold maxLen; omega) rfl
    have b4 := below_alloc W3 (.cells #[.slice (some ⟨w.heap.size + 1, 0, none⟩) 2 2, .slice (some ⟨w.heap.size + 1 + 1, 0, none⟩) 1 1] 27)
    obtain ⟨W4, hW4⟩ : ∃ W4 : World, W4 = W3.alloc (.cells #[.slice (some ⟨w.heap.size + 1, 0, none⟩) 2 2, .slice (some ⟨w.heap.size + 1 + 1, 0, none⟩) 1 1] 27) := ⟨_, rfl⟩
    rw [← hW4] at ho b4 ⊢
    rw [s3] at ho
    have hk5 : OkT ⟨false, 1, 5, []⟩ := .inr ⟨rfl, rfl, 5, by decide, rfl⟩
    have hkn : OkT ⟨true, 0, 0, []⟩ := .inl rfl
    have h := tres_any 0 2 (.slice (some ⟨w.heap.size + 1 + 1 + 1, 0, none⟩) 2 2) [(.slice (some ⟨w.heap.size + 1, 0, none⟩) 2 2, [(⟨false, 1, 5, []⟩, .slice none 0 0), (⟨true, 0, 0, []⟩, .slice none 0 0)]), (.slice (some ⟨w.heap.size + 1 + 1, 0, none⟩) 1 1, [(⟨false, 1, 5, []⟩, .slice none 0 0)])] (by decide) (by decide)
      ⟨(by show (2 : Nat) ≤ 100; decide), (fun x hx => by
        rcases List.mem_cons.1 hx with rfl | hx
        · show (2 : Nat) ≤ 100; decide
        · rw [List.mem_singleton.1 hx]; show (1 : Nat) ≤ 100; decide), (fun x hx t ht => by
        rcases List.mem_cons.1 hx with rfl | hx
        · rcases List.mem_cons.1 ht with rfl | ht
          · exact hk5
          · rw [List.mem_singleton.1 ht]; exact hkn
        · rw [List.mem_singleton.1 hx] at ht
          rw [List.mem_singleton.1 ht]; exact hk5)⟩ W4 ⟨rdS_own (ls := [[.slice (some ⟨w.heap.size + 1, 0, none⟩) 2 2], [.slice (some ⟨w.heap.size + 1 + 1, 0, none⟩) 1 1]]) ho rfl (fun t ht => by
        rcases List.mem_cons.1 ht with rfl | ht
        · rfl
        · rw [List.mem_singleton.1 ht]; rfl), (fun x hx => by
        rcases List.mem_cons.1 hx with rfl | hx
        · exact (p1.kept b3).kept b4
        · rw [List.mem_singleton.1 hx]; exact p2.kept b4)⟩
    have e1 : strV (resT 0 2 (rowsL [(.slice (some ⟨w.heap.size + 1, 0, none⟩) 2 2, [(⟨false, 1, 5, []⟩, .slice none 0 0), (⟨true, 0, 0, []⟩, .slice none 0 0)]), (.slice (some ⟨w.heap.size + 1 + 1, 0, none⟩) 1 1, [(⟨false, 1, 5, []⟩, .slice none 0 0)])])) = .string ⟨#[110, 32, 50, 32, 91, 53, 44, 110, 117, 108, 108, 93, 32, 91, 53, 93]⟩ := by
      unfold resT wordsT rowsL rowT tv
      rw [if_pos rfl]
      simp only [List.map_cons, List.map_nil, Int.toNat]
      rw [dec_one (i := 2) (by decide), show Lib.decDigits 5 = [53] from dec_one (i := 5) (by decide)]
      rfl
    rw [e1] at h
    refine h.mono ?_
    rintro e w' ⟨rfl, hb⟩
    exact ⟨rfl, (((b1.trans (b2.mono b1.size)).trans (b3.mono (by omega))).trans (b4.mono (by omega))).trans (hb.mono (by rw [hW4]; simp; omega))⟩)
  have HR1 := Lib.hid (show ∀ W : World, Calls Tryd.prog 7 #[.agg #[.int .i64 1, .int .i64 3, .slice none 0 0]] W fun e w' => e = .returned (.string ⟨#[101, 114, 114, 111, 114, 32, 49]⟩) ∧ Below W.heap.size W w' from fun W => by
    have h := tres_any 1 3 (.slice none 0 0) [] (by decide) (by decide) ⟨Nat.zero_le _, (fun x hx => by cases hx), (fun x hx => by cases hx)⟩ W ⟨RdS.nil W 1, (fun x hx => by cases hx)⟩
    have e1 : strV (resT 1 3 (rowsL [])) = .string ⟨#[101, 114, 114, 111, 114, 32, 49]⟩ := by
      unfold resT
      rw [if_neg (by decide), dec_one (by decide)]
      rfl
    rw [e1] at h
    exact h)
  go_enter Tryd.func8, Tryd.ntmps8
  go_upto_region 2 with (fail)
  go_wp2_with fail
  refine HR0.out.mono ?_
  rintro e w2 ⟨rfl, hb2⟩
  have HB2 := Lib.hid hb2
  clear hb2
  go_wp2_with fail
  refine (HR1.out _).mono ?_
  rintro e w3 ⟨rfl, hb3⟩
  have HB3 := Lib.hid (below_then HB2.out hb3)
  clear hb3
  go_wp2_with fail
  refine (tev1_any _).mono ?_
  rintro e w4 ⟨rfl, hb4⟩
  have HB4 := Lib.hid (below_then HB3.out hb4)
  clear hb4
  go_wp2_with fail
  refine (tev2_any _).mono ?_
  rintro e w5 ⟨rfl, hb5⟩
  have HB5 := Lib.hid (below_then HB4.out hb5)
  clear hb5
  go_wp2_with fail
  refine (tev3_any _).mono ?_
  rintro e w6 ⟨rfl, hb6⟩
  have HB6 := Lib.hid (below_then HB5.out hb6)
  clear hb6
  go_wp2_with fail
  go_ret
  exact ⟨rfl, HB6.out⟩

end Go.Proofs.YtblnpkameboohaaDoor
