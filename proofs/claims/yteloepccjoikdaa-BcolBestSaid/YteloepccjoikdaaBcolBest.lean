/-
  The walk of BcolBest.
-/
import Derived.Test.YteloepccjoikdaaBcolp
import Derived.Test.YteloepccjoikdaaAwake5
import Derived.Test.YteloepccjoikdaaLone
namespace Go.Proofs.Yteloepccjoikdaa.Bc
set_option linter.unusedVariables false
set_option linter.unusedSimpArgs false
open Go.RowKit

def wd : Nat → ByteArray
  | 0 => ⟨#[110, 111, 114, 116, 104, 45, 110, 111, 114, 116, 104, 45, 101, 97, 115, 116]⟩
  | 1 => ⟨#[115, 111, 117, 116, 104, 45, 115, 111, 117, 116, 104, 45, 119, 101, 115, 116]⟩
  | 2 => ⟨#[101, 97, 115, 116]⟩
  | _ => ⟨#[97, 32, 114, 97, 116, 104, 101, 114, 32, 108, 111, 110, 103, 32, 119, 111, 114, 100, 32, 116, 104, 97, 116, 32, 115, 116, 97, 110, 100, 115, 32, 104, 101, 114, 101, 32, 111, 102, 116, 101, 110]⟩
theorem wd_in (p : Nat) : strB (wd p) ∈ wordsW := by
  have h : ∀ p, p < 4 → strB (wd p) ∈ wordsW := by decide +kernel
  rcases Nat.lt_or_ge p 4 with hp | hp
  · exact h p hp
  · have e : wd p = wd 3 := by
      match p, hp with
      | p + 4, _ => rfl
    rw [e]
    exact h 3 (by decide)
theorem wd_size (p : Nat) : (wd p).size = (strB (wd p)).length := (strB_len _).symm
theorem words_at (w w' : World) (h : Below (w.heap.size + 1) (w.alloc (.cells #[.string ⟨#[110, 111, 114, 116, 104, 45, 110, 111, 114, 116, 104, 45, 101, 97, 115, 116]⟩, .string ⟨#[115, 111, 117, 116, 104, 45, 115, 111, 117, 116, 104, 45, 119, 101, 115, 116]⟩, .string ⟨#[101, 97, 115, 116]⟩, .string ⟨#[97, 32, 114, 97, 116, 104, 101, 114, 32, 108, 111, 110, 103, 32, 119, 111, 114, 100, 32, 116, 104, 97, 116, 32, 115, 116, 97, 110, 100, 115, 32, 104, 101, 114, 101, 32, 111, 102, 116, 101, 110]⟩] 9)) w') : ∀ p, p < 4 → w'.cell? ⟨w.heap.size, p, none⟩ = some (.string (wd p)) := by
  intro p hp
  have hz := heap_alloc_new w (.cells #[.string ⟨#[110, 111, 114, 116, 104, 45, 110, 111, 114, 116, 104, 45, 101, 97, 115, 116]⟩, .string ⟨#[115, 111, 117, 116, 104, 45, 115, 111, 117, 116, 104, 45, 119, 101, 115, 116]⟩, .string ⟨#[101, 97, 115, 116]⟩, .string ⟨#[97, 32, 114, 97, 116, 104, 101, 114, 32, 108, 111, 110, 103, 32, 119, 111, 114, 100, 32, 116, 104, 97, 116, 32, 115, 116, 97, 110, 100, 115, 32, 104, 101, 114, 101, 32, 111, 102, 116, 101, 110]⟩] 9)
  have h1 : w'.heap[w.heap.size]? = some (.cells #[.string ⟨#[110, 111, 114, 116, 104, 45, 110, 111, 114, 116, 104, 45, 101, 97, 115, 116]⟩, .string ⟨#[115, 111, 117, 116, 104, 45, 115, 111, 117, 116, 104, 45, 119, 101, 115, 116]⟩, .string ⟨#[101, 97, 115, 116]⟩, .string ⟨#[97, 32, 114, 97, 116, 104, 101, 114, 32, 108, 111, 110, 103, 32, 119, 111, 114, 100, 32, 116, 104, 97, 116, 32, 115, 116, 97, 110, 100, 115, 32, 104, 101, 114, 101, 32, 111, 102, 116, 101, 110]⟩] 9 (0, 0)) := (h.block _ (by omega)).trans hz
  rw [cell_of_row w' w.heap.size p _ _ _ h1]
  rcases (by omega : p = 0 ∨ p = 1 ∨ p = 2 ∨ p = 3) with rfl | rfl | rfl | rfl <;> rfl

set_option maxRecDepth 100000 in
set_option maxHeartbeats 8000000 in
theorem walk_BcolBest (a0 : Option Addr) (len0 cap0 : Nat) (z0 : List Int) (a1 : Int) (w : World) (w0 : IsRow .i64 w a0 len0 cap0 z0) (w1 : (Lit.int .i64 a1).wf = true) :
    Calls Try.prog 11 #[.slice a0 len0 cap0, .int .i64 a1] w fun e w' => e = .returned (.bool true) ∧ Below w.heap.size w w' := by
  obtain ⟨la, hla, h1, h2⟩ := isRow_rd w0
  have HR := Lib.hid h1
  have HLA := Lib.hid hla
  have b3 : ∀ x, bits .and .i64 x 3 = x % 4 := fun x => and_lowI x 2 (by decide) 3 rfl
  have b255 : ∀ x, bits .and .i64 x 255 = x % 256 := fun x => and_lowI x 8 (by decide) 255 rfl
  obtain ⟨N, hN⟩ : ∃ N : Nat, a1 % 256 + 1 = (N : Int) := ⟨(a1 % 256 + 1).toNat, by omega⟩
  have hN8 : 1 ≤ N := by omega
  have hN71 : N ≤ 256 := by omega
  have hwN : IntKind.i64.wrap (a1 % 256 + 1) = (N : Int) := by rw [hN]; exact IntWalk.i64_in _ (by omega)
  have hwN2 : IntKind.i64.wrap (N : Int) = (N : Int) := IntWalk.i64_in _ (by omega)
  clear hla h1 h2 w0 w1 hN
  obtain ⟨W1, hW1⟩ : ∃ W1 : World, W1 = w.alloc (.cells #[.string ⟨#[110, 111, 114, 116, 104, 45, 110, 111, 114, 116, 104, 45, 101, 97, 115, 116]⟩, .string ⟨#[115, 111, 117, 116, 104, 45, 115, 111, 117, 116, 104, 45, 119, 101, 115, 116]⟩, .string ⟨#[101, 97, 115, 116]⟩, .string ⟨#[97, 32, 114, 97, 116, 104, 101, 114, 32, 108, 111, 110, 103, 32, 119, 111, 114, 100, 32, 116, 104, 97, 116, 32, 115, 116, 97, 110, 100, 115, 32, 104, 101, 114, 101, 32, 111, 102, 116, 101, 110]⟩] 9) := ⟨_, rfl⟩
  have hsz1 : W1.heap.size = w.heap.size + 1 := by rw [hW1]; simp
  have HF := Lib.hid (show ∀ w', Below W1.heap.size W1 w' → ∀ p, p < 4 → w'.cell? ⟨w.heap.size, p, none⟩ = some (.string (wd p)) from fun w' h p hp => words_at w w' (by rw [hsz1, hW1] at h; exact h) p hp)
  have HB1 := Lib.hid (show Below w.heap.size w W1 from by rw [hW1]; exact below_alloc w _)
  have HW1 := Lib.hid hW1
  clear hW1
  go_enter Try.func11, Try.ntmps11
  go_wp2_with fail
  go_loopw [6, 8] (fun v i wr => ∃ (q : Nat) (ps : Row), q ≤ len0 ∧ q ≤ 60 ∧ i = .int .i64 (q : Int) ∧ ps.length = q ∧ (∀ x ∈ xs ps, x ∈ wordsW) ∧ Far W1.heap.size wr v ps ∧ Below W1.heap.size W1 wr) (fun _ i _ => 60 - (intOf i).toNat)
  case atStart => exact ⟨0, [], Nat.zero_le _, Nat.zero_le _, rfl, rfl, (fun x hx => by simp [xs] at hx), far_nil _ _, by rw [← HW1.out]; exact Below.refl _ _⟩
  case round =>
    obtain ⟨q, ps, hq, hq4, rfl, hpl, hin, hfar, hbel⟩ := hrel
    obtain ⟨ao, cap, rfl⟩ := hfar.row.shape
    rw [hpl] at hfar ⊢
    have HLEN := Lib.hid hpl
    have HIN := Lib.hid hin
    have HO := Lib.hid hfar
    have HBL := Lib.hid hbel
    clear hpl hin hfar hbel
    by_cases hlt : q < len0 ∧ q < 60
    · obtain ⟨hl1, hl2⟩ := hlt
      have hl1i : (q : Int) < (len0 : Int) := by omega
      have hl2i : (q : Int) < 60 := by omega
      have hq0 : (0 : Int) ≤ (q : Int) := by omega
      obtain ⟨b, off, rfl, hcell⟩ := (rd_i64_cells (HR.out.kept (HB1.out.trans (HBL.out.mono HB1.out.size)))).2 (by omega)
      have hx := hcell q (by omega)
      obtain ⟨z, hz⟩ : ∃ z, z = la.getD q 0 := ⟨_, rfl⟩
      rw [← hz] at hx
      obtain ⟨p, hp⟩ : ∃ p : Nat, z % 4 = (p : Int) := ⟨(z % 4).toNat, by omega⟩
      have hp4 : p < 4 := by omega
      have hp4i : (p : Int) < 4 := by omega
      have hp0 : (0 : Int) ≤ (p : Int) := by omega
      have hw := HF.out wr HBL.out p hp4
      obtain ⟨ucap, w2, hcv, hur, hub, hus⟩ := conv_bytes wr (wd p)
      obtain ⟨S, hS⟩ : ∃ S, S = (wd p).size := ⟨_, rfl⟩
      rw [← hS] at hcv hur
      obtain ⟨g, hg⟩ : ∃ g, g = wr.heap.size := ⟨_, rfl⟩
      rw [← hg] at hcv hur hus
      have HGG := Lib.hid hg
      have HWI := Lib.hid (wd_in p)
      have HUR := Lib.hid hur
      have HUB := Lib.hid hub
      have HUS := Lib.hid hus
      have HO3 := Lib.hid (HO.out.kept hub)
      have hsz3 : W1.heap.size ≤ w2.heap.size := Nat.le_trans HBL.out.size hub.size
      clear hz hcell hur hub hus hg hS
      have HOA := Lib.hid (show (w2.alloc (.cells #[.slice (some ⟨g, 0, none⟩) S ucap] 38)).ownsRow W1.heap.size 38 1 (.slice ao q cap) q (vs ps) from by have h := World.ownsRow.alloc HO3.out.row (.cells #[.slice (some ⟨g, 0, none⟩) S ucap] 38); rw [HLEN.out] at h; exact h)
      have HLT := Lib.hid (rdS_lit w2 #[.slice (some ⟨g, 0, none⟩) S ucap] 38 1 rfl)
      have hszB : W1.heap.size ≤ (w2.alloc (.cells #[.slice (some ⟨g, 0, none⟩) S ucap] 38)).heap.size := le_alloc0 hsz3 _
      have HONE := Lib.hid (ones_one (.slice (some ⟨g, 0, none⟩) S ucap) rfl)
      go_wp2_with (at_builtin; go_must (refine wpList_append_k elmR rfl _ _ rfl W1.heap.size _ _ _ rfl HOA.out _ [[.slice (some ⟨g, 0, none⟩) S ucap]] rfl HLT.out HONE.out (by simp; omega) hszB (q + 1) rfl ?_); intro ao9 cap9 w9 hown9 hgrow9 hnew9; have HO9 := Lib.hid hown9; have HG9 := Lib.hid hgrow9; have HN9 := Lib.hid hnew9; clear hown9 hgrow9 hnew9)
      go_roundw
      case rel =>
        have hg9 : w2.grownBy w9 (Value.slice ao q cap).ownBlock := grown_trans (grownBy_any (World.grownBy_alloc w2 _ none)) HG9.out
        refine ⟨q + 1, ps ++ [(.slice (some ⟨g, 0, none⟩) S ucap, strB (wd p))], by omega, by omega, by go_num, by rw [List.length_append, HLEN.out]; rfl, fun x hx => ?_, HO.out.snoc HUB.out (fun w'' hgw => ?_) ?_ hg9 ?_, below_ownB (HBL.out.trans (HUB.out.mono HBL.out.size)) hsz3 hg9 (ownR_base HO.out.row)⟩
        · rw [xs_snoc] at hx
          rcases List.mem_append.1 hx with h | h
          · exact HIN.out x h
          · rw [List.mem_singleton.1 h]; exact HWI.out
        · refine rd_row (B := 0) HUR.out (fun b off n c he _ e => ?_) hgw
          simp only [Value.slice.injEq, Option.some.injEq, Addr.mk.injEq] at he
          obtain ⟨⟨rfl, _⟩, _⟩ := he
          have := own_lt HO.out.row e.symm
          have := HGG.out
          omega
        · rw [HLEN.out]
          have h := HO9.out
          simpa using h
        · intro k hk
          rcases HN9.out k hk with h | h
          · exact .inl h
          · right; rw [h]; simp
      case measure => simp [intOf]; omega
    · rcases (by omega : (¬ (q : Int) < (len0 : Int)) ∨ ((q : Int) < (len0 : Int) ∧ ¬ (q : Int) < 60)) with he1 | ⟨he1, he2⟩
      · obtain ⟨W5, hW5⟩ : ∃ W5 : World, W5 = wr := ⟨_, rfl⟩
        rw [← hW5] at HO HBL ⊢
        clear hW5 hlt
        go_wp2_with fail
        go_loopw [7, 9] (fun v i wr => ∃ (j : Nat) (pj : Row), j ≤ N ∧ i = .int .i64 (j : Int) ∧ pj.length = j ∧ xs pj = List.replicate j (strB (wd 3)) ∧ Far W5.heap.size wr v pj ∧ Below W5.heap.size W5 wr) (fun _ i _ => N - (intOf i).toNat)
        case atStart => exact ⟨0, [], Nat.zero_le _, rfl, rfl, rfl, far_nil _ _, Below.refl _ _⟩
        case round =>
          obtain ⟨j, pj, hj, rfl, hpl, hxj, hfar, hbel⟩ := hrel
          obtain ⟨ao2, cap2, rfl⟩ := hfar.row.shape
          rw [hpl] at hfar ⊢
          have HLJ := Lib.hid hpl
          have HXJ := Lib.hid hxj
          have HOJ := Lib.hid hfar
          have HBJ := Lib.hid hbel
          clear hpl hxj hfar hbel
          by_cases hlt : j < N
          · have hl1i : (j : Int) < (N : Int) := by omega
            have hj0 : (0 : Int) ≤ (j : Int) := by omega
            have hw := HF.out wr (HBL.out.trans (HBJ.out.mono HBL.out.size)) 3 (by decide)
            obtain ⟨ucap, w2, hcv, hur, hub, hus⟩ := conv_bytes wr (wd 3)
            obtain ⟨S, hS⟩ : ∃ S, S = (wd 3).size := ⟨_, rfl⟩
            rw [← hS] at hcv hur
            obtain ⟨g, hg⟩ : ∃ g, g = wr.heap.size := ⟨_, rfl⟩
            rw [← hg] at hcv hur hus
            have HGG := Lib.hid hg
            have HUR := Lib.hid hur
            have HUB := Lib.hid hub
            have HO3 := Lib.hid (HOJ.out.kept hub)
            have hsz3 : W5.heap.size ≤ w2.heap.size := Nat.le_trans HBJ.out.size hub.size
            clear hur hub hus hg hS
            have HOA := Lib.hid (show (w2.alloc (.cells #[.slice (some ⟨g, 0, none⟩) S ucap] 38)).ownsRow W5.heap.size 38 1 (.slice ao2 j cap2) j (vs pj) from by have h := World.ownsRow.alloc HO3.out.row (.cells #[.slice (some ⟨g, 0, none⟩) S ucap] 38); rw [HLJ.out] at h; exact h)
            have HLT := Lib.hid (rdS_lit w2 #[.slice (some ⟨g, 0, none⟩) S ucap] 38 1 rfl)
            have hszB : W5.heap.size ≤ (w2.alloc (.cells #[.slice (some ⟨g, 0, none⟩) S ucap] 38)).heap.size := le_alloc0 hsz3 _
            have HONE := Lib.hid (ones_one (.slice (some ⟨g, 0, none⟩) S ucap) rfl)
            go_wp2_with (at_builtin; go_must (refine wpList_append_k elmR rfl _ _ rfl W5.heap.size _ _ _ rfl HOA.out _ [[.slice (some ⟨g, 0, none⟩) S ucap]] rfl HLT.out HONE.out (by simp; omega) hszB (j + 1) rfl ?_); intro ao9 cap9 w9 hown9 hgrow9 hnew9; have HO9 := Lib.hid hown9; have HG9 := Lib.hid hgrow9; have HN9 := Lib.hid hnew9; clear hown9 hgrow9 hnew9)
            go_roundw
            case rel =>
              have hg9 : w2.grownBy w9 (Value.slice ao2 j cap2).ownBlock := grown_trans (grownBy_any (World.grownBy_alloc w2 _ none)) HG9.out
              refine ⟨j + 1, pj ++ [(.slice (some ⟨g, 0, none⟩) S ucap, strB (wd 3))], by omega, by go_num, by rw [List.length_append, HLJ.out]; rfl, ?_, HOJ.out.snoc HUB.out (fun w'' hgw => ?_) ?_ hg9 ?_, below_ownB (HBJ.out.trans (HUB.out.mono HBJ.out.size)) hsz3 hg9 (ownR_base HOJ.out.row)⟩
              · rw [xs_snoc, HXJ.out, List.replicate_succ']
              · refine rd_row (B := 0) HUR.out (fun b off n c he _ e => ?_) hgw
                simp only [Value.slice.injEq, Option.some.injEq, Addr.mk.injEq] at he
                obtain ⟨⟨rfl, _⟩, _⟩ := he
                have := own_lt HOJ.out.row e.symm
                have := HGG.out
                omega
              · rw [HLJ.out]
                have h := HO9.out
                simpa using h
              · intro k hk
                rcases HN9.out k hk with h | h
                · exact .inl h
                · right; rw [h]; simp
            case measure => simp [intOf]; omega
          · obtain rfl : j = N := by omega
            have hl1i : ¬ (j : Int) < (j : Int) := by omega
            have c1 : ∀ x ∈ xs ps, Fit x := fun x hx => wordsW_fit x (HIN.out x hx)
            have c2 : ∀ x ∈ xs pj, Fit x := fun x hx => by rw [HXJ.out] at hx; rw [List.eq_of_mem_replicate hx]; exact wordsW_fit _ (wd_in 3)
            have HE1 := Lib.hid (encode_b ps (.slice ao q cap) wr c1 (by rw [HLEN.out]; omega) (HO.out.row.rd.kept HBJ.out) (HO.out.els.kept HBJ.out))
            have HE2 := Lib.hid fun w' (h : Below wr.heap.size wr w') => encode_b pj (.slice ao2 j cap2) w' c2 (by rw [HLJ.out]; omega) (HOJ.out.row.rd.kept h) (HOJ.out.els.kept h)
            have HN1 := Lib.hid (best_words (xs ps) q (by rw [len_xs, HLEN.out]) HIN.out)
            have HN2 := Lib.hid (show (bestN (xs pj) 4).length ≤ 45 from by
              rw [HXJ.out]
              have h := best_alike j (strB (wd 3)) (by omega) (by omega)
              have e : (putT (strB (wd 3))).length = 42 := by decide +kernel
              omega)
            obtain ⟨B1, hB1⟩ : ∃ B, B = bestN (xs ps) 4 := ⟨_, rfl⟩
            obtain ⟨B2, hB2⟩ : ∃ B, B = bestN (xs pj) 4 := ⟨_, rfl⟩
            rw [← hB1] at HE1 HN1
            rw [← hB2] at HE2 HN2
            clear c1 c2 hB1 hB2 hlt
            go_wp2_with fail
            refine HE1.out.mono ?_
            rintro e x1 ⟨v1, rfl, hown1, hb1⟩
            obtain ⟨ao1, k1, rfl⟩ := hown1.shape
            have HX1 := Lib.hid hb1
            clear hown1 hb1
            go_wp2_with fail
            refine (HE2.out x1 HX1.out).mono ?_
            rintro e x2 ⟨v2, rfl, hown2, hb2⟩
            obtain ⟨ao3, k3, rfl⟩ := hown2.shape
            have HX2 := Lib.hid (below_then HX1.out hb2)
            obtain ⟨n1, hn1⟩ : ∃ n, n = B1.length := ⟨_, rfl⟩
            obtain ⟨n2, hn2⟩ : ∃ n, n = B2.length := ⟨_, rfl⟩
            have hn1b := HN1.out
            have hn2b := HN2.out
            rw [← hn1] at hn1b ⊢
            rw [← hn2] at hn2b ⊢
            have HAW := Lib.hid (awake5_any)
            obtain ⟨K2, hK2⟩ : ∃ K : Int, K = (q : Int) / 4 := ⟨_, rfl⟩
            have ka2 : Int.tdiv (q : Int) 4 = K2 := by rw [Int.tdiv_eq_ediv_of_nonneg (by omega), hK2]
            have kb2 : (q : Int) / 4 = K2 := hK2.symm
            have kc2 : IntKind.i64.wrap K2 = K2 := IntWalk.i64_in _ (by omega)
            obtain ⟨J2, hJ2⟩ : ∃ J : Int, J = 83 + K2 := ⟨_, rfl⟩
            have kd2 : IntKind.i64.wrap (83 + K2) = J2 := by rw [IntWalk.i64_in _ (by omega), hJ2]
            have ke2 : 83 + K2 = J2 := hJ2.symm
            obtain ⟨I2, hI2⟩ : ∃ I : Int, I = J2 + 1 := ⟨_, rfl⟩
            have kf2 : IntKind.i64.wrap (J2 + 1) = I2 := by rw [IntWalk.i64_in _ (by omega), hI2]
            have kg2 : J2 + 1 = I2 := hI2.symm
            have kh2 : (n1 : Int) ≤ I2 := by omega
            have kh3 : (n2 : Int) ≤ 45 := by omega
            have ki2 : IntKind.i64.wrap J2 = J2 := IntWalk.i64_in _ (by omega)
            have kj2 : IntKind.i64.wrap I2 = I2 := IntWalk.i64_in _ (by omega)
            clear hK2 hJ2 hI2 hn1 hn2 hown2 hb2 HE1 HE2 HN1 HN2 hn1b hn2b
            go_wp2_with fail
            refine (HAW.out _).mono ?_
            rintro e x5 ⟨rfl, hb5⟩
            have HX5 := Lib.hid (below_then HX2.out hb5)
            clear hb5
            go_wp2_with fail
            go_ret
            exact ⟨rfl, HB1.out.trans ((HBL.out.trans ((HBJ.out.trans (HX5.out.mono HBJ.out.size)).mono HBL.out.size)).mono HB1.out.size)⟩
      · obtain ⟨W5, hW5⟩ : ∃ W5 : World, W5 = wr := ⟨_, rfl⟩
        rw [← hW5] at HO HBL ⊢
        clear hW5 hlt
        go_wp2_with fail
        go_loopw [7, 9] (fun v i wr => ∃ (j : Nat) (pj : Row), j ≤ N ∧ i = .int .i64 (j : Int) ∧ pj.length = j ∧ xs pj = List.replicate j (strB (wd 3)) ∧ Far W5.heap.size wr v pj ∧ Below W5.heap.size W5 wr) (fun _ i _ => N - (intOf i).toNat)
        case atStart => exact ⟨0, [], Nat.zero_le _, rfl, rfl, rfl, far_nil _ _, Below.refl _ _⟩
        case round =>
          obtain ⟨j, pj, hj, rfl, hpl, hxj, hfar, hbel⟩ := hrel
          obtain ⟨ao2, cap2, rfl⟩ := hfar.row.shape
          rw [hpl] at hfar ⊢
          have HLJ := Lib.hid hpl
          have HXJ := Lib.hid hxj
          have HOJ := Lib.hid hfar
          have HBJ := Lib.hid hbel
          clear hpl hxj hfar hbel
          by_cases hlt : j < N
          · have hl1i : (j : Int) < (N : Int) := by omega
            have hj0 : (0 : Int) ≤ (j : Int) := by omega
            have hw := HF.out wr (HBL.out.trans (HBJ.out.mono HBL.out.size)) 3 (by decide)
            obtain ⟨ucap, w2, hcv, hur, hub, hus⟩ := conv_bytes wr (wd 3)
            obtain ⟨S, hS⟩ : ∃ S, S = (wd 3).size := ⟨_, rfl⟩
            rw [← hS] at hcv hur
            obtain ⟨g, hg⟩ : ∃ g, g = wr.heap.size := ⟨_, rfl⟩
            rw [← hg] at hcv hur hus
            have HGG := Lib.hid hg
            have HUR := Lib.hid hur
            have HUB := Lib.hid hub
            have HO3 := Lib.hid (HOJ.out.kept hub)
            have hsz3 : W5.heap.size ≤ w2.heap.size := Nat.le_trans HBJ.out.size hub.size
            clear hur hub hus hg hS
            have HOA := Lib.hid (show (w2.alloc (.cells #[.slice (some ⟨g, 0, none⟩) S ucap] 38)).ownsRow W5.heap.size 38 1 (.slice ao2 j cap2) j (vs pj) from by have h := World.ownsRow.alloc HO3.out.row (.cells #[.slice (some ⟨g, 0, none⟩) S ucap] 38); rw [HLJ.out] at h; exact h)
            have HLT := Lib.hid (rdS_lit w2 #[.slice (some ⟨g, 0, none⟩) S ucap] 38 1 rfl)
            have hszB : W5.heap.size ≤ (w2.alloc (.cells #[.slice (some ⟨g, 0, none⟩) S ucap] 38)).heap.size := le_alloc0 hsz3 _
            have HONE := Lib.hid (ones_one (.slice (some ⟨g, 0, none⟩) S ucap) rfl)
            go_wp2_with (at_builtin; go_must (refine wpList_append_k elmR rfl _ _ rfl W5.heap.size _ _ _ rfl HOA.out _ [[.slice (some ⟨g, 0, none⟩) S ucap]] rfl HLT.out HONE.out (by simp; omega) hszB (j + 1) rfl ?_); intro ao9 cap9 w9 hown9 hgrow9 hnew9; have HO9 := Lib.hid hown9; have HG9 := Lib.hid hgrow9; have HN9 := Lib.hid hnew9; clear hown9 hgrow9 hnew9)
            go_roundw
            case rel =>
              have hg9 : w2.grownBy w9 (Value.slice ao2 j cap2).ownBlock := grown_trans (grownBy_any (World.grownBy_alloc w2 _ none)) HG9.out
              refine ⟨j + 1, pj ++ [(.slice (some ⟨g, 0, none⟩) S ucap, strB (wd 3))], by omega, by go_num, by rw [List.length_append, HLJ.out]; rfl, ?_, HOJ.out.snoc HUB.out (fun w'' hgw => ?_) ?_ hg9 ?_, below_ownB (HBJ.out.trans (HUB.out.mono HBJ.out.size)) hsz3 hg9 (ownR_base HOJ.out.row)⟩
              · rw [xs_snoc, HXJ.out, List.replicate_succ']
              · refine rd_row (B := 0) HUR.out (fun b off n c he _ e => ?_) hgw
                simp only [Value.slice.injEq, Option.some.injEq, Addr.mk.injEq] at he
                obtain ⟨⟨rfl, _⟩, _⟩ := he
                have := own_lt HOJ.out.row e.symm
                have := HGG.out
                omega
              · rw [HLJ.out]
                have h := HO9.out
                simpa using h
              · intro k hk
                rcases HN9.out k hk with h | h
                · exact .inl h
                · right; rw [h]; simp
            case measure => simp [intOf]; omega
          · obtain rfl : j = N := by omega
            have hl1i : ¬ (j : Int) < (j : Int) := by omega
            have c1 : ∀ x ∈ xs ps, Fit x := fun x hx => wordsW_fit x (HIN.out x hx)
            have c2 : ∀ x ∈ xs pj, Fit x := fun x hx => by rw [HXJ.out] at hx; rw [List.eq_of_mem_replicate hx]; exact wordsW_fit _ (wd_in 3)
            have HE1 := Lib.hid (encode_b ps (.slice ao q cap) wr c1 (by rw [HLEN.out]; omega) (HO.out.row.rd.kept HBJ.out) (HO.out.els.kept HBJ.out))
            have HE2 := Lib.hid fun w' (h : Below wr.heap.size wr w') => encode_b pj (.slice ao2 j cap2) w' c2 (by rw [HLJ.out]; omega) (HOJ.out.row.rd.kept h) (HOJ.out.els.kept h)
            have HN1 := Lib.hid (best_words (xs ps) q (by rw [len_xs, HLEN.out]) HIN.out)
            have HN2 := Lib.hid (show (bestN (xs pj) 4).length ≤ 45 from by
              rw [HXJ.out]
              have h := best_alike j (strB (wd 3)) (by omega) (by omega)
              have e : (putT (strB (wd 3))).length = 42 := by decide +kernel
              omega)
            obtain ⟨B1, hB1⟩ : ∃ B, B = bestN (xs ps) 4 := ⟨_, rfl⟩
            obtain ⟨B2, hB2⟩ : ∃ B, B = bestN (xs pj) 4 := ⟨_, rfl⟩
            rw [← hB1] at HE1 HN1
            rw [← hB2] at HE2 HN2
            clear c1 c2 hB1 hB2 hlt
            go_wp2_with fail
            refine HE1.out.mono ?_
            rintro e x1 ⟨v1, rfl, hown1, hb1⟩
            obtain ⟨ao1, k1, rfl⟩ := hown1.shape
            have HX1 := Lib.hid hb1
            clear hown1 hb1
            go_wp2_with fail
            refine (HE2.out x1 HX1.out).mono ?_
            rintro e x2 ⟨v2, rfl, hown2, hb2⟩
            obtain ⟨ao3, k3, rfl⟩ := hown2.shape
            have HX2 := Lib.hid (below_then HX1.out hb2)
            obtain ⟨n1, hn1⟩ : ∃ n, n = B1.length := ⟨_, rfl⟩
            obtain ⟨n2, hn2⟩ : ∃ n, n = B2.length := ⟨_, rfl⟩
            have hn1b := HN1.out
            have hn2b := HN2.out
            rw [← hn1] at hn1b ⊢
            rw [← hn2] at hn2b ⊢
            have HAW := Lib.hid (awake5_any)
            obtain ⟨K2, hK2⟩ : ∃ K : Int, K = (q : Int) / 4 := ⟨_, rfl⟩
            have ka2 : Int.tdiv (q : Int) 4 = K2 := by rw [Int.tdiv_eq_ediv_of_nonneg (by omega), hK2]
            have kb2 : (q : Int) / 4 = K2 := hK2.symm
            have kc2 : IntKind.i64.wrap K2 = K2 := IntWalk.i64_in _ (by omega)
            obtain ⟨J2, hJ2⟩ : ∃ J : Int, J = 83 + K2 := ⟨_, rfl⟩
            have kd2 : IntKind.i64.wrap (83 + K2) = J2 := by rw [IntWalk.i64_in _ (by omega), hJ2]
            have ke2 : 83 + K2 = J2 := hJ2.symm
            obtain ⟨I2, hI2⟩ : ∃ I : Int, I = J2 + 1 := ⟨_, rfl⟩
            have kf2 : IntKind.i64.wrap (J2 + 1) = I2 := by rw [IntWalk.i64_in _ (by omega), hI2]
            have kg2 : J2 + 1 = I2 := hI2.symm
            have kh2 : (n1 : Int) ≤ I2 := by omega
            have kh3 : (n2 : Int) ≤ 45 := by omega
            have ki2 : IntKind.i64.wrap J2 = J2 := IntWalk.i64_in _ (by omega)
            have kj2 : IntKind.i64.wrap I2 = I2 := IntWalk.i64_in _ (by omega)
            clear hK2 hJ2 hI2 hn1 hn2 hown2 hb2 HE1 HE2 HN1 HN2 hn1b hn2b
            go_wp2_with fail
            refine (HAW.out _).mono ?_
            rintro e x5 ⟨rfl, hb5⟩
            have HX5 := Lib.hid (below_then HX2.out hb5)
            clear hb5
            go_wp2_with fail
            go_ret
            exact ⟨rfl, HB1.out.trans ((HBL.out.trans ((HBJ.out.trans (HX5.out.mono HBJ.out.size)).mono HBL.out.size)).mono HB1.out.size)⟩


end Go.Proofs.Yteloepccjoikdaa.Bc
