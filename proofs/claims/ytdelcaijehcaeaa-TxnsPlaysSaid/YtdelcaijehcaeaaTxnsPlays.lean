/-
  The walk of TxnsPlays.
-/
import Derived.Test.YtdelcaijehcaeaaTxaw
import Derived.Test.YtdelcaijehcaeaaTxg
import Derived.Test.YtdelcaijehcaeaaIsRow
import Derived.Test.YtdelcaijehcaeaaNulle
import Derived.Deep.DeepCutAuto
import Derived.Deep.CutBlock
import Derived.Deep.AppendLies
namespace Go.Proofs.Ytdelcaijehcaeaa
set_option linter.unusedVariables false
open Go.RowKit

/-- The state of that ID; 0 of none. -/
def stOf (l : List Tx) (id : Int) : Nat := match findT l id with | some t => t.s | none => 0

theorem isT_st (l : List Tx) (id : Int) (st : Nat) (h : 0 < st) : isT l id st = (stOf l id == st) := by
  unfold isT stOf
  cases findT l id
  · simp; omega
  · rfl

def Fine (l : List Tx) : Prop := ∀ t ∈ l, t.b ≤ 4000000000 ∧ t.s ≤ 9

theorem fine_set {l : List Tx} {K : Nat} {t : Tx} {v e : Nat} (h : Fine l) (ht : l[K]? = some t) (hv : v ≤ 9) : Fine (l.set K ⟨t.i, v, t.b, e⟩) := by
  intro u hu
  rcases List.mem_or_eq_of_mem_set hu with h1 | h1
  · exact h u h1
  · rw [h1]
    exact ⟨(h t (List.mem_of_getElem? ht)).1, hv⟩

set_option maxRecDepth 100000 in
set_option maxHeartbeats 8000000 in
theorem walk_TxnsPlays (a0 : Option Addr) (len0 cap0 : Nat) (z0 : List Int) (w : World) (w0 : IsRow .i64 w a0 len0 cap0 z0) :
    Calls Try.prog 13 #[.slice a0 len0 cap0] w fun e w' => e = .returned (.bool true) ∧ Below w.heap.size w w' := by
  obtain ⟨xs, hl, hr, _⟩ := isRow_rd w0
  clear w0
  have HC := Lib.hid (rdz_cells hr).2
  clear hr hl
  go_enter Try.func13, Try.ntmps13
  go_wp2_with fail
  refine (bknew_any w).mono ?_
  rintro e w1 ⟨g, rfl, hi, hb⟩
  have I1 := Lib.hid (show Two w.heap.size w1 g 1 [] [] (.slice none 0 0) from ⟨hi, ⟨rfl, .inl ⟨rfl, rfl⟩⟩, fun a ha => by cases ha⟩)
  have B1 := Lib.hid hb
  clear hi hb
  go_wp2_with fail
  go_loopw [4, 5, 6] (fun va nw i wr => ∃ k now : Nat, ∃ l : List Tx, k ≤ 100 ∧ now ≤ k + 1 ∧ l.length ≤ k ∧ nw = .int .i64 (now : Int) ∧ i = .int .i64 (k : Int) ∧ Two w.heap.size wr g now l l va ∧ Fine l ∧ Below w.heap.size w wr) (fun _ _ i _ => 100 - (intOf i).toNat)
  case atStart => exact ⟨0, 1, [], by omega, by omega, Nat.le_refl _, rfl, rfl, I1.out, (fun t ht => by simp at ht), B1.out⟩
  case round =>
    obtain ⟨k, now, l, hk, hnow, hll, rfl, rfl, htwo, hfine, hbel⟩ := hrel
    obtain ⟨wo, rfl⟩ : ∃ wo : World, wo = wr := ⟨_, rfl⟩
    obtain ⟨aa, ca, hv⟩ := own_shape htwo.2.1
    subst hv
    have HT := Lib.hid htwo
    have HF := Lib.hid hfine
    have HB := Lib.hid hbel
    clear htwo hfine hbel I1 B1
    obtain ⟨n, hn⟩ : ∃ n, n = l.length := ⟨_, rfl⟩
    rw [← hn] at HT hll ⊢
    have HN := Lib.hid hn
    clear hn
    by_cases hlt : k < len0 ∧ k < 100
    · obtain ⟨hlt1, hlt2⟩ := hlt
      have hd1 : decide ((k : Int) < (len0 : Int)) = true := by simp; omega
      have hd2 : decide ((k : Int) < 100) = true := by simp; omega
      obtain ⟨b, off, rfl, hcell⟩ := HC.out (by omega)
      have hx0 := hcell k hlt1
      obtain ⟨x, hxe⟩ : ∃ x, x = xs.getD k 0 := ⟨_, rfl⟩
      rw [← hxe] at hx0
      have hx := (HB.out.cell (p := ⟨b, off + k, none⟩) (World.block_lt_of_cell? _ _ hx0)).trans hx0
      obtain ⟨c15, hc15, hc15l⟩ := and_some (x / 8) 15 15 rfl (by decide)
      obtain ⟨c7, hc7, hc7l⟩ := and_some x 7 7 rfl (by decide)
      have HX0 := Lib.hid hx0
      clear hcell hxe
      obtain ⟨id, hid⟩ : ∃ id : Int, id = (c15 : Int) - 1 := ⟨_, rfl⟩
      have HID := Lib.hid hid
      go_upto_region 11 with (fail)
      rw [← hid]
      have hid1 : -1 ≤ id := by omega
      have hid2 : id ≤ 14 := by omega
      clear hid
      have HT1 := Lib.hid (two_below HT.out (below_alloc wo (.cells #[.int .i64 0, .int .i64 0, .int .i64 0, .int .i64 0] 47)))
      have HF1 := Lib.hid (far_new (o := .cells #[.int .i64 0, .int .i64 0, .int .i64 0, .int .i64 0] 47) HT.out.1)
      have HBA := Lib.hid (below_lay HB.out (.cells #[.int .i64 0, .int .i64 0, .int .i64 0, .int .i64 0] 47))
      obtain ⟨X, hX⟩ : ∃ X, X = wo.heap.size := ⟨_, rfl⟩
      have HXA := Lib.hid (show ∀ a, (Value.slice aa n ca).ownBlock = some a → a ≠ X from fun a ha => by have := (HT.out.2.2 a ha).1; omega)
      have hz := heap_alloc_new wo (.cells #[.int .i64 0, .int .i64 0, .int .i64 0, .int .i64 0] 47)
      obtain ⟨W1, hW1⟩ : ∃ W1 : World, W1 = wo.alloc (.cells #[.int .i64 0, .int .i64 0, .int .i64 0, .int .i64 0] 47) := ⟨_, rfl⟩
      rw [← hX] at HF1 hz
      rw [← hX, ← hW1]
      rw [← hW1] at HT1 HF1 HBA hz
      have HZ := Lib.hid hz
      have HXW := Lib.hid (show w.heap.size ≤ X by rw [hX]; exact HB.out.size)
      clear hz hX hW1 hx HT
      obtain ⟨bo, hbo⟩ : ∃ bo : Bool, bo = decide (1 ≤ id ∧ id ≤ (n : Int)) := ⟨_, rfl⟩
      have HBO := Lib.hid hbo
      clear hbo
      go_cut [45] (fun s wx => s = .bool bo ∧ W1 = wx)
      case first =>
        go_wp2_with fail
        all_goals
          go_meet
          refine ⟨?_, rfl⟩
          rw [HBO.out]
          first
            | (simp only [Value.bool.injEq, decide_eq_decide]; omega)
            | (congr 1; symm; rw [decide_eq_false_iff_not]; omega)
      case rest =>
        obtain ⟨rfl, rfl⟩ := hcut
        go_upto_if 45 with (fail)
        go_cut [8] (fun s wx => s = .pointer (some ⟨X, 0, none⟩) ∧ ∃ st : Nat, wx.cell? ⟨X, 1, none⟩ = some (.int .i64 (st : Int)) ∧ st = stOf l id ∧ Far wx g X ∧ Two w.heap.size wx g now l l (.slice aa n ca) ∧ Below w.heap.size w wx)
        case first =>
          have hz0 : W1.cell? ⟨X, 0, none⟩ = some (.int .i64 0) := by rw [cell_of_row W1 X 0 _ _ _ HZ.out]; rfl
          have hz1 : W1.cell? ⟨X, 1, none⟩ = some (.int .i64 0) := by rw [cell_of_row W1 X 1 _ _ _ HZ.out]; rfl
          have hz2 : W1.cell? ⟨X, 2, none⟩ = some (.int .i64 0) := by rw [cell_of_row W1 X 2 _ _ _ HZ.out]; rfl
          have hz3 : W1.cell? ⟨X, 3, none⟩ = some (.int .i64 0) := by rw [cell_of_row W1 X 3 _ _ _ HZ.out]; rfl
          cases bo
          · have HST := Lib.hid (show 0 = stOf l id by
              have := HBO.out
              unfold stOf findT
              rw [if_neg (by rw [← HN.out]; intro h; rw [eq_comm, decide_eq_false_iff_not] at this; exact this h)])
            go_wp2_with fail
            go_meet
            exact ⟨rfl, 0, hz1, HST.out, HF1.out, HT1.out, HBA.out⟩
          · have hb2 : 1 ≤ id ∧ id ≤ (n : Int) := by
              have := HBO.out
              rw [eq_comm, decide_eq_true_eq] at this
              exact this
            obtain ⟨hb3, hb4⟩ := hb2
            obtain ⟨K, hK⟩ : ∃ K : Nat, id = (K : Int) + 1 := ⟨(id - 1).toNat, by omega⟩
            have hKn : K < n := by omega
            obtain ⟨t, ht⟩ : ∃ t, l[K]? = some t := ⟨_, List.getElem?_eq_getElem (by rw [← HN.out]; exact hKn)⟩
            obtain ⟨gg, cap, hva, hc⟩ := tx_cells (B := w.heap.size) (g := g) (now := now) HT1.out.2.1 ht
            have hva2 := hva
            simp only [Value.slice.injEq] at hva2
            have haa := hva2.1
            clear hva2
            subst haa
            have k0 : W1.cell? ⟨gg, K * 4, none⟩ = some (.int .i64 (t.i : Int)) := (hc 0 (by decide)).1
            have k1 : W1.cell? ⟨gg, K * 4 + 1, none⟩ = some (.int .i64 (t.s : Int)) := (hc 1 (by decide)).1
            have k2 : W1.cell? ⟨gg, K * 4 + 2, none⟩ = some (.int .i64 (t.b : Int)) := (hc 2 (by decide)).1
            have k3 : W1.cell? ⟨gg, K * 4 + 3, none⟩ = some (.int .i64 (t.e : Int)) := (hc 3 (by decide)).1
            have f0 : W1.frozen? ⟨X, 0, none⟩ = false := frozen_of_row W1 X 0 _ _ HZ.out
            have f1 : W1.frozen? ⟨X, 1, none⟩ = false := frozen_of_row W1 X 1 _ _ HZ.out
            have f2 : W1.frozen? ⟨X, 2, none⟩ = false := frozen_of_row W1 X 2 _ _ HZ.out
            have f3 : W1.frozen? ⟨X, 3, none⟩ = false := frozen_of_row W1 X 3 _ _ HZ.out
            have HST := Lib.hid (show t.s = stOf l id by
              unfold stOf findT
              rw [if_pos (by rw [← HN.out]; exact ⟨hb3, hb4⟩), hK, show ((K : Int) + 1 - 1).toNat = K by omega, ht])
            subst hK
            obtain ⟨y1, y2⟩ := four_sets (a' := .int .i64 (t.i : Int)) (b' := .int .i64 (t.s : Int)) (c' := .int .i64 (t.b : Int)) (d' := .int .i64 (t.e : Int)) HZ.out
            obtain ⟨y3, y4⟩ := two_other HT1.out HF1.out (fun h => HXA.out X h rfl) y2
            have Y1 := Lib.hid y1
            have Y3 := Lib.hid y3
            have Y4 := Lib.hid y4
            have Y5 := Lib.hid (HBA.out.grown y2 HBA.out.size (fun k e => by cases e; exact HXW.out))
            clear hc ht hva y1 y2 y3 y4
            go_wp2_with fail
            go_meet
            exact ⟨rfl, t.s, Y1.out, HST.out, Y4.out, Y3.out, Y5.out⟩
        case rest =>
          obtain ⟨rfl, st, hxc, hst, hfx, htwo, hbel⟩ := hcut
          obtain ⟨W2, hW2⟩ : ∃ W2 : World, W2 = wc := ⟨_, rfl⟩
          rw [← hW2] at hxc hfx htwo hbel ⊢
          clear hW2 HT1 HF1 HBA HZ HBO
          have HST := Lib.hid hst
          have HFX := Lib.hid hfx
          have HT2 := Lib.hid htwo
          have HB2 := Lib.hid hbel
          have hx := (hbel.cell (p := ⟨b, off + k, none⟩) (World.block_lt_of_cell? _ _ HX0.out)).trans HX0.out
          clear hst hfx htwo hbel
          go_upto_block 2 with (fail)
          go_cut [4, 5] (fun va nw wx => ∃ now' : Nat, ∃ l' : List Tx, nw = .int .i64 (now' : Int) ∧ now' ≤ k + 2 ∧ l'.length ≤ k + 1 ∧ Two w.heap.size wx g now' l' l' va ∧ Fine l' ∧ Below w.heap.size w wx)
          case first =>
            have h8 : (((c7 : Int) == 0) = true ∧ True) ∨ (((c7 : Int) == 0) = false ∧ ((c7 : Int) == 1) = true) ∨ (((c7 : Int) == 0) = false ∧ ((c7 : Int) == 1) = false) := by
              by_cases h0 : c7 = 0
              · left; exact ⟨by rw [beq_iff_eq]; omega, trivial⟩
              · right
                by_cases h1 : c7 = 1
                · left; exact ⟨by rw [beq_eq_false_iff_ne]; omega, by rw [beq_iff_eq]; omega⟩
                · right; exact ⟨by rw [beq_eq_false_iff_ne]; omega, by rw [beq_eq_false_iff_ne]; omega⟩
            have h82 : (((c7 : Int) == 2) = true ∧ True) ∨ (((c7 : Int) == 2) = false ∧ ((c7 : Int) == 3) = true) ∨ (((c7 : Int) == 2) = false ∧ ((c7 : Int) == 3) = false) := by
              by_cases h0 : c7 = 2
              · left; exact ⟨by rw [beq_iff_eq]; omega, trivial⟩
              · right
                by_cases h1 : c7 = 3
                · left; exact ⟨by rw [beq_eq_false_iff_ne]; omega, by rw [beq_iff_eq]; omega⟩
                · right; exact ⟨by rw [beq_eq_false_iff_ne]; omega, by rw [beq_eq_false_iff_ne]; omega⟩
            have h84 : (((c7 : Int) == 4) = true ∧ True) ∨ (((c7 : Int) == 4) = false ∧ ((c7 : Int) == 5) = true) ∨ (((c7 : Int) == 4) = false ∧ ((c7 : Int) == 5) = false) := by
              by_cases h0 : c7 = 4
              · left; exact ⟨by rw [beq_iff_eq]; omega, trivial⟩
              · right
                by_cases h1 : c7 = 5
                · left; exact ⟨by rw [beq_eq_false_iff_ne]; omega, by rw [beq_iff_eq]; omega⟩
                · right; exact ⟨by rw [beq_eq_false_iff_ne]; omega, by rw [beq_eq_false_iff_ne]; omega⟩
            rcases h8 with ⟨t0, t1⟩ | ⟨t0, t1⟩ | ⟨t0, t1⟩
            rotate_right 1
            · rcases h82 with ⟨t2, t3⟩ | ⟨t2, t3⟩ | ⟨t2, t3⟩
              rotate_right 1
              · rcases h84 with ⟨t4, t5⟩ | ⟨t4, t5⟩ | ⟨t4, t5⟩
                rotate_right 1
                · as_aux_lemma =>
                  cases hq : isT l id 1
                  · cases hq2 : isT l id 2
                    · have HI := Lib.hid hq
                      have HI2 := Lib.hid hq2
                      have hs1 : ((st : Int) == 1) = false := by
                        rw [isT_st l id 1 (by decide), ← HST.out] at hq
                        rw [beq_eq_false_iff_ne] at hq ⊢
                        omega
                      have hs2 : ((st : Int) == 2) = false := by
                        rw [isT_st l id 2 (by decide), ← HST.out] at hq2
                        rw [beq_eq_false_iff_ne] at hq2 ⊢
                        omega
                      clear hq hq2
                      go_wp2_with fail
                      refine (abort_no _ g now l W2 id HT2.out.1 (by rw [← HN.out]; omega) (by omega) (by omega) HI.out HI2.out).mono ?_
                      rintro e w3 ⟨rfl, rfl⟩
                      go_wp2_with fail
                      go_meet
                      exact ⟨now, l, rfl, by omega, by rw [← HN.out]; omega, HT2.out, HF.out, HB2.out⟩
                    · have HI := Lib.hid hq2
                      have hs1 : ((st : Int) == 1) = false := by
                        rw [isT_st l id 1 (by decide), ← HST.out] at hq
                        rw [beq_eq_false_iff_ne] at hq ⊢
                        omega
                      have hs2 : ((st : Int) == 2) = true := by
                        have hq3 := hq2
                        rw [isT_st l id 2 (by decide), ← HST.out] at hq3
                        rw [beq_iff_eq] at hq3 ⊢
                        omega
                      clear hq
                      have hq := hq2
                      clear hq2
                      go_wp2_with fail
                      refine (abort_yes2_far _ g now l W2 id HT2.out.1 (by rw [← HN.out]; omega) (by omega) (by omega) HI.out).mono ?_
                      rintro e w3 ⟨rfl, hi, hb, hf⟩
                      have HT3 := Lib.hid (two_calls HT2.out hi hf)
                      have HB3 := Lib.hid (HB2.out.trans hb)
                      obtain ⟨K, t, hK, hKl, ht, hs⟩ := isT_some hq
                      obtain ⟨gg, cap, hva, hc⟩ := tx_cells (B := w.heap.size) (g := g) (now := now) HT3.out.2.1 ht
                      have hva2 := hva
                      simp only [Value.slice.injEq] at hva2
                      have haa := hva2.1
                      clear hva2
                      subst haa
                      have k1 : w3.cell? ⟨gg, K * 4 + 1, none⟩ = some (.int .i64 (t.s : Int)) := (hc 1 (by decide)).1
                      have f1 := (hc 1 (by decide)).2
                      have HU := Lib.hid (updT_at (fun t => ⟨t.i, 4, t.b, t.e⟩) ht)
                      obtain ⟨p1, p2⟩ := two_set (t' := ⟨t.i, 4, t.b, t.e⟩) (j := 1) (v := .int .i64 (4 : Int)) HT3.out ht (by decide) rfl
                      have P1 := Lib.hid p1
                      have P2 := Lib.hid (HB3.out.trans p2)
                      have HFN := Lib.hid (show Fine (l.set K ⟨t.i, 4, t.b, t.e⟩) from fine_set HF.out ht (by decide))
                      have hKn : K < n := by rw [HN.out]; exact hKl
                      rw [hK] at P1
                      rw [HU.out] at P1
                      subst hK
                      clear hi hb hf hva hc ht p1 p2 hq HI hKl hs
                      go_wp2_with fail
                      go_meet
                      exact ⟨now, _, rfl, by omega, by rw [List.length_set, ← HN.out]; omega, P1.out, HFN.out, P2.out⟩
                  · have HI := Lib.hid hq
                    have hs1 : ((st : Int) == 1) = true := by
                      have hq2 := hq
                      rw [isT_st l id 1 (by decide), ← HST.out] at hq2
                      rw [beq_iff_eq] at hq2 ⊢
                      omega
                    go_wp2_with fail
                    refine (abort_yes1_far _ g now l W2 id HT2.out.1 (by rw [← HN.out]; omega) (by omega) (by omega) HI.out).mono ?_
                    rintro e w3 ⟨rfl, hi, hb, hf⟩
                    have HT3 := Lib.hid (two_calls HT2.out hi hf)
                    have HB3 := Lib.hid (HB2.out.trans hb)
                    obtain ⟨K, t, hK, hKl, ht, hs⟩ := isT_some hq
                    obtain ⟨gg, cap, hva, hc⟩ := tx_cells (B := w.heap.size) (g := g) (now := now) HT3.out.2.1 ht
                    have hva2 := hva
                    simp only [Value.slice.injEq] at hva2
                    have haa := hva2.1
                    clear hva2
                    subst haa
                    have k1 : w3.cell? ⟨gg, K * 4 + 1, none⟩ = some (.int .i64 (t.s : Int)) := (hc 1 (by decide)).1
                    have f1 := (hc 1 (by decide)).2
                    have HU := Lib.hid (updT_at (fun t => ⟨t.i, 4, t.b, t.e⟩) ht)
                    obtain ⟨p1, p2⟩ := two_set (t' := ⟨t.i, 4, t.b, t.e⟩) (j := 1) (v := .int .i64 (4 : Int)) HT3.out ht (by decide) rfl
                    have P1 := Lib.hid p1
                    have P2 := Lib.hid (HB3.out.trans p2)
                    have HFN := Lib.hid (show Fine (l.set K ⟨t.i, 4, t.b, t.e⟩) from fine_set HF.out ht (by decide))
                    have hKn : K < n := by rw [HN.out]; exact hKl
                    rw [hK] at P1
                    rw [HU.out] at P1
                    subst hK
                    clear hi hb hf hva hc ht p1 p2 hq HI hKl hs
                    go_wp2_with fail
                    go_meet
                    exact ⟨now, _, rfl, by omega, by rw [List.length_set, ← HN.out]; omega, P1.out, HFN.out, P2.out⟩
                all_goals
                  as_aux_lemma =>
                  cases hq : isT l id 2
                  · have HI := Lib.hid hq
                    have hs1 : ((st : Int) == 2) = false := by
                      rw [isT_st l id 2 (by decide), ← HST.out] at hq
                      rw [beq_eq_false_iff_ne] at hq ⊢
                      omega
                    clear hq
                    go_wp2_with fail
                    refine (commit_no _ g now l W2 id HT2.out.1 (by rw [← HN.out]; omega) (by omega) (by omega) HI.out).mono ?_
                    rintro e w3 ⟨rfl, rfl⟩
                    go_wp2_with fail
                    go_meet
                    exact ⟨now, l, rfl, by omega, by rw [← HN.out]; omega, HT2.out, HF.out, HB2.out⟩
                  · have HI := Lib.hid hq
                    have hs1 : ((st : Int) == 2) = true := by
                      have hq2 := hq
                      rw [isT_st l id 2 (by decide), ← HST.out] at hq2
                      rw [beq_iff_eq] at hq2 ⊢
                      omega
                    go_wp2_with fail
                    refine (commit_yes_far _ g now l W2 id HT2.out.1 (by rw [← HN.out]; omega) (by omega) (by omega) HI.out).mono ?_
                    rintro e w3 ⟨rfl, hi, hb, hf⟩
                    have HT3 := Lib.hid (two_calls HT2.out hi hf)
                    have HB3 := Lib.hid (HB2.out.trans hb)
                    obtain ⟨K, t, hK, hKl, ht, hs⟩ := isT_some hq
                    obtain ⟨gg, cap, hva, hc⟩ := tx_cells (B := w.heap.size) (g := g) (now := now) HT3.out.2.1 ht
                    have hva2 := hva
                    simp only [Value.slice.injEq] at hva2
                    have haa := hva2.1
                    clear hva2
                    subst haa
                    have k1 : w3.cell? ⟨gg, K * 4 + 1, none⟩ = some (.int .i64 (t.s : Int)) := (hc 1 (by decide)).1
                    have f1 := (hc 1 (by decide)).2
                    have HU := Lib.hid (updT_at (fun t => ⟨t.i, 3, t.b, t.e⟩) ht)
                    obtain ⟨p1, p2⟩ := two_set (t' := ⟨t.i, 3, t.b, t.e⟩) (j := 1) (v := .int .i64 (3 : Int)) HT3.out ht (by decide) rfl
                    have P1 := Lib.hid p1
                    have P2 := Lib.hid (HB3.out.trans p2)
                    have HFN := Lib.hid (show Fine (l.set K ⟨t.i, 3, t.b, t.e⟩) from fine_set HF.out ht (by decide))
                    have hKn : K < n := by rw [HN.out]; exact hKl
                    rw [hK] at P1
                    rw [HU.out] at P1
                    subst hK
                    clear hi hb hf hva hc ht p1 p2 hq HI hKl hs
                    go_wp2_with fail
                    go_meet
                    exact ⟨now, _, rfl, by omega, by rw [List.length_set, ← HN.out]; omega, P1.out, HFN.out, P2.out⟩
              all_goals
                clear h84
                as_aux_lemma =>
                cases hq : isT l id 1
                · have HI := Lib.hid hq
                  have hs1 : ((st : Int) == 1) = false := by
                    rw [isT_st l id 1 (by decide), ← HST.out] at hq
                    rw [beq_eq_false_iff_ne] at hq ⊢
                    omega
                  clear hq
                  go_wp2_with fail
                  refine (prep_no _ g now l W2 id HT2.out.1 (by rw [← HN.out]; omega) (by omega) (by omega) HI.out).mono ?_
                  rintro e w3 ⟨rfl, rfl⟩
                  go_wp2_with fail
                  go_meet
                  exact ⟨now, l, rfl, by omega, by rw [← HN.out]; omega, HT2.out, HF.out, HB2.out⟩
                · have HI := Lib.hid hq
                  have hs1 : ((st : Int) == 1) = true := by
                    have hq2 := hq
                    rw [isT_st l id 1 (by decide), ← HST.out] at hq2
                    rw [beq_iff_eq] at hq2 ⊢
                    omega
                  go_wp2_with fail
                  refine (prep_yes_far _ g now l W2 id HT2.out.1 (by rw [← HN.out]; omega) (by omega) (by omega) (by omega) HI.out).mono ?_
                  rintro e w3 ⟨rfl, hi, hb, hf⟩
                  have HT3 := Lib.hid (two_calls HT2.out hi hf)
                  have HB3 := Lib.hid (HB2.out.trans hb)
                  have hxc3 : w3.cell? ⟨X, 1, none⟩ = some (.int .i64 (st : Int)) := (World.cell?_of_block (a := ⟨X, 1, none⟩) (hf X HFX.out).1).trans hxc
                  obtain ⟨K, t, hK, hKl, ht, hs⟩ := isT_some hq
                  obtain ⟨gg, cap, hva, hc⟩ := tx_cells (B := w.heap.size) (g := g) (now := now) HT3.out.2.1 ht
                  have hva2 := hva
                  simp only [Value.slice.injEq] at hva2
                  have haa := hva2.1
                  clear hva2
                  subst haa
                  have k1 : w3.cell? ⟨gg, K * 4 + 1, none⟩ = some (.int .i64 (t.s : Int)) := (hc 1 (by decide)).1
                  have f1 := (hc 1 (by decide)).2
                  have k3 : w3.cell? ⟨gg, K * 4 + 3, none⟩ = some (.int .i64 (t.e : Int)) := (hc 3 (by decide)).1
                  have f3 := (hc 3 (by decide)).2
                  have HU := Lib.hid (updT_at (fun t => ⟨t.i, 2, t.b, now + 1⟩) ht)
                  obtain ⟨p1, p2⟩ := two_set (t' := ⟨t.i, 2, t.b, t.e⟩) (j := 1) (v := .int .i64 (2 : Int)) HT3.out ht (by decide) rfl
                  have ht2 : (l.set K ⟨t.i, 2, t.b, t.e⟩)[K]? = some ⟨t.i, 2, t.b, t.e⟩ := by rw [List.getElem?_set_self hKl]
                  obtain ⟨p3, p4⟩ := two_set (t' := ⟨t.i, 2, t.b, now + 1⟩) (j := 3) (v := .int .i64 ((now : Int) + 1)) p1 ht2 (by decide) rfl
                  rw [List.set_set] at p3
                  have P1 := Lib.hid p3
                  have P2 := Lib.hid ((HB3.out.trans p2).trans p4)
                  have HFN := Lib.hid (show Fine (l.set K ⟨t.i, 2, t.b, now + 1⟩) from fine_set HF.out ht (by decide))
                  have hKn : K < n := by rw [HN.out]; exact hKl
                  have hna : ((now : Int) + 1 != (now : Int) + 1) = false := bne_self_eq_false _
                  rw [hK] at P1
                  rw [HU.out] at P1
                  subst hK
                  clear hi hb hf hva hc ht p1 p2 p3 p4 ht2 hq HI hKl hs hxc
                  go_wp2_with fail
                  go_meet
                  exact ⟨now + 1, _, by go_num, by omega, by rw [List.length_set, ← HN.out]; omega, P1.out, HFN.out, P2.out⟩
            all_goals
              clear h82 h84
              as_aux_lemma =>
              go_wp2_with fail
              refine (bkbegin_far _ g now l W2 HT2.out.1 (by rw [← HN.out]; omega)).mono ?_
              rintro e w3 ⟨rfl, hi, hb, hf⟩
              rw [← HN.out] at hi ⊢
              have HT3 := Lib.hid (two_calls HT2.out hi hf)
              have HB3 := Lib.hid (HB2.out.trans hb)
              have HOA : Hid (∀ o, (w3.alloc o).ownsRow w.heap.size 47 4 (.slice aa n ca) n (flat l)) := Lib.hid (fun o => by have := HT3.out.2.1.alloc o; rw [← HN.out] at this; exact this)
              have hne1 : (((n + 1 : Nat) : Int) != (n : Int) + 1) = false := by simp
              have hns := World.news_of_block (cs := #[.int .i64 ((n : Int) + 1), .int .i64 1, .int .i64 (now : Int), .int .i64 0]) (t := 47) (fr := (0, 0)) (heap_alloc_new w3 _)
              have HNS := Lib.hid hns
              have hsz3 := Lib.hid (below_lay HB3.out (.cells #[.int .i64 ((n : Int) + 1), .int .i64 1, .int .i64 (now : Int), .int .i64 0] 47)).size
              obtain ⟨i0, hi0, hz0, hz1, hz2⟩ := info_parts infoTx
              clear hi hb hf hns hxc hx
              go_wp2_with (at_builtin; go_must (refine wpList_append_lies _ rfl _ _ 44 rfl w.heap.size 47 i0 _ 4 32 Try.underlying44 hi0 hz0 hz1 hz2 rfl (by decide) (.slice aa n ca) n (flat l) rfl (HOA.out _) ⟨w3.heap.size, 0, none⟩ 1 1 [.int .i64 ((n : Int) + 1), .int .i64 1, .int .i64 (now : Int), .int .i64 0] rfl rfl HNS.out (by simp [Value.oneCell']) (by decide) (by unfold maxLen; omega) (by omega) hsz3.out (w3.heap.size + 1) (by simp) ?_); intro gg cap1 w4 hown4 hgrow hat hlt4)
              obtain ⟨p1, p2⟩ := two_append (t := ⟨n + 1, 1, now, 0⟩) HT3.out HN.out hown4 hgrow hat hlt4
              have P1 := Lib.hid p1
              have P2 := Lib.hid (HB3.out.trans p2)
              have HFN := Lib.hid (show Fine (l ++ [⟨n + 1, 1, now, 0⟩]) by
                intro t ht
                rcases List.mem_append.1 ht with h | h
                · exact HF.out t h
                · simp at h; subst h; exact ⟨by show now ≤ 4000000000; omega, by show 1 ≤ 9; omega⟩)
              clear p1 p2 hown4 hgrow hat hlt4
              go_wp2_with fail
              go_meet
              exact ⟨now, _, rfl, by omega, by rw [List.length_append, ← HN.out]; simp; omega, P1.out, HFN.out, P2.out⟩
          case rest =>
            obtain ⟨now', l', rfl, hnow', hll', htwo, hfine, hbel⟩ := hcut
            obtain ⟨W6, hW6⟩ : ∃ W6 : World, W6 = wc := ⟨_, rfl⟩
            rw [← hW6] at htwo hbel ⊢
            obtain ⟨av, cv, hv⟩ := own_shape htwo.2.1
            subst hv
            obtain ⟨m, hm⟩ : ∃ m, m = l'.length := ⟨_, rfl⟩
            have HML := Lib.hid hm
            have hm2 : m ≤ k + 1 := by omega
            have HT6 : Hid (Two w.heap.size W6 g now' l' l' (.slice av m cv)) := Lib.hid (by rw [hm]; exact htwo)
            rw [← hm]
            have HF6 := Lib.hid hfine
            have HB6 := Lib.hid hbel
            clear hW6 htwo hfine hbel hm hll' HT2 HF HB2 HB HST HFX hxc hx
            go_wp2_with fail
            go_loopw [13, 149] (fun mm i wr => ∃ j M : Nat, j ≤ m ∧ M ≤ 4000000000 ∧ i = .int .i64 (j : Int) ∧ mm = .int .i64 (M : Int) ∧ M = oldT now' (l'.take j) ∧ Below W6.heap.size W6 wr) (fun _ i _ => m - (intOf i).toNat)
            case atStart => exact ⟨0, now', Nat.zero_le _, by omega, rfl, rfl, rfl, Below.refl _ _⟩
            case round =>
              obtain ⟨j, M, hj, hM, rfl, rfl, hMe, hbel⟩ := hrel
              obtain ⟨wj, rfl⟩ : ∃ wj : World, wj = wr := ⟨_, rfl⟩
              have HM := Lib.hid hMe
              have HBL := Lib.hid hbel
              clear hMe hbel
              by_cases hlt3 : j < m
              · have hdj : decide ((j : Int) < (m : Int)) = true := by simp; omega
                obtain ⟨t, ht⟩ : ∃ t, l'[j]? = some t := ⟨_, List.getElem?_eq_getElem (by rw [← HML.out]; exact hlt3)⟩
                obtain ⟨gg, cap', hvv, hc⟩ := tx_cells (B := w.heap.size) (g := g) (now := now') (two_below HT6.out HBL.out).2.1 ht
                simp only [Value.slice.injEq] at hvv
                have hao := hvv.1
                clear hvv
                subst hao
                have k0 : wj.cell? ⟨gg, j * 4, none⟩ = some (.int .i64 (t.i : Int)) := (hc 0 (by decide)).1
                have k1 : wj.cell? ⟨gg, j * 4 + 1, none⟩ = some (.int .i64 (t.s : Int)) := (hc 1 (by decide)).1
                have k2 : wj.cell? ⟨gg, j * 4 + 2, none⟩ = some (.int .i64 (t.b : Int)) := (hc 2 (by decide)).1
                have k3 : wj.cell? ⟨gg, j * 4 + 3, none⟩ = some (.int .i64 (t.e : Int)) := (hc 3 (by decide)).1
                have HTT := Lib.hid ht
                have hbt := HF6.out t (List.mem_of_getElem? ht)
                have hbt1 := hbt.1
                have hbt2 := hbt.2
                clear hc ht hbt
                have HS := Lib.hid (oldT_snoc now' j l' t HTT.out)
                by_cases hs : t.s = 1 ∨ t.s = 2
                · have hos : oldStep M t = min M t.b := by unfold oldStep; rw [if_pos hs]
                  have HOS := Lib.hid hos
                  clear hos
                  have hq : (((t.s : Int) == 1) = true ∧ True) ∨ (((t.s : Int) == 1) = false ∧ ((t.s : Int) == 2) = true) := by
                    by_cases h1 : t.s = 1
                    · left; exact ⟨by rw [beq_iff_eq]; omega, trivial⟩
                    · right; exact ⟨by rw [beq_eq_false_iff_ne]; omega, by rw [beq_iff_eq]; omega⟩
                  clear hs
                  rcases hq with ⟨q1, q2⟩ | ⟨q1, q2⟩
                  all_goals
                    go_wp2_with fail
                    go_roundw
                    case rel =>
                      refine ⟨j + 1, min M t.b, by omega, by omega, by go_num, by go_num, ?_, below_lay HBL.out _⟩
                      rw [HS.out, ← HM.out, HOS.out]
                    case measure => simp [intOf]; omega
                · have HOS := Lib.hid (show oldStep M t = M by unfold oldStep; rw [if_neg hs])
                  have q1 : ((t.s : Int) == 1) = false := by rw [beq_eq_false_iff_ne]; omega
                  have q2 : ((t.s : Int) == 2) = false := by rw [beq_eq_false_iff_ne]; omega
                  clear hs
                  go_wp2_with fail
                  go_roundw
                  case rel =>
                    refine ⟨j + 1, M, by omega, by omega, by go_num, rfl, ?_, below_lay HBL.out _⟩
                    rw [HS.out, ← HM.out, HOS.out]
                  case measure => simp [intOf]; omega
              · obtain rfl : j = m := by omega
                have HMO := Lib.hid (show M = oldT now' l' by have := HM.out; rwa [HML.out, List.take_length] at this)
                have HT7 := Lib.hid (two_below HT6.out HBL.out)
                have HB7 := Lib.hid (HB6.out.trans (HBL.out.mono HB6.out.size))
                go_wp2_with fail
                refine (all_any _ g now' l' _ HT7.out.1 (by rw [← HML.out]; omega)).mono ?_
                rintro e w8 ⟨ao8, cap8, rfl, hown8, hb8⟩
                rw [← HML.out]
                have HO8 := Lib.hid hown8
                have HT8 := Lib.hid (two_below HT7.out hb8)
                have HB8 := Lib.hid (below_then HB7.out hb8)
                have hfo : ∀ t ∈ l', t.b ≤ 4000000000 ∧ t.s ≤ 9 := HF6.out
                have HFO := Lib.hid hfo
                have hm1 : ((now' : Int) != (now' : Int)) = false := bne_self_eq_false _
                have hm2' : ((M : Int) != (M : Int)) = false := bne_self_eq_false _
                have hm3 : ((j : Int) != (j : Int)) = false := bne_self_eq_false _
                have hm4 : j ≤ 1000000 := by omega
                clear hown8 hb8 hfo
                go_wp2_with (first
                  | (go_at_call 28; go_must (refine (bknow_any _ g now' l' _ HT8.out.1).mono ?_); rintro e w9 ⟨rfl, rfl⟩)
                  | (go_at_call 51; go_must (refine (oldest_any _ g now' l' _ HT8.out.1 (by rw [← HML.out]; exact hm4) (by omega) HFO.out).mono ?_); rw [← HMO.out]; rintro e w9 ⟨rfl, hb9⟩; have HB9 := Lib.hid hb9))
                have HB8' := Lib.hid (below_then HB8.out HB9.out)
                have HT9 := Lib.hid (two_below HT8.out HB9.out)
                go_loopw [189] (fun i wr => ∃ y : Nat, y ≤ j ∧ i = .int .i64 (y : Int) ∧ Below w9.heap.size w9 wr) (fun i _ => j - (intOf i).toNat)
                case atStart => exact ⟨0, Nat.zero_le _, rfl, Below.refl _ _⟩
                case round =>
                  obtain ⟨y, hy, rfl, hbel⟩ := hrel
                  have HBY := Lib.hid hbel
                  clear hbel
                  by_cases hlt5 : y < j
                  · have hdy : decide ((y : Int) < (j : Int)) = true := by simp; omega
                    obtain ⟨t, ht⟩ : ∃ t, l'[y]? = some t := ⟨_, List.getElem?_eq_getElem (by rw [← HML.out]; exact hlt5)⟩
                    obtain ⟨gg, cap', hvv, hc⟩ := tx_cells (B := w.heap.size) (g := g) (now := now') (two_below HT9.out HBY.out).2.1 ht
                    simp only [Value.slice.injEq] at hvv
                    have hao := hvv.1
                    clear hvv
                    subst hao
                    have k0 : wr.cell? ⟨gg, y * 4, none⟩ = some (.int .i64 (t.i : Int)) := (hc 0 (by decide)).1
                    have k1 : wr.cell? ⟨gg, y * 4 + 1, none⟩ = some (.int .i64 (t.s : Int)) := (hc 1 (by decide)).1
                    have k2 : wr.cell? ⟨gg, y * 4 + 2, none⟩ = some (.int .i64 (t.b : Int)) := (hc 2 (by decide)).1
                    have k3 : wr.cell? ⟨gg, y * 4 + 3, none⟩ = some (.int .i64 (t.e : Int)) := (hc 3 (by decide)).1
                    clear hc
                    obtain ⟨hh, cap2, hvv, hc⟩ := tx_cells (g := g) (now := now') HO8.out ht
                    simp only [Value.slice.injEq] at hvv
                    have hao := hvv.1
                    clear hvv
                    subst hao
                    have hcell : ∀ i, i < 4 → wr.cell? ⟨hh, y * 4 + i, none⟩ = t.cells[i]? := by
                      intro i hi
                      have h1 := (hc i hi).1
                      have h2 : ∃ u, t.cells[i]? = some u := ⟨_, List.getElem?_eq_getElem (by simp [Tx.cells]; omega)⟩
                      obtain ⟨u, hu⟩ := h2
                      rw [hu] at h1 ⊢
                      exact ((below_then HB9.out HBY.out).cell (p := ⟨hh, y * 4 + i, none⟩) (World.block_lt_of_cell? _ _ h1)).trans h1
                    have n0 : wr.cell? ⟨hh, y * 4, none⟩ = some (.int .i64 (t.i : Int)) := hcell 0 (by decide)
                    have n1 : wr.cell? ⟨hh, y * 4 + 1, none⟩ = some (.int .i64 (t.s : Int)) := hcell 1 (by decide)
                    have n2 : wr.cell? ⟨hh, y * 4 + 2, none⟩ = some (.int .i64 (t.b : Int)) := hcell 2 (by decide)
                    have n3 : wr.cell? ⟨hh, y * 4 + 3, none⟩ = some (.int .i64 (t.e : Int)) := hcell 3 (by decide)
                    clear hc hcell ht
                    have e0 : ((t.i : Int) == (t.i : Int)) = true := beq_self_eq_true _
                    have e1 : ((t.s : Int) == (t.s : Int)) = true := beq_self_eq_true _
                    have e2 : ((t.b : Int) == (t.b : Int)) = true := beq_self_eq_true _
                    have e3 : ((t.e : Int) == (t.e : Int)) = true := beq_self_eq_true _
                    go_wp2_with fail
                    go_quiet (fail)
                    go_wp2_with fail
                    go_roundw
                    case rel => exact ⟨y + 1, by omega, by go_num, below_draws HBY.out _⟩
                    case measure => simp [intOf]; omega
                  · go_wp2_with fail
                    go_roundw
                    case rel => exact ⟨k + 1, now', l', by omega, by omega, by rw [← HML.out]; omega, rfl, by go_num, two_below HT9.out HBY.out, HF6.out, below_then HB8'.out HBY.out⟩
                    case measure => simp [intOf]; omega
    · go_wp2_with fail
      all_goals
        refine (awake18_any _).mono ?_
        rintro e w4 ⟨rfl, hb⟩
        have B4 := Lib.hid (below_then HB.out hb)
        clear hb
        go_wp2_with fail
        go_ret
        exact ⟨rfl, B4.out⟩

end Go.Proofs.Ytdelcaijehcaeaa
