/-
  The walk of SegmOwn.
-/
import Derived.Test.YtmpgnjhgegbdkaaGreatSgaw
import Derived.Test.YtmpgnjhgegbdkaaGreatSgp
import Derived.Test.YtmpgnjhgegbdkaaGreatIsr
namespace Go.Proofs.YtmpgnjhgegbdkaaGreat
set_option linter.unusedVariables false
set_option linter.unusedSimpArgs false
open Go.RowKit

theorem rows9_mem {cols : List Co} {l : List Int} {r : List Vc} (h : r ∈ rows9 cols l) : ∃ (i : Nat) (n : Int), i < 40 ∧ r = (rowOf cols n).set 0 ⟨false, 1, (i : Int) * 3 + n % 2, []⟩ := by
  obtain ⟨i, hi⟩ := List.getElem?_of_mem h
  unfold rows9 at hi
  rw [List.getElem?_mapIdx] at hi
  cases hq : (l.take 40)[i]? with
  | none => rw [hq] at hi; cases hi
  | some n =>
    rw [hq] at hi
    have := (List.getElem?_eq_some_iff.1 hq).1
    rw [List.length_take] at this
    exact ⟨i, n, by omega, (Option.some.inj hi).symm⟩
theorem rows9_le (cols : List Co) (l : List Int) : (rows9 cols l).length ≤ 40 := by
  unfold rows9
  rw [List.length_mapIdx, List.length_take]
  omega
theorem row9_fits {cols : List Co} (h : ColsOk cols) (n x : Int) : fitsR cols ((rowOf cols n).set 0 ⟨false, 1, x, []⟩) = true := by
  obtain ⟨c0, hc0⟩ : ∃ c0, cols[0]? = some c0 := ⟨_, List.getElem?_eq_getElem h.ne⟩
  have hk := (h.hd _ hc0).1
  rw [zIy cols _ 0 c0 _ (zJl h n) hc0]
  unfold fitsT
  simp [hk]
theorem rows9_B {cols : List Co} (h : ColsOk cols) (l : List Int) : rowsB cols (rows9 cols l) = decide (0 < (rows9 cols l).length) := by
  have h1 := rows9_le cols l
  have h2 : (rows9 cols l).all (fitsR cols) = true := by
    rw [List.all_eq_true]
    intro r hr
    obtain ⟨i, n, _, rfl⟩ := rows9_mem hr
    exact row9_fits h _ _
  unfold rowsB
  rw [h2, decide_eq_true (show (rows9 cols l).length ≤ 64 by omega), Bool.and_true, Bool.and_true]
theorem row9_len {cols : List Co} {l : List Int} {r : List Vc} (h : r ∈ rows9 cols l) : r.length = cols.length := by
  obtain ⟨i, n, _, rfl⟩ := rows9_mem h
  rw [List.length_set, zC6]
theorem row9_small {cols : List Co} {l : List Int} {r : List Vc} (h : r ∈ rows9 cols l) : ∀ v ∈ r, I64 v.n ∧ v.b.length ≤ 8 := fun v hv => by
  obtain ⟨i, n, hi, rfl⟩ := rows9_mem h
  rcases List.mem_or_eq_of_mem_set hv with h | rfl
  · exact zO0 n v h
  · exact ⟨by unfold I64; simp only; omega, Nat.zero_le _⟩

set_option maxRecDepth 100000 in
set_option maxHeartbeats 8000000 in
theorem walk_SegmOwn (a0 : Int) (a1 : Option Addr) (len1 cap1 : Nat) (z1 : List Int) (w : World) (w0 : (Lit.int .i64 a0).wf = true) (w1 : IsRow .i64 w a1 len1 cap1 z1) :
    Calls Tryz.prog 8 #[.int .i64 a0, .slice a1 len1 cap1] w fun e w' => e = .returned (.bool true) ∧ Below w.heap.size w w' := by
  obtain ⟨la, hla, h1, _⟩ := isRow_rd w1
  have HLA := Lib.hid hla
  have HR1 := Lib.hid h1
  have HS := Lib.hid (zSc a0 w)
  have HSC := Lib.hid (zPf a0)
  have HOK := Lib.hid (zJ6 a0)
  have HAW := Lib.hid zOy
  clear hla h1 w0 w1
  go_enter Tryz.func8, Tryz.ntmps8
  go_wp2_with fail
  refine HS.out.mono ?_
  rintro e W1 ⟨so, sc, rfl, hs1, hb1⟩
  obtain ⟨m, hm⟩ : ∃ m, m = (colsN a0).length := ⟨_, rfl⟩
  have hc1 := zV7 hs1
  rw [← hm] at hs1 hc1 ⊢
  have hm0 : 0 < m := by rw [hm]; exact HOK.out.ne
  have hm6 : m ≤ 6 := by rw [hm]; exact HOK.out.le
  have HM := Lib.hid hm
  clear hm
  go_upto_region 2 with (fail)
  obtain ⟨W2, hW2⟩ : ∃ W2 : World, W2 = W1.alloc (.cells #[.slice so m sc] 24) := ⟨_, rfl⟩
  obtain ⟨SB, hSB⟩ : ∃ SB, SB = W1.heap.size := ⟨_, rfl⟩
  rw [← hW2, ← hSB]
  have HSB := Lib.hid (show W2.heap[SB]? = some (.cells #[.slice so m sc] 24 (0, 0)) by rw [hW2, hSB]; exact heap_alloc_new W1 _)
  have hb12 : Below W1.heap.size W1 W2 := by rw [hW2]; exact zAd W1 _
  have HB2 := Lib.hid (zAa hb1 hb12)
  have HC2 := Lib.hid (RdC.kept hc1 hb12)
  have cs2 : W2.cell? ⟨SB, 0, none⟩ = some (.slice so m sc) := by rw [cell_of_row W2 SB 0 _ _ _ HSB.out]; rfl
  have HRW := Lib.hid (show ∀ w', Below W2.heap.size W2 w' → Calls Tryz.prog 18 #[.agg #[.slice so m sc], .slice a1 len1 cap1] w' fun e w'' => ∃ (ao : Option Addr) (cap : Nat) (sls : List Value) (L : List (List (Vc × Value))) (B : Nat), e = .returned (.slice ao L.length cap) ∧ L.map (fun x => x.map Prod.fst) = rows9 (colsN a0) la ∧ w'.heap.size ≤ B ∧ B ≤ w''.heap.size ∧ RowsB B w'' (.slice ao L.length cap) sls L ∧ Below w'.heap.size w' w'' from fun w' h => by
    refine (rows9_own (colsN a0) HOK.out la (.slice so m sc) a1 len1 cap1 HLA.out.symm w' (RdC.kept HC2.out h) (HR1.out.kept (zAa HB2.out h))).mono ?_
    rintro e w'' ⟨ao, cap, sls, L, rfl, h1, h2, h3, h4⟩
    exact ⟨ao, cap, sls, L, w'.heap.size + 1, rfl, h1, by omega, by omega, h2, h4⟩)
  obtain ⟨R, hR⟩ : ∃ R, R = rows9 (colsN a0) la := ⟨_, rfl⟩
  rw [← hR] at HRW
  have HRE := Lib.hid hR
  clear hs1 hc1 hb1 hb12 hW2 hSB hR
  go_cut [6, 7] (fun r1 r2 wx => ∃ (wA : World) (ao : Option Addr) (cap : Nat) (sls : List Value) (L : List (List (Vc × Value))) (B1 : Nat) (ao2 : Option Addr) (cap2 : Nat) (sls2 : List Value) (L2 : List (List (Vc × Value))) (B2 : Nat), r1 = .slice ao L.length cap ∧ r2 = .slice ao2 L2.length cap2 ∧ L.map (fun x => x.map Prod.fst) = R ∧ L2.map (fun x => x.map Prod.fst) = R ∧ W2.heap.size ≤ B1 ∧ B1 ≤ wA.heap.size ∧ RowsB B1 wA (.slice ao L.length cap) sls L ∧ Below W2.heap.size W2 wA ∧ wA.heap.size ≤ B2 ∧ B2 ≤ wx.heap.size ∧ RowsB B2 wx (.slice ao2 L2.length cap2) sls2 L2 ∧ Below wA.heap.size wA wx)
  case first =>
    go_region_law
      (first
        | (go_simp; go_at_call 18; refine (HRW.out _ ?_).mono ?_; (exact zAn _ _); rintro e wA ⟨ao, cap, sls, L, B1, rfl, hLm, hB1, hB1w, hrb, hbA⟩; have HLM := Lib.hid hLm; have HRB := Lib.hid hrb; have HB1 := Lib.hid hB1; have HB1W := Lib.hid hB1w; have HBA := Lib.hid (show Below W2.heap.size W2 wA from (zAn _ _).trans hbA); have csA : wA.cell? ⟨SB, 0, none⟩ = some (.slice so m sc) := (HBA.out.cell (World.block_lt_of_cell? _ _ cs2)).trans cs2; clear hLm hB1 hB1w hrb hbA)
        | (go_simp; go_at_call 18; refine (HRW.out _ ?_).mono ?_; (exact HBA.out); rintro e wB ⟨ao2, cap2, sls2, L2, B2, rfl, hLm, hB2, hB2w, hrb, hbB⟩; have HLM2 := Lib.hid hLm; have HRB2 := Lib.hid hrb; have HB22 := Lib.hid hB2; have HB2W := Lib.hid hB2w; have HBAB := Lib.hid hbB; have csB : wB.cell? ⟨SB, 0, none⟩ = some (.slice so m sc) := (hbB.cell (World.block_lt_of_cell? _ _ csA)).trans csA; clear hLm hB2 hB2w hrb hbB))
    all_goals
      go_wp2_with fail
      go_meet
      exact ⟨wA, ao, cap, sls, L, B1, ao2, cap2, sls2, L2, B2, rfl, rfl, HLM.out, HLM2.out, HB1.out, HB1W.out, HRB.out, HBA.out, HB22.out, HB2W.out, HRB2.out, HBAB.out⟩
  case rest =>
    obtain ⟨wA, ao, cap, sls, L, B1, ao2, cap2, sls2, L2, B2, rfl, rfl, hlm1, hlm2, hB1, hB1w, hrb1, hbA, hB2, hB2w, hrb2, hbB⟩ := hcut
    obtain ⟨wB, hwB⟩ : ∃ wB : World, wB = wc := ⟨_, rfl⟩
    rw [← hwB] at hB2w hrb2 hbB ⊢
    clear hwB
    have HLM := Lib.hid hlm1
    have HLM2 := Lib.hid hlm2
    have HRB := Lib.hid hrb1
    have HRB2 := Lib.hid hrb2
    have HB1 := Lib.hid hB1
    have HB22 := Lib.hid hB2
    have HB2W := Lib.hid hB2w
    have HBA := Lib.hid hbA
    have HBAB := Lib.hid hbB
    have csB : wB.cell? ⟨SB, 0, none⟩ = some (.slice so m sc) := ((zAa hbA hbB).cell (World.block_lt_of_cell? _ _ cs2)).trans cs2
    clear hlm1 hlm2 hrb1 hrb2 hB1 hB2 hB2w hbA hbB hB1w
    have hn40 : R.length ≤ 40 := by rw [HRE.out]; exact rows9_le _ _
    obtain ⟨n, hn⟩ : ∃ n, n = R.length := ⟨_, rfl⟩
    have hLn : L.length = n := by rw [hn, ← HLM.out, List.length_map]
    have hL2n : L2.length = n := by rw [hn, ← HLM2.out, List.length_map]
    rw [← hn] at hn40
    have HLN := Lib.hid hLn
    have HL2N := Lib.hid hL2n
    have HNR := Lib.hid hn
    rw [hLn, hL2n]
    rw [hLn] at HRB
    rw [hL2n] at HRB2
    have HMEM := Lib.hid (show ∀ l ∈ L, l.map Prod.fst ∈ R from fun l hl => by rw [← HLM.out]; exact List.mem_map_of_mem (f := fun x : List (Vc × Value) => x.map Prod.fst) hl)
    have HLL := Lib.hid (show ∀ l ∈ L, l.length = m from fun l hl => by
      have h := HMEM.out l hl
      rw [HRE.out] at h
      have := row9_len h
      rw [List.length_map] at this
      rw [this, HM.out])
    have HSML := Lib.hid (show ∀ l ∈ L, ∀ t ∈ l, I64 t.1.n ∧ t.1.b.length ≤ 8 from fun l hl t ht => by
      have h := HMEM.out l hl
      rw [HRE.out] at h
      exact row9_small h t.1 (List.mem_map_of_mem ht))
    have HMK := Lib.hid (zHo (colsN a0) HSC.out L (by rw [HLN.out]; omega) (fun l hl => by rw [HLL.out l hl]; omega) (fun l hl t ht => (HSML.out l hl t ht).1) (fun l hl t ht => by have := (HSML.out l hl t ht).2; omega) (.slice so m sc) (.slice ao n cap) wB (RdC.kept HC2.out (zAa HBA.out HBAB.out)) (HRB.out.kept HBAB.out).rdA.rd)
    rw [HLM.out] at HMK
    have HBB := Lib.hid (zAa (zAa HB2.out HBA.out) HBAB.out)
    clear hLn hL2n hn cs2
    go_wp2_with fail
    refine HMK.out.mono ?_
    rintro e W5 ⟨h | h, hb5⟩
    case inr =>
      obtain ⟨hno, rfl⟩ := h
      rw [HRE.out, rows9_B HOK.out, ← HRE.out, ← HNR.out, decide_eq_false_iff_not] at hno
      obtain rfl : n = 0 := by omega
      have HB5 := Lib.hid (zAa HBB.out hb5)
      clear hb5
      go_wp2_with fail
      refine (HAW.out _).mono ?_
      rintro e w6 ⟨rfl, hb6⟩
      have HB6 := Lib.hid (zAa HB5.out hb6)
      clear hb6
      go_wp2_with fail
      go_ret
      exact ⟨rfl, HB6.out⟩
    obtain ⟨hyes, g, rfl, hseg⟩ := h
    have HRC := Lib.hid (zJ7 hyes (fun r hr v hv => by
      rw [← HLM.out] at hr
      obtain ⟨l, hl, rfl⟩ := List.mem_map.1 hr
      obtain ⟨t, ht, rfl⟩ := List.mem_map.1 hv
      exact ⟨(HSML.out l hl t ht).1, HRB.out.lt l hl t ht⟩))
    have hn0 : 0 < n := by
      rw [HRE.out, rows9_B HOK.out, ← HRE.out, ← HNR.out, decide_eq_true_eq] at hyes
      exact hyes
    have HNE := Lib.hid (show 0 < (colsN a0).length by rw [← HM.out]; exact hm0)
    have HM6 := Lib.hid (show (colsN a0).length ≤ 6 by rw [← HM.out]; exact hm6)
    obtain ⟨G, capG, hov⟩ := Joins.ownsRow_form HRB.out.own (by rw [HLN.out]; exact hn0)
    rw [HLN.out] at hov
    simp only [Value.slice.injEq] at hov
    obtain ⟨rfl, _, rfl⟩ := hov
    have HSEG := Lib.hid hseg
    have HB5B := Lib.hid hb5
    have HB5 := Lib.hid (zAa HBB.out hb5)
    clear hyes hseg hb5
    go_wp2_with fail
    refine (zKx HRC.out HNE.out HM6.out W5 HSEG.out).mono ?_
    rintro e W6 ⟨v6, rfl, ho6, hb6⟩
    have hcv := zFl (P := Tryz.prog) W6 29 9 5 Tryz.underlying29 Tryz.underlying5 Tryz.underlying9 ho6.rd (zPg HRC.out)
    obtain ⟨T, hT⟩ : ∃ T, T = txtOf (segT (colsN a0) R) := ⟨_, rfl⟩
    obtain ⟨bn, hbn⟩ : ∃ bn, bn = (segT (colsN a0) R).length := ⟨_, rfl⟩
    obtain ⟨a6, c6, rfl⟩ := ho6.shape
    rw [← hT, ← hbn] at hcv
    rw [← hbn]
    have HT := Lib.hid hT
    have HBN := Lib.hid hbn
    have hbnb : bn ≤ 260000 := by rw [hbn]; exact zUh HRC.out HM6.out
    have HB6B := Lib.hid (zAa HB5B.out hb6)
    have HB6 := Lib.hid (zAa HB5.out hb6)
    have HSEG6 := Lib.hid (HSEG.out.kept hb6)
    have HRB6 := Lib.hid ((HRB.out.kept HBAB.out).kept HB6B.out)
    have HRW6 := Lib.hid (show RowsW B1 W6 (.slice (some ⟨G, 0, none⟩) n cap) sls n m from by
      have h := HRB6.out.rowsW HLL.out
      rw [HLN.out] at h
      exact h)
    have HRD6 := Lib.hid (HRB2.out.kept HB6B.out).rdA
    have HBLK := Lib.hid (show ∀ s ∈ sls, ∀ b, s.ownBlock = some b → B1 ≤ b ∧ b < B2 from fun s hs b hb => by
      have h1 := HRB.out.blocks s (List.mem_cons_of_mem _ hs) b hb
      have h2 := HB22.out
      exact ⟨h1.1, by omega⟩)
    have HB1N := Lib.hid (show w.heap.size ≤ B1 by have := HB1.out; have := HB2.out.size; simp at *; omega)
    have HB2N := Lib.hid (show B2 ≤ W6.heap.size by have := HB2W.out; have := HB6B.out.size; omega)
    clear ho6 hb6 hT hbn
    go_wp2_with fail
    clear hcv
    go_loopw [53] (fun i wr => ∃ (q : Nat), q ≤ n ∧ i = .int .i64 (q : Int) ∧ RowsW B1 wr (.slice (some ⟨G, 0, none⟩) n cap) sls n m ∧ Agree (fun b => B1 ≤ b ∧ b < B2) W6 wr) (fun i _ => n - (intOf i).toNat)
    case atStart => exact ⟨0, Nat.zero_le _, rfl, HRW6.out, Agree.refl _ _⟩
    case round =>
      obtain ⟨q, hq, rfl, hrw, hag⟩ := hrel
      have HRWr := Lib.hid hrw
      have HAG := Lib.hid hag
      clear hrw hag
      by_cases hlt : q < n
      · have hlti : (q : Int) < (n : Int) := by omega
        have hq0 : (0 : Int) ≤ (q : Int) := by omega
        obtain ⟨s, hs⟩ : ∃ s, sls[q]? = some s := ⟨_, List.getElem?_eq_getElem (by rw [HRWr.out.len]; exact hlt)⟩
        obtain ⟨xs0, hx0⟩ := HRWr.out.row q s hs
        obtain ⟨sg, sgc, hsv⟩ := Joins.ownsRow_form hx0 hm0
        subst hsv
        have cR : wr.cell? ⟨G, q, none⟩ = some (.slice (some ⟨sg, 0, none⟩) m sgc) := (HRWr.out.own.cellAt q (by omega)).trans hs
        have HSQ := Lib.hid hs
        clear hs hx0
        go_wp2_with fail
        go_loopw [61] (fun i wr => ∃ (k : Nat), k ≤ m ∧ i = .int .i64 (k : Int) ∧ RowsW B1 wr (.slice (some ⟨G, 0, none⟩) n cap) sls n m ∧ Agree (fun b => B1 ≤ b ∧ b < B2) W6 wr) (fun i _ => m - (intOf i).toNat)
        case atStart => exact ⟨0, Nat.zero_le _, rfl, HRWr.out, HAG.out⟩
        case round =>
          obtain ⟨k, hk, rfl, hrw, hag⟩ := hrel
          have HRWi := Lib.hid hrw
          have HAGi := Lib.hid hag
          clear hrw hag cR
          by_cases hlk : k < m
          · have hlki : (k : Int) < (m : Int) := by omega
            have hk0 : (0 : Int) ≤ (k : Int) := by omega
            obtain ⟨xs, hx⟩ := HRWi.out.row q _ HSQ.out
            have hxl : xs.length = m * 4 := hx.1
            have cR : wr.cell? ⟨G, q, none⟩ = some (.slice (some ⟨sg, 0, none⟩) m sgc) := (HRWi.out.own.cellAt q (by omega)).trans HSQ.out
            obtain ⟨u0, c0⟩ : ∃ u, wr.cell? ⟨sg, k * 4, none⟩ = some u := ⟨_, (hx.cellAt (k * 4) (by omega)).trans (List.getElem?_eq_getElem (by omega))⟩
            obtain ⟨u1, c1⟩ : ∃ u, wr.cell? ⟨sg, k * 4 + 1, none⟩ = some u := ⟨_, (hx.cellAt (k * 4 + 1) (by omega)).trans (List.getElem?_eq_getElem (by omega))⟩
            obtain ⟨u2, c2⟩ : ∃ u, wr.cell? ⟨sg, k * 4 + 2, none⟩ = some u := ⟨_, (hx.cellAt (k * 4 + 2) (by omega)).trans (List.getElem?_eq_getElem (by omega))⟩
            obtain ⟨u3, c3⟩ : ∃ u, wr.cell? ⟨sg, k * 4 + 3, none⟩ = some u := ⟨_, (hx.cellAt (k * 4 + 3) (by omega)).trans (List.getElem?_eq_getElem (by omega))⟩
            have f0 := hx.frozenAt (k * 4)
            have f1 := hx.frozenAt (k * 4 + 1)
            have f2 := hx.frozenAt (k * 4 + 2)
            have f3 := hx.frozenAt (k * 4 + 3)
            have HX := Lib.hid hx
            clear hx hxl
            go_wp2_with fail
            go_roundw
            case rel =>
              have hsb := HBLK.out _ (List.mem_of_getElem? HSQ.out) sg rfl
              have hag : Agree (fun b => b = sg) wr ((((wr.setCell ⟨sg, k * 4, none⟩ (.bool false)).setCell ⟨sg, k * 4 + 1, none⟩ (.int .i64 77)).setCell ⟨sg, k * 4 + 2, none⟩ (.int .i64 0)).setCell ⟨sg, k * 4 + 3, none⟩ (.slice none 0 0)) :=
                ((((Agree.refl (fun b => b = sg) wr).set ⟨sg, k * 4, none⟩ (.bool false) (.inl rfl)).set ⟨sg, k * 4 + 1, none⟩ (.int .i64 77) (.inl rfl)).set ⟨sg, k * 4 + 2, none⟩ (.int .i64 0) (.inl rfl)).set ⟨sg, k * 4 + 3, none⟩ (.slice none 0 0) (.inl rfl)
              exact ⟨k + 1, by omega, by go_num, HRWi.out.store HSQ.out rfl hag ⟨_, ((((HX.out.stored (k * 4) (.bool false)).1.stored (k * 4 + 1) (.int .i64 77)).1.stored (k * 4 + 2) (.int .i64 0)).1.stored (k * 4 + 3) (.slice none 0 0)).1⟩, HAGi.out.then hag (fun i _ e => by rw [e]; exact hsb)⟩
            case measure => simp [intOf]; omega
          · have hkm : k = m := by omega
            subst hkm
            have hlki : ¬ (k : Int) < (k : Int) := by omega
            go_wp2_with fail
            go_roundw
            case rel => exact ⟨q + 1, by omega, by go_num, HRWi.out, HAGi.out⟩
            case measure => simp [intOf]; omega
      · have hqn : q = n := by omega
        subst hqn
        have hlti : ¬ (q : Int) < (q : Int) := by omega
        have HSEGr := Lib.hid (HSEG6.out.above (w' := wr) (fun b h1 h2 => HAG.out.block b h2 (fun e => by have := HB2W.out; omega)) HAG.out.size (Nat.le_refl _))
        have HRDr := Lib.hid (HRD6.out.above HAG.out.size (fun b h1 h2 => HAG.out.block b h2 (fun e => by omega)) (Nat.le_refl _))
        have HBr := Lib.hid (show Below w.heap.size w wr from HB6.out.trans (HAG.out.below (fun i hi e => by have := HB1N.out; omega) (by have := HB6.out.size; omega)))
        have HB2R := Lib.hid (show B2 ≤ wr.heap.size by have := HB2N.out; have := HAG.out.size; omega)
        go_wp2_with fail
        refine (zKx HRC.out HNE.out HM6.out wr HSEGr.out).mono ?_
        rintro e W7 ⟨v7, rfl, ho7, hb7⟩
        obtain ⟨a7, c7, rfl⟩ := ho7.shape
        rw [← HBN.out]
        have HO7 := Lib.hid (show W7.ownsRow wr.heap.size 5 1 (.slice a7 bn c7) bn (((segT (colsN a0) R).map fun (x : Nat) => (x : Int)).map (Value.int .u8)) from by
          have h := ho7
          unfold OwnB at h
          rw [← HBN.out] at h
          rw [List.map_map]
          exact h)
        have HB7 := Lib.hid hb7
        clear ho7 hb7
        obtain ⟨w8, hw8⟩ : ∃ w8 : World, w8 = wr := ⟨_, rfl⟩
        rw [← hw8] at HSEGr HRDr HBr HB2R HO7 HB7
        clear hw8
        go_wp2_with fail
        go_loopw [77] (fun i wr => ∃ (p : Nat) (zs : List Int), p ≤ bn ∧ i = .int .i64 (p : Int) ∧ wr.ownsRow w8.heap.size 5 1 (.slice a7 bn c7) bn (zs.map (Value.int .u8)) ∧ Below w8.heap.size w8 wr) (fun i _ => bn - (intOf i).toNat)
        case atStart => exact ⟨0, _, Nat.zero_le _, rfl, HO7.out, HB7.out⟩
        case round =>
          obtain ⟨p, zs, hp, rfl, hoz, hbz⟩ := hrel
          have hzl : zs.length = bn := by have := hoz.1; simpa using this
          have HOZ := Lib.hid hoz
          have HBZ := Lib.hid hbz
          clear hoz hbz
          by_cases hlp : p < bn
          · have hlpi : (p : Int) < (bn : Int) := by omega
            have hp0 : (0 : Int) ≤ (p : Int) := by omega
            obtain ⟨xg, xc, hxv⟩ := Joins.ownsRow_form HOZ.out (by omega)
            simp only [Value.slice.injEq] at hxv
            obtain ⟨rfl, _, rfl⟩ := hxv
            obtain ⟨z, hz⟩ : ∃ z, zs[p]? = some z := ⟨_, List.getElem?_eq_getElem (by omega)⟩
            have cz : wr.cell? ⟨xg, p, none⟩ = some (.int .u8 z) := (HOZ.out.cellAt p (by omega)).trans (by rw [List.getElem?_map, hz]; rfl)
            have fz := HOZ.out.frozenAt p
            have HXG := Lib.hid (HOZ.out.lt xg rfl).1
            clear hz
            go_wp2_with fail
            go_roundw
            case rel =>
              refine ⟨p + 1, zs.set p (IntKind.u8.wrap (z + 1)), by omega, by go_num, ?_, HBZ.out.setCell (p := ⟨xg, p, none⟩) HXG.out _⟩
              rw [List.map_set]
              exact (HOZ.out.stored p _).1
            case measure => simp [intOf]; omega
          · have hpn : p = bn := by omega
            subst hpn
            have hlpi : ¬ (p : Int) < (p : Int) := by omega
            go_wp2_with fail
            go_loopw [89] (fun i wr => ∃ (j : Nat), j ≤ q ∧ i = .int .i64 (j : Int) ∧ Below w8.heap.size w8 wr) (fun i _ => q - (intOf i).toNat)
            case atStart => exact ⟨0, Nat.zero_le _, rfl, HBZ.out⟩
            case round =>
              obtain ⟨i, hi, rfl, hbj⟩ := hrel
              have HBJ := Lib.hid hbj
              have HSEGj := Lib.hid (HSEGr.out.kept hbj)
              have HRDj := Lib.hid (HRDr.out.above hbj.size (fun b h1 h2 => hbj.block b h2) (Nat.le_refl _))
              clear hbj
              by_cases hlt : i < q
              · have hlti : (i : Int) < (q : Int) := by omega
                have hi0 : (0 : Int) ≤ (i : Int) := by omega
                obtain ⟨r, hr⟩ : ∃ r, R[i]? = some r := ⟨_, List.getElem?_eq_getElem (by rw [← HNR.out]; exact hlt)⟩
                have hra : rowAt R (i : Int) = some r := by unfold rowAt; rw [if_pos (by omega), Int.toNat_natCast]; exact hr
                have HROW := Lib.hid (fun w' (h : Below wr.heap.size wr w') => zUn HRC.out HNE.out HM6.out (i : Int) w' (HSEGj.out.kept h))
                rw [hra] at HROW
                have hrm : r.length = m := by
                  have h := List.mem_of_getElem? hr
                  rw [HRE.out] at h
                  rw [row9_len h, HM.out]
                have HRR := Lib.hid hr
                have HRM := Lib.hid hrm
                clear hra hr
                go_wp2_with fail
                refine (HROW.out _ (Below.refl _ _)).mono ?_
                rintro e w9 ⟨hret, hb9⟩
                obtain ⟨yv, yl, rfl, hyl, how⟩ := hret
                have hylm : yl.length = m := by have := congrArg List.length hyl; rw [List.length_map] at this; omega
                obtain ⟨yg, yc, hyv⟩ := Joins.ownsRow_form how.row (by omega)
                rw [hylm] at hyv
                subst hyv
                have hyg := (how.row.lt yg rfl).1
                have HYG := Lib.hid hyg
                have HOW := Lib.hid how
                have HYL := Lib.hid hylm
                have HB9 := Lib.hid hb9
                clear hyl how hylm hb9 hyg hrm
                obtain ⟨w10, hw10⟩ : ∃ w10 : World, w10 = wr := ⟨_, rfl⟩
                rw [← hw10] at HOW HB9 HBJ HSEGj HRDj HROW HYG
                clear hw10
                go_wp2_with fail
                go_loopw [100] (fun i wr => ∃ (k : Nat) (l : List (Vc × Value)), k ≤ m ∧ i = .int .i64 (k : Int) ∧ l.length = m ∧ OwnW w10.heap.size wr (.slice (some ⟨yg, 0, none⟩) m yc) l ∧ Below w10.heap.size w10 wr) (fun i _ => m - (intOf i).toNat)
                case atStart => exact ⟨0, yl, Nat.zero_le _, rfl, HYL.out, HOW.out, HB9.out⟩
                case round =>
                  obtain ⟨k, l, hk, rfl, hl, how, hb⟩ := hrel
                  have HLm := Lib.hid hl
                  have HOWk := Lib.hid how
                  have HBK := Lib.hid hb
                  clear hl how hb
                  by_cases hlk : k < m
                  · have hlki : (k : Int) < (m : Int) := by omega
                    have hk0 : (0 : Int) ≤ (k : Int) := by omega
                    obtain ⟨t, ht⟩ : ∃ t, l[k]? = some t := ⟨_, List.getElem?_eq_getElem (by rw [HLm.out]; exact hlk)⟩
                    obtain ⟨ba, bc, hbv⟩ := (HOWk.out.els t (List.mem_of_getElem? ht)).1.shape
                    obtain ⟨bl, hbl⟩ : ∃ bl, bl = t.1.b.length := ⟨_, rfl⟩
                    rw [← hbl] at hbv
                    have c3 := (HOWk.out.at_ HLm.out ht).2.2.2
                    rw [hbv] at c3
                    have HT9 := Lib.hid ht
                    have HBV := Lib.hid hbv
                    clear ht hbv hbl
                    go_wp2_with fail
                    go_loopw [109] (fun i wr => ∃ (j : Nat) (l2 : List (Vc × Value)) (t2 : Vc × Value), j ≤ bl ∧ i = .int .i64 (j : Int) ∧ l2.length = m ∧ l2[k]? = some t2 ∧ t2.2 = .slice ba bl bc ∧ OwnW w10.heap.size wr (.slice (some ⟨yg, 0, none⟩) m yc) l2 ∧ Below w10.heap.size w10 wr) (fun i _ => bl - (intOf i).toNat)
                    case atStart => exact ⟨0, l, t, Nat.zero_le _, rfl, HLm.out, HT9.out, HBV.out, HOWk.out, HBK.out⟩
                    case round =>
                      obtain ⟨j, l2, t2, hj, rfl, hl2, ht2, hv2, how2, hb2⟩ := hrel
                      have hcs := how2.at_ hl2 ht2
                      have c3 : wr.cell? ⟨yg, k * 4 + 3, none⟩ = some (.slice ba bl bc) := by rw [← hv2]; exact hcs.2.2.2
                      have c2 : wr.cell? ⟨yg, k * 4 + 2, none⟩ = some (.int .i64 t2.1.n) := hcs.2.2.1
                      have f2 : wr.frozen? ⟨yg, k * 4 + 2, none⟩ = false := by
                        have h := how2.row
                        rw [hl2] at h
                        exact h.frozenAt _
                      have hel := how2.els t2 (List.mem_of_getElem? ht2)
                      have hob := hel.1
                      unfold OwnB at hob
                      rw [hv2] at hob
                      obtain ⟨_, _, hs3⟩ := zBb hob
                      simp only [Value.slice.injEq] at hs3
                      rw [← hs3.2.1] at hob
                      have hbl2 : t2.1.b.length = bl := hs3.2.1.symm
                      have HOB := Lib.hid hob
                      have HEL := Lib.hid hel.2
                      have HL2m := Lib.hid hl2
                      have HT2 := Lib.hid ht2
                      have HV2 := Lib.hid hv2
                      have HOW2 := Lib.hid how2
                      have HBL2 := Lib.hid hb2
                      clear hcs hel hob hs3 hl2 ht2 hv2 how2 hb2
                      by_cases hlj : j < bl
                      · have hlji : (j : Int) < (bl : Int) := by omega
                        have hj0 : (0 : Int) ≤ (j : Int) := by omega
                        obtain ⟨bg, bcc, hbv2⟩ := Joins.ownsRow_form HOB.out (by omega)
                        simp only [Value.slice.injEq] at hbv2
                        obtain ⟨rfl, _, rfl⟩ := hbv2
                        obtain ⟨z, hz⟩ : ∃ z, t2.1.b[j]? = some z := ⟨_, List.getElem?_eq_getElem (by omega)⟩
                        have cz : wr.cell? ⟨bg, j, none⟩ = some (.int .u8 (z : Int)) := (HOB.out.cellAt j (by omega)).trans (by rw [List.getElem?_map, hz]; rfl)
                        have fz := HOB.out.frozenAt j
                        have hz256 : z < 256 := HEL.out z (List.mem_of_getElem? hz)
                        have hwz : IntKind.u8.wrap ((z : Int) + 1) = (((z + 1) % 256 : Nat) : Int) := by simp [IntKind.wrap, IntKind.bits, IntKind.signed]
                        have HBG := Lib.hid (HOB.out.lt bg rfl).1
                        have hblm : bl ≤ 9223372036854775807 := by
                          rcases HOB.out.2 with ⟨h0, _⟩ | ⟨_, _, _, _, _, _, h3, h4, _, _⟩
                          · simp at h0
                          · have h5 := Nat.le_trans h3 h4
                            unfold maxLen at h5
                            omega
                        have HKL := Lib.hid (show k < l2.length by rw [HL2m.out]; exact hlk)
                        clear hz hbl2 c2 f2
                        go_wp2_with fail
                        go_roundw
                        case rel =>
                          have h := HOW2.out.byte (j := j) (z := (z + 1) % 256) HL2m.out HT2.out HV2.out (by omega)
                          refine ⟨j + 1, _, (⟨t2.1.u, t2.1.k, t2.1.n, t2.1.b.set j ((z + 1) % 256)⟩, t2.2), by omega, by go_num, by rw [List.length_set]; exact HL2m.out, List.getElem?_set_self HKL.out, HV2.out, ?_, HBL2.out.setCell (p := ⟨bg, j, none⟩) HBG.out _⟩
                          first | exact h | (rw [hwz]; exact h)
                        case measure => simp [intOf]; omega
                      · have hjn : j = bl := by omega
                        subst hjn
                        have hlji : ¬ (j : Int) < (j : Int) := by omega
                        clear hbl2
                        go_wp2_with fail
                        go_roundw
                        case rel => exact ⟨k + 1, _, by omega, by go_num, by rw [List.length_set]; exact HL2m.out, HOW2.out.int HL2m.out HT2.out _, HBL2.out.setCell (p := ⟨yg, k * 4 + 2, none⟩) HYG.out _⟩
                        case measure => simp [intOf]; omega
                  · have hkm : k = m := by omega
                    have hlki : ¬ (k : Int) < (m : Int) := by omega
                    go_wp2_with fail
                    refine (HROW.out _ HBK.out).mono ?_
                    rintro e w11 ⟨hret, hb11⟩
                    obtain ⟨zv, zl, rfl, hzl2, hzw⟩ := hret
                    obtain ⟨za, zc, hzv⟩ := zBb hzw.row
                    subst hzv
                    have hb1011 := zAa HBK.out hb11
                    obtain ⟨sl9, hrd9, hsl9, hrow9⟩ := (HRDj.out.above hb1011.size (fun b h1 h2 => hb1011.block b h2) (Nat.le_refl _)).rd
                    have hs9 : sl9.length = q := by rw [hsl9]; exact HL2N.out
                    obtain ⟨ao9, cap9, he9, _, hc9⟩ := hrd9
                    simp only [Value.slice.injEq] at he9
                    obtain ⟨rfl, he9, rfl⟩ := he9
                    clear he9
                    obtain ⟨ob, of, rfl, hcell9⟩ := hc9 (by omega)
                    obtain ⟨s9, hs9i⟩ : ∃ s9, sl9[i]? = some s9 := ⟨_, List.getElem?_eq_getElem (by omega)⟩
                    obtain ⟨l9, hl9i⟩ : ∃ l9, L2[i]? = some l9 := ⟨_, List.getElem?_eq_getElem (by rw [HL2N.out]; exact hlt)⟩
                    have cs9 : w11.cell? ⟨ob, of + i, none⟩ = some s9 := by
                      rw [hcell9 i (by omega), List.getD_eq_getElem?_getD, hs9i]
                      rfl
                    have hl9r : l9.map Prod.fst = r := by
                      have h := congrArg (fun x => x[i]?) HLM2.out
                      simp only [List.getElem?_map] at h
                      rw [hl9i, HRR.out] at h
                      simpa using h
                    have HR9 := Lib.hid (hrow9 i s9 l9 hs9i hl9i)
                    have HL9 := Lib.hid hl9r
                    have HZL := Lib.hid hzl2
                    have HZW := Lib.hid hzw
                    have HB11 := Lib.hid hb11
                    have hrl : r.length ≤ 1000000 := by have := HRM.out; omega
                    clear hl9r hs9i hl9i hcell9 hc9 hrow9 hsl9 hb1011 hzl2 hzw hb11 hs9
                    go_wp2_with fail
                    refine (zJc _ _ r r _ ⟨zl, HZL.out, HZW.out.ownV.rdP⟩ ⟨l9, HL9.out, HR9.out⟩ hrl hrl).mono ?_
                    rw [sameR_self]
                    rintro e w12 ⟨rfl, hb12⟩
                    have HB12 := Lib.hid hb12
                    clear hb12
                    go_wp2_with fail
                    go_roundw
                    case rel => exact ⟨i + 1, by omega, by go_num, zAa HBJ.out (zAa HBK.out (zAa HB11.out HB12.out))⟩
                    case measure => simp [intOf]; omega
              · have hin : i = q := by omega
                have hlti : ¬ (i : Int) < (q : Int) := by omega
                go_wp2_with fail
                refine (zKx HRC.out HNE.out HM6.out wr HSEGj.out).mono ?_
                rintro e w9 ⟨v9, rfl, ho9, hb9⟩
                have hcv := zFl (P := Tryz.prog) w9 29 9 5 Tryz.underlying29 Tryz.underlying5 Tryz.underlying9 ho9.rd (zPg HRC.out)
                obtain ⟨a9, c9, rfl⟩ := ho9.shape
                rw [← HT.out, ← HBN.out] at hcv
                rw [← HBN.out]
                have HB9 := Lib.hid (zAa HBr.out (zAa HBJ.out hb9))
                clear ho9 hb9
                go_wp2_with fail
                clear hcv
                refine (HAW.out _).mono ?_
                rintro e w10 ⟨rfl, hb10⟩
                have HB10 := Lib.hid (zAa HB9.out hb10)
                clear hb10
                go_wp2_with fail
                go_ret
                exact ⟨rfl, HB10.out⟩

end Go.Proofs.YtmpgnjhgegbdkaaGreat
