/-
  The walk of CodeRows.
-/
import Derived.Test.YtdelcaijehcaeaaCodeRowsa
namespace Go.Proofs.Ytdelcaijehcaeaa
set_option linter.unusedVariables false
open Go.RowKit

theorem and16 (a : Int) : 0 ≤ bits .and .i64 a 65535 ∧ bits .and .i64 a 65535 ≤ 65535 := by
  have h : bits .and .i64 a 65535 = IntKind.i64.wrap ((BitVec.ofInt 64 a &&& BitVec.ofInt 64 65535).toNat : Int) := rfl
  have h1 : (BitVec.ofInt 64 a &&& BitVec.ofInt 64 65535).toNat ≤ 65535 := by
    rw [BitVec.toNat_and]
    exact Nat.le_trans Nat.and_le_right (by decide)
  rw [h, IntWalk.i64_in _ (by omega)]
  omega

/-- Where the rows are cut. -/
theorem cut_some (a : Int) (N : Nat) (h : 0 < N) : ∃ c d q : Nat, bits .and .i64 a 65535 = (c : Int) ∧ (c : Int).tmod (N : Int) = (d : Int) ∧ (N : Int) - 1 - (d : Int) = (q : Int) ∧ q < N ∧ d < N ∧ c ≤ 65535 := by
  obtain ⟨i1, i2⟩ := and16 a
  have hd : (bits .and .i64 a 65535).toNat % N < N := Nat.mod_lt _ h
  refine ⟨(bits .and .i64 a 65535).toNat, (bits .and .i64 a 65535).toNat % N, N - 1 - (bits .and .i64 a 65535).toNat % N, by omega, ?_, by omega, by omega, hd, by omega⟩
  rw [Int.tmod_eq_emod_of_nonneg (by omega)]
  omega

set_option maxRecDepth 100000 in
set_option maxHeartbeats 2000000 in
theorem walk_CodeRows (a0 : Option Addr) (len0 cap0 : Nat) (z0 : List Int) (a1 : Option Addr) (len1 cap1 : Nat) (z1 : List Int) (a2 : Int) (w : World) (w0 : IsRow .u64 w a0 len0 cap0 z0) (w1 : IsRow .u8 w a1 len1 cap1 z1) (w2 : (Lit.int .i64 a2).wf = true) :
    Calls Try.prog 9 #[.slice a0 len0 cap0, .slice a1 len1 cap1, .int .i64 a2] w fun e w' => e = .returned (.bool true) ∧ Below w.heap.size w w' := by
  obtain ⟨us, hl0, hr0, h64⟩ := isRow_u64 w0
  obtain ⟨raw, hl1, hr1, h256⟩ := isRow_u8 w1
  obtain ⟨c0, c1⟩ := wf_i64 w2
  clear w0 w1 w2
  by_cases hbr : len1 ≤ 100
  · have hbr' : decide ((100 : Int) < (len1 : Int)) = false := by simp; omega
    by_cases hbu : len0 ≤ 20
    · have hbu' : decide ((20 : Int) < (len0 : Int)) = false := by simp; omega
      have OK := Lib.hid (show RowsOk raw us from ⟨by omega, by omega, h256, h64⟩)
      have HR0 := Lib.hid hr0
      have HR1 := Lib.hid hr1
      have HL0 := Lib.hid hl0
      have HL1 := Lib.hid hl1
      clear hr0 hr1 h64 h256 hl0 hl1
      go_enter Try.func9, Try.ntmps9
      go_wp2_with fail
      go_loopw [7, 29] (fun b i wr => ∃ k n cap : Nat, ∃ ao : Option Addr, k ≤ len0 ∧ i = .int .i64 (k : Int) ∧ b = .slice ao n cap ∧ n = (rowsD raw (us.take k)).length ∧ Rd wr (.slice ao n cap) ((rowsD raw (us.take k)).map u8v) ∧ Below w.heap.size w wr) (fun _ i _ => len0 - (intOf i).toNat)
      case atStart => exact ⟨0, 0, 0, none, Nat.zero_le _, rfl, rfl, by simp [rowsD], by simpa [rowsD] using Rd.nil _, Below.refl _ _⟩
      case round =>
        obtain ⟨k, n, cap, ao, hk, rfl, rfl, hn, hrb, hbel⟩ := hrel
        have HRB := Lib.hid hrb
        have HB := Lib.hid hbel
        have HN := Lib.hid hn
        clear hrb hn
        by_cases hlt : k < len0
        · obtain ⟨o, off, rfl, hcell⟩ := (rd64_cells (HR0.out.kept hbel)).2 (by omega)
          have hx := hcell k hlt
          obtain ⟨u, hu⟩ : ∃ u, u = us.getD k 0 := ⟨_, rfl⟩
          rw [← hu] at hx
          have hget : us[k]? = some u := by
            rw [hu, List.getD_eq_getElem?_getD, List.getElem?_eq_getElem (by rw [HL0.out]; exact hlt)]; rfl
          have HG := Lib.hid hget
          have HU := Lib.hid (OK.out.l64 u (List.mem_of_getElem? hget))
          have HT := Lib.hid (show rowsD raw (us.take (k + 1)) = (rowsD raw (us.take k) ++ numC u) ++ bytesC raw by
            rw [List.take_add_one, hget]; exact rowsD_snoc raw _ u)
          have HS := Lib.hid (show (rowsD raw (us.take k)).length ≤ 20 * 120 ∧ (numC u).length ≤ 10 by
            refine ⟨?_, (numC_len u).1⟩
            have h1 := rowsD_len raw (us.take k)
            have h2 : (us.take k).length ≤ 20 := by rw [List.length_take]; omega
            have h3 := Nat.mul_le_mul h2 (show 20 + raw.length ≤ 120 by have := OK.out.raw100; omega)
            omega)
          clear hcell hu hget hbel
          go_wp2_with fail
          refine (num_any _ (rowsD raw (us.take k)) u _ HRB.out (by have := HS.out; omega) HU.out).mono ?_
          rintro e w1 ⟨ao1, cap1, rfl, hown, hb⟩
          have HR2 := Lib.hid (rd_own_map hown)
          have HB2 := Lib.hid (below_then HB.out hb)
          clear hown hb HB HRB
          simp only [List.length_map]
          obtain ⟨n1, hn1⟩ : ∃ n1, n1 = (rowsD raw (us.take k) ++ numC u).length := ⟨_, rfl⟩
          rw [← hn1] at HR2 ⊢
          clear hn1
          go_wp2_with fail
          refine (cbytes_any _ _ (rowsD raw (us.take k) ++ numC u) raw _ HR2.out (HR1.out.kept HB2.out) (by have := HS.out; rw [List.length_append]; omega) (by have := OK.out.raw100; omega)).mono ?_
          rw [← HT.out]
          rintro e w2 ⟨ao2, cap2, rfl, hown, hb⟩
          have HR3 := Lib.hid (rd_own_map hown)
          have HB3 := Lib.hid (below_then HB2.out hb)
          clear hown hb HB2 HR2
          simp only [List.length_map]
          obtain ⟨n2, hn2⟩ : ∃ n2, n2 = (rowsD raw (us.take (k + 1))).length := ⟨_, rfl⟩
          rw [← hn2] at HR3 ⊢
          have HN2 := Lib.hid hn2
          clear hn2
          go_wp2_with fail
          go_roundw
          case rel => exact ⟨k + 1, n2, cap2, ao2, by omega, by go_num, rfl, HN2.out, HR3.out, HB3.out⟩
          case measure => simp [intOf]; omega
        · obtain rfl : k = len0 := by omega
          have htk : us.take k = us := by rw [← HL0.out, List.take_length]
          rw [htk] at HRB HN
          clear hlt htk
          have HS := Lib.hid (show (rowsD raw us).length ≤ 20 * 120 by
            have h1 := rowsD_len raw us
            have h3 := Nat.mul_le_mul OK.out.l20 (show 20 + raw.length ≤ 120 by have := OK.out.raw100; omega)
            omega)
          have H7 := Lib.hid (show rowsD raw us ++ numC 7 = rowsC raw us from rowsD_end raw us)
          go_wp2_with fail
          refine (num_any _ (rowsD raw us) 7 _ HRB.out (by have := HS.out; omega) (by decide)).mono ?_
          rw [H7.out]
          rintro e w1 ⟨ao1, cap1, rfl, hown, hb⟩
          have HR2 := Lib.hid (rd_own_map hown)
          have HB2 := Lib.hid (below_then hbel hb)
          clear hown hb hbel HB HRB
          simp only [List.length_map]
          obtain ⟨N, hN⟩ : ∃ N, N = (rowsC raw us).length := ⟨_, rfl⟩
          rw [← hN] at HR2 ⊢
          have hN0 : 0 < N := by rw [hN, ← H7.out, List.length_append]; have := (numC_len 7).2; omega
          have hN1 : N ≤ 2401 := by rw [hN]; exact OK.out.len
          have HN0 := Lib.hid hN
          have hNz : ((N : Int) == 0) = false := by rw [beq_eq_false_iff_ne]; omega
          have hcN : N ≤ cap1 := rd_cap HR2.out
          obtain ⟨c, d, q, hand, hmod, hsub, hq, hd, hc16⟩ := cut_some a2 N hN0
          have hqc : (q : Int) ≤ (cap1 : Int) := by omega
          clear hN
          go_wp2_with fail
          obtain ⟨g, hg⟩ : ∃ g, g = w1.heap.size := ⟨_, rfl⟩
          obtain ⟨W, hW⟩ : ∃ W, W = w1.alloc (.cells #[Value.slice ao1 N cap1, Value.slice ao1 q cap1] 27) := ⟨_, rfl⟩
          have hbw : Below w1.heap.size w1 W := by rw [hW]; exact below_alloc w1 _
          have HC0 := Lib.hid (show W.cell? ⟨g, 0, none⟩ = some (.slice ao1 N cap1) by rw [hW, hg, World.cell?_alloc_mark]; rfl)
          have HC1 := Lib.hid (show W.cell? ⟨g, 1, none⟩ = some (.slice ao1 q cap1) by rw [hW, hg, World.cell?_alloc_mark]; rfl)
          have HRW := Lib.hid (HR2.out.kept hbw)
          have HBW := Lib.hid (below_then HB2.out hbw)
          rw [← hW, ← hg]
          clear hW hg hbw HR2 HB2
          go_loopw [58] (fun i wr => ∃ j : Nat, j ≤ 2 ∧ i = .int .i64 (j : Int) ∧ Below W.heap.size W wr) (fun i _ => 2 - (intOf i).toNat)
          case atStart => exact ⟨0, by omega, rfl, Below.refl _ _⟩
          case round =>
            obtain ⟨j, hj, rfl, hbel⟩ := hrel
            by_cases hj2 : j < 2
            · obtain ⟨X, hXN, hX⟩ : ∃ X, X ≤ N ∧ W.cell? ⟨g, j, none⟩ = some (.slice ao1 X cap1) := by
                rcases (show j = 0 ∨ j = 1 by omega) with rfl | rfl
                · exact ⟨N, Nat.le_refl _, HC0.out⟩
                · exact ⟨q, by omega, HC1.out⟩
              have hx : wr.cell? ⟨g, j, none⟩ = some (.slice ao1 X cap1) := (hbel.cell (p := ⟨g, j, none⟩) (World.block_lt_of_cell? _ _ hX)).trans hX
              have hrx : Rd wr (.slice ao1 X cap1) (((rowsC raw us).take X).map u8v) := by
                rw [List.map_take]; exact (rd_take HRW.out hXN).kept hbel
              have HRX := Lib.hid hrx
              have HB := Lib.hid hbel
              clear hX hrx hbel
              go_wp2_with fail
              refine (read_any _ ((rowsC raw us).take X) _ HRX.out (by have := OK.out.len; rw [List.length_take]; omega)).mono ?_
              rintro e w2 ⟨r, rfl, hr, hi, hb⟩
              have HI := Lib.hid hi
              have HRr := Lib.hid (Nat.le_trans HB.out.size hr)
              have HB2 := Lib.hid (below_then HB.out hb)
              have HAT := Lib.hid (show AtRows raw (decide (N ≤ X)) us ((rowsC raw us).take X) false from .inl ⟨rfl, X, rfl, by rw [decide_eq_true_iff, HN0.out]⟩)
              clear hi hr hb HB HRX hx
              go_wp2_with fail
              go_loopw [68] (fun i wy => ∃ m : Nat, ∃ left : List Nat, ∃ bad : Bool, m ≤ k ∧ i = .int .i64 (m : Int) ∧ IsR wy r left bad ∧ AtRows raw (decide (N ≤ X)) (us.drop m) left bad ∧ Below W.heap.size W wy) (fun i _ => k - (intOf i).toNat)
              case atStart => exact ⟨0, _, false, Nat.zero_le _, rfl, HI.out, HAT.out, HB2.out⟩
              case round =>
                obtain ⟨m, left, bad, hm, rfl, hi, hat, hbel⟩ := hrel
                have HAT := Lib.hid hat
                have HI := Lib.hid hi
                have HB := Lib.hid hbel
                clear hat hi hbel
                by_cases hmk : m < k
                · obtain ⟨o, off, rfl, hcell⟩ := (rd64_cells (HR0.out.kept (below_then HBW.out HB.out))).2 (by omega)
                  have hx := hcell m hmk
                  obtain ⟨u, hu⟩ : ∃ u, u = us.getD m 0 := ⟨_, rfl⟩
                  rw [← hu] at hx
                  have hdr : us.drop m = u :: us.drop (m + 1) := by
                    rw [hu, List.getD_eq_getElem?_getD, List.getElem?_eq_getElem (by rw [HL0.out]; exact hmk)]
                    exact List.drop_eq_getElem_cons (by rw [HL0.out]; exact hmk)
                  have HOK := Lib.hid (show RowsOk raw (u :: us.drop (m + 1)) by
                    rw [← hdr]
                    exact ⟨OK.out.raw100, by have := OK.out.l20; rw [List.length_drop]; omega, OK.out.raw256, fun v hv => OK.out.l64 v (List.mem_of_mem_drop hv)⟩)
                  have HAT1 := Lib.hid (hdr ▸ HAT.out)
                  have HX := Lib.hid hx
                  clear hcell hu hdr HAT hx
                  have hx := HX.out
                  go_wp2_with fail
                  refine (num_rows r raw _ u _ left bad _ HI.out HOK.out HAT1.out).mono ?_
                  rintro e w6 ⟨mm, left1, bad1, rfl, hi, hg, ha, hmu⟩
                  have HI1 := Lib.hid hi
                  have HB6 := Lib.hid (HB.out.grown hg HB.out.size (fun k e => by cases e; exact HRr.out))
                  have HA1 := Lib.hid ha
                  have HMU := Lib.hid hmu
                  clear hi hg ha hmu HI HB HAT1 hx HX
                  go_wp2_with fail
                  refine (bytes_rows r raw _ _ left1 bad1 _ HI1.out HOK.out.tail HA1.out).mono ?_
                  rintro e w7 ⟨ao7, len7, cap7, ys, left2, bad2, rfl, hrd, hys, hi, hg, ha, hy⟩
                  have HI2 := Lib.hid hi
                  have HB7 := Lib.hid (HB6.out.grown hg HB6.out.size (fun k e => by cases e; exact HRr.out))
                  have HA2 := Lib.hid ha
                  have HY := Lib.hid hy
                  have hcv := run_str (P := Try.prog) w7 27 9 5 Try.underlying27 Try.underlying5 Try.underlying9 hrd (lt256b _ hys)
                  have hcw := run_str (P := Try.prog) w7 27 9 5 Try.underlying27 Try.underlying5 Try.underlying9 (HR1.out.kept (below_then HBW.out HB7.out)) (lt256b _ OK.out.raw256)
                  clear hi hg ha hy hrd hys HI1 HB6 HA1
                  rcases bad2 with _ | _
                  · obtain ⟨rfl, rfl⟩ := HY.out rfl
                    obtain rfl := HMU.out rfl
                    go_wp2_with fail
                    refine (ok_any r _ false _ HI2.out).mono ?_
                    rintro e w8 ⟨rfl, rfl⟩
                    go_wp2_with fail
                    go_roundw
                    case rel => exact ⟨m + 1, left2, false, by omega, by go_num, HI2.out, HA2.out, HB7.out⟩
                    case measure => simp [intOf]; omega
                  · go_wp2_with fail
                    refine (ok_any r _ true _ HI2.out).mono ?_
                    rintro e w8 ⟨rfl, rfl⟩
                    go_wp2_with fail
                    go_roundw
                    case rel => exact ⟨m + 1, left2, true, by omega, by go_num, HI2.out, HA2.out, HB7.out⟩
                    case measure => simp [intOf]; omega
                · obtain rfl : m = k := by omega
                  have hdr : us.drop m = [] := List.drop_of_length_le (by rw [HL0.out]; exact Nat.le_refl _)
                  rw [hdr] at HAT
                  clear hmk hdr
                  go_wp2_with fail
                  refine (last_rows r raw _ left bad _ HI.out HAT.out).mono ?_
                  rintro e w6 ⟨mm, rfl, hi, hg, hm7⟩
                  have HB6 := Lib.hid (HB.out.grown hg HB.out.size (fun k e => by cases e; exact HRr.out))
                  have HI1 := Lib.hid hi
                  have HM7 := Lib.hid hm7
                  clear hi hg hm7 HI HB HAT
                  by_cases hxn : X = N
                  · subst hxn
                    rw [show decide (X ≤ X) = true from decide_eq_true (Nat.le_refl _)] at HI1 HM7
                    obtain rfl := HM7.out rfl
                    go_wp2_with fail
                    refine (ok_any r _ false _ HI1.out).mono ?_
                    rintro e w8 ⟨rfl, rfl⟩
                    go_wp2_with fail
                    refine (ok_any r _ false _ HI1.out).mono ?_
                    rintro e w8 ⟨rfl, rfl⟩
                    go_wp2_with fail
                    refine (rest_any r [] false _ HI1.out (by simp)).mono ?_
                    rintro e w9 ⟨ao9, cap9, rfl, hown, hb⟩
                    have HB9 := Lib.hid (below_then HB6.out hb)
                    clear hown hb HB6
                    simp only [List.map_nil, List.length_nil]
                    go_wp2_with fail
                    go_roundw
                    case rel => exact ⟨j + 1, by omega, by go_num, HB9.out⟩
                    case measure => simp [intOf]; omega
                  · rw [show decide (N ≤ X) = false from decide_eq_false (by omega)] at HI1 HM7
                    have hne : ((X : Int) == (N : Int)) = false := by rw [beq_eq_false_iff_ne]; omega
                    go_wp2_with fail
                    refine (ok_any r _ true _ HI1.out).mono ?_
                    rintro e w8 ⟨rfl, rfl⟩
                    go_wp2_with fail
                    refine (ok_any r _ true _ HI1.out).mono ?_
                    rintro e w8 ⟨rfl, rfl⟩
                    go_wp2_with fail
                    go_roundw
                    case rel => exact ⟨j + 1, by omega, by go_num, HB6.out⟩
                    case measure => simp [intOf]; omega
            · go_wp2_with fail
              refine (awake2_any _).mono ?_
              rintro e w6 ⟨rfl, hb⟩
              have HB6 := Lib.hid (below_then HBW.out (below_then hbel hb))
              clear hb
              go_wp2_with fail
              go_ret
              exact ⟨rfl, HB6.out⟩
    · have hbu' : decide ((20 : Int) < (len0 : Int)) = true := by simp; omega
      go_enter Try.func9, Try.ntmps9
      go_wp2_with fail
      refine (awake2_any _).mono ?_
      rintro e w6 ⟨rfl, hb⟩
      have HB6 := Lib.hid hb
      clear hb
      go_wp2_with fail
      go_ret
      exact ⟨rfl, HB6.out⟩
  · have hbr' : decide ((100 : Int) < (len1 : Int)) = true := by simp; omega
    go_enter Try.func9, Try.ntmps9
    go_wp2_with fail
    refine (awake2_any _).mono ?_
    rintro e w6 ⟨rfl, hb⟩
    have HB6 := Lib.hid hb
    clear hb
    go_wp2_with fail
    go_ret
    exact ⟨rfl, HB6.out⟩

end Go.Proofs.Ytdelcaijehcaeaa
