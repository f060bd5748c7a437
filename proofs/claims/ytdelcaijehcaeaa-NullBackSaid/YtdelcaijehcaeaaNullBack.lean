/-
  The walk of NullBack.
-/
import Derived.Test.YtdelcaijehcaeaaAwakc
import Derived.Test.YtdelcaijehcaeaaAppend
namespace Go.Proofs.Ytdelcaijehcaeaa
set_option linter.unusedVariables false
open Go.RowKit

set_option maxRecDepth 100000 in
set_option maxHeartbeats 2000000 in
theorem walk_NullBack (a0 : Option Addr) (len0 cap0 : Nat) (z0 : List Int) (a1 : Int) (a2 : Option Addr) (len2 cap2 : Nat) (z2 : List Int) (w : World) (w0 : IsRow .i64 w a0 len0 cap0 z0) (w1 : (Lit.int .i64 a1).wf = true) (w2 : IsRow .u8 w a2 len2 cap2 z2) :
    Calls Try.prog 10 #[.slice a0 len0 cap0, .int .i64 a1, .slice a2 len2 cap2] w fun e w' => e = .returned (.bool true) ∧ Below w.heap.size w w' := by
  obtain ⟨zs, _, hr0, _⟩ := isRow_rd w0
  obtain ⟨ms, hl2, hr2, h256⟩ := isRow_u8 w2
  clear w0 w1 w2
  by_cases hbm : len2 ≤ 100
  · have hbm' : decide ((100 : Int) < (len2 : Int)) = false := by simp; omega
    have HR0 := Lib.hid hr0
    have HR2 := Lib.hid hr2
    have H256 := Lib.hid h256
    have HL2 := Lib.hid hl2
    clear hr0 hr2 h256 hl2
    obtain ⟨i0, hi, hz0, hz1, hz2⟩ := info_parts info8
    go_enter Try.func10, Try.ntmps10
    go_wp2_with fail
    refine (bools_any _ zs a1 _ HR0.out).mono ?_
    rintro e w3 ⟨xs, hx60, ao3, cap3, rfl, hown, hb⟩
    obtain ⟨len, hlen⟩ : ∃ len, len = xs.length := ⟨_, rfl⟩
    rw [← hlen] at hx60
    have HL := Lib.hid hlen
    have hrx : Rd w3 (.slice ao3 len cap3) (xs.map boolv) := by rw [hlen]; exact rd_own_map hown
    have HRX := Lib.hid hrx
    have HB3 := Lib.hid hb
    rw [List.length_map, ← hlen]
    clear hown hb hrx hlen
    go_wp2_with fail
    have hba := below_alloc w3 (.cells #[] 5)
    have hoe := own_empty w3 w3.heap.size 5 (Nat.le_refl _)
    refine (encode_any _ xs _ (HRX.out.kept hba) (by rw [← HL.out]; omega)).mono ?_
    rintro e w4 ⟨ao4, cap4, rfl, hown, hb⟩
    obtain ⟨n, hn⟩ : ∃ n, n = (encN xs).length := ⟨_, rfl⟩
    have hn0 : 0 < n := by rw [hn]; unfold encN; rw [List.length_append]; have := (numC_len xs.length).2; omega
    have hn1 : n ≤ 100 := by rw [hn]; have := encN_len xs; rw [← HL.out] at this; omega
    have HN := Lib.hid hn
    have hre : Rd w4 (.slice ao4 n cap4) ((encN xs).map u8v) := by rw [hn]; exact rd_own_map hown
    have HRE := Lib.hid hre
    have hb34 := below_then hba hb
    have HB34 := Lib.hid hb34
    have HOE := Lib.hid (own_below hoe hb)
    rw [List.length_map, ← hn]
    clear hown hb hn hre hba hoe hb34
    obtain ⟨o4, off4, rfl, _⟩ := (rd_cells HRE.out).2 hn0
    have H2 := Lib.hid (rd_news HRE.out)
    have H1 := Lib.hid (show ((encN xs).map u8v).length = n * 1 by rw [List.length_map, ← HN.out, Nat.mul_one])
    have H3 := Lib.hid (ones_u8 (encN xs))
    have hs1 := Lib.hid HB34.out.size
    have HM3 := Lib.hid (ones_u8 ms)
    have HML := Lib.hid (show (ms.map u8v).length = len2 by rw [List.length_map]; exact HL2.out)
    go_wp2_with (first
      | (at_builtin; refine wpList_append_rd rfl _ _ 27 rfl w3.heap.size 5 i0 (.int .u8 0) 1 Try.underlying27 hi hz0 hz1 hz2 rfl _ _ _ rfl HOE.out _ ((encN xs).map u8v) rfl HRE.out H3.out (by rw [H1.out]; unfold maxLen; omega) (by rw [H1.out]; omega) hs1.out ?_; intro v' w5 hown' hgrow; rw [H1.out, Nat.zero_add, Nat.mul_one, List.nil_append] at hown'; have HB5 := Lib.hid (below_own HB34.out HOE.out hgrow); obtain ⟨ao5, cap5, hv⟩ := own_shape hown'; subst hv; have HO5 := Lib.hid hown'; have HM5 := Lib.hid (HR2.out.kept (below_then HB3.out HB5.out)); have hs5 := Lib.hid HB5.out.size; clear hown' hgrow)
      | (at_builtin; refine wpList_append_rd rfl _ _ 27 rfl w3.heap.size 5 i0 (.int .u8 0) 1 Try.underlying27 hi hz0 hz1 hz2 rfl _ _ _ rfl HO5.out _ (ms.map u8v) rfl HM5.out HM3.out (by rw [HML.out]; unfold maxLen; omega) (by rw [HML.out]; omega) hs5.out ?_; intro v6 w6 hown6 hgrow6; rw [HML.out, ← List.map_append] at hown6; have HB6 := Lib.hid (below_own HB5.out HO5.out hgrow6); obtain ⟨ao6, cap6, hv6⟩ := own_shape hown6; subst hv6; have HR6 := Lib.hid (Rd.of_owns hown6); clear hown6 hgrow6))
    have hd := dec_enc xs ms (by rw [← HL.out]; omega)
    have HD := Lib.hid hd
    refine (decode_any _ (encN xs ++ ms) _ HR6.out (by
      intro x hx
      rcases List.mem_append.1 hx with hx | hx
      · exact encN_lt xs (by rw [← HL.out]; omega) x hx
      · exact H256.out x hx) (by rw [List.length_append, ← HN.out, HL2.out]; omega)).mono ?_
    rw [HD.out]
    rintro e w7 (⟨hn, _⟩ | ⟨l, r, ao7, len7, cap7, ao8, len8, cap8, hs, rfl, hr7, hr8, hb⟩)
    · cases hn
    · simp only [Option.some.injEq, Prod.mk.injEq] at hs
      obtain ⟨rfl, rfl⟩ := hs
      obtain rfl : len7 = len := (rdb_cells hr7).1.trans HL.out.symm
      obtain rfl : len8 = len2 := (rd_cells hr8).1.trans HL2.out
      have hb37 := below_then HB6.out hb
      have HB7 := Lib.hid (below_then HB3.out hb37)
      have HRX7 := Lib.hid (HRX.out.kept hb37)
      have HY7 := Lib.hid hr7
      have hcv := run_str (P := Try.prog) w7 27 9 5 Try.underlying27 Try.underlying5 Try.underlying9 hr8 (lt256b _ H256.out)
      have hcw := run_str (P := Try.prog) w7 27 9 5 Try.underlying27 Try.underlying5 Try.underlying9 (HR2.out.kept HB7.out) (lt256b _ H256.out)
      clear hb37 hb hr7 hr8 HRX HR6 HB6 HO5 HM5 HB5 HOE HRE H2 H1 H3 HM3 HML hs5 hs1 HB34 hd hi hz0 hz1 hz2
      go_wp2_with fail
      go_loopw [11, 49] (fun c i wr => ∃ k : Nat, k ≤ len7 ∧ i = .int .i64 (k : Int) ∧ c = .int .i64 (countB (xs.take k) : Nat) ∧ Below w7.heap.size w7 wr) (fun _ i _ => len7 - (intOf i).toNat)
      case atStart => exact ⟨0, Nat.zero_le _, rfl, rfl, Below.refl _ _⟩
      case round =>
        obtain ⟨k, hk, rfl, rfl, hbel⟩ := hrel
        obtain ⟨c, hc⟩ : ∃ c, c = countB (xs.take k) := ⟨_, rfl⟩
        have hcl : c ≤ k := by rw [hc]; have := countB_le (xs.take k); rw [List.length_take] at this; omega
        rw [← hc]
        have HCC := Lib.hid hc
        have HB := Lib.hid hbel
        clear hc hbel
        by_cases hlt : k < len7
        · obtain ⟨b, off, rfl, hcell⟩ := (rdb_cells (HRX7.out.kept HB.out)).2 (by omega)
          obtain ⟨b2, off2, rfl, hcell2⟩ := (rdb_cells (HY7.out.kept HB.out)).2 (by omega)
          have hx := hcell k hlt
          have hy := hcell2 k hlt
          obtain ⟨x, hxe⟩ : ∃ x, x = xs.getD k false := ⟨_, rfl⟩
          rw [← hxe] at hx hy
          have hget : xs[k]? = some x := by
            rw [hxe, List.getD_eq_getElem?_getD, List.getElem?_eq_getElem (by rw [← HL.out]; exact hlt)]; rfl
          have HT := Lib.hid (countB_take xs k x hget)
          clear hxe hcell hcell2 hget
          cases x
          · go_wp2_with fail
            go_quiet (fail)
            go_wp2_with fail
            go_roundw
            case rel => exact ⟨k + 1, by omega, by go_num, by rw [HT.out, HCC.out]; rfl, HB.out.trans (below_drew _ _ _)⟩
            case measure => simp [intOf]; omega
          · go_wp2_with fail
            go_quiet (fail)
            go_wp2_with fail
            go_roundw
            case rel => exact ⟨k + 1, by omega, by go_num, by rw [HT.out, ← HCC.out]; simp, HB.out.trans (below_drew _ _ _)⟩
            case measure => simp [intOf]; omega
        · obtain rfl : k = len7 := by omega
          have hct : c = countB xs := by rw [HCC.out, HL.out, List.take_length]
          have HCT := Lib.hid hct
          have HX8 := Lib.hid (HRX7.out.kept HB.out)
          have HB8 := Lib.hid (below_then HB7.out HB.out)
          clear hct
          go_wp2_with fail
          refine (count_any _ xs _ HX8.out (by rw [← HL.out]; omega)).mono ?_
          rw [← HCT.out]
          rintro e w9 ⟨rfl, rfl⟩
          go_wp2_with fail
          refine (awake3_any _).mono ?_
          rintro e w9 ⟨rfl, hb⟩
          have HB9 := Lib.hid (below_then HB8.out hb)
          clear hb
          go_wp2_with fail
          go_ret
          exact ⟨rfl, HB9.out⟩
  · have hbm' : decide ((100 : Int) < (len2 : Int)) = true := by simp; omega
    go_enter Try.func10, Try.ntmps10
    go_wp2_with fail
    refine (awake3_any _).mono ?_
    rintro e w6 ⟨rfl, hb⟩
    have HB6 := Lib.hid hb
    clear hb
    go_wp2_with fail
    go_ret
    exact ⟨rfl, HB6.out⟩

end Go.Proofs.Ytdelcaijehcaeaa
