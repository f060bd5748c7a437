/-
  Contract of the reference's Nulls.
-/
import Derived.Test.YtdelcaijehcaeaaReff
import Derived.Test.YtdelcaijehcaeaaNullb
namespace Go.Proofs.Ytdelcaijehcaeaa
set_option linter.unusedVariables false
open Go.RowKit

theorem own_apart {w1 W2 : World} {B : Nat} {E E' : TypeId} {v v' : Value} {n n' : Nat} {xs xs' : List Value} (h1 : w1.ownsRow B E 1 v n xs) (h2 : W2.ownsRow w1.heap.size E' 1 v' n' xs') :
    v'.ownBlock = none ∨ v'.ownBlock ≠ v.ownBlock := by
  cases hv' : v'.ownBlock with
  | none => exact .inl rfl
  | some g =>
    right
    have hg := own_base2 h2 g hv'
    intro he
    rcases h1.2 with ⟨h, _⟩ | ⟨g', cap', cur, h, hbg, hh, _⟩
    · rw [h] at he; cases he
    · rw [h] at he
      simp only [Value.ownBlock, Option.some.injEq] at he
      subst he
      rw [Array.getElem?_eq_none hg] at hh
      cases hh

set_option maxRecDepth 100000 in
set_option maxHeartbeats 1000000 in
theorem refNulls_any (v : Value) (bs : List Bool) (w : World) (hr : Rd w v (bs.map boolv)) (hbig : bs.length ≤ 65535) :
    Calls Try.prog 46 #[v] w (RetOwn w.heap.size 5 ((encN bs).map u8v) w) := by
  have hr2 := hr
  obtain ⟨ao, cap, hv, hcap, _⟩ := hr2
  rw [List.length_map] at hv
  subst hv
  obtain ⟨len, hlen⟩ : ∃ len, len = bs.length := ⟨_, rfl⟩
  rw [← hlen] at hr hbig ⊢
  have HL := Lib.hid hlen
  have HR := Lib.hid hr
  have HBL := Lib.hid (show bs.length ≤ 65535 by omega)
  clear hr hcap hlen
  obtain ⟨c, hc⟩ : ∃ c, c = countB bs := ⟨_, rfl⟩
  have hcl : c ≤ len := by rw [hc, HL.out]; exact countB_le bs
  have HC := Lib.hid hc
  have hn10 := Lib.hid (numC_len len)
  obtain ⟨i0, hi, hz0, hz1, hz2⟩ := info_parts info8
  clear hc
  go_enter Try.func46, Try.ntmps46
  go_wp2_with fail
  refine (refNum_any _ [] len _ (Rd.nil _) (by simp) (by omega)).mono ?_
  rintro e w1 ⟨ao1, cap1, rfl, hown, hb⟩
  rw [List.nil_append] at hown ⊢
  have hML : ((numC len).map u8v).length = (numC len).length := by rw [List.length_map]
  rw [hML] at hown ⊢
  obtain ⟨n, hn⟩ : ∃ n, n = (numC len).length := ⟨_, rfl⟩
  have hn11 : n ≤ 10 := by rw [hn]; exact hn10.out.1
  rw [← hn] at hown ⊢
  have HN := Lib.hid hn
  have HO := Lib.hid hown
  have HB := Lib.hid hb
  have HR1 := Lib.hid (HR.out.kept hb)
  clear hown hb hML hn
  go_wp2_with fail
  refine (refCount_any _ bs _ HR1.out (by have := HBL.out; omega)).mono ?_
  rw [← HC.out]
  rintro e w2 ⟨rfl, rfl⟩
  have HOA := Lib.hid (fun o => HO.out.alloc o)
  have hsz := fun (x : Value) (E : TypeId) => Lib.hid (show w.heap.size ≤ (w1.alloc (.cells #[x] E)).heap.size by simp; have := HB.out.size; omega)
  by_cases h0 : c = 0
  · subst h0
    have H2 := Lib.hid (one_cell w1 (u8v 0) 5)
    have H3 := Lib.hid (ones_u8 [0])
    go_wp2_with (at_builtin; go_must (refine wpList_append_own _ rfl _ _ 27 rfl w.heap.size 5 i0 (.int .u8 0) 1 1 Try.underlying27 hi hz0 hz1 hz2 rfl (by decide) _ _ _ rfl (HOA.out _) ⟨w1.heap.size, 0, none⟩ 1 1 [u8v 0] rfl rfl H2.out H3.out (by unfold maxLen; omega) (by omega) (hsz _ _).out ?_); intro v' w3 hown' hgrow _)
    have HO' := Lib.hid hown'
    have HG' := Lib.hid hgrow
    clear hown' hgrow
    go_wp2
    go_ret
    refine ret_own (n := n + 1) (v := v') (E := 5) (B := w.heap.size) ?_ (below_own (HB.out.alloc HB.out.size _) (HOA.out _) HG'.out)
    have he : encN bs = numC len ++ [0] := by unfold encN; rw [← HL.out, ← HC.out, if_pos rfl]
    rw [he, List.map_append]
    exact HO'.out
  · have h0i : ((c : Int) == 0) = false := by rw [beq_eq_false_iff_ne]; omega
    by_cases h1 : c = len
    · have H2 := Lib.hid (one_cell w1 (u8v 1) 5)
      have H3 := Lib.hid (ones_u8 [1])
      have he : encN bs = numC len ++ [1] := by unfold encN; rw [← HL.out, ← HC.out, if_neg h0, if_pos h1]
      have HE := Lib.hid he
      have h1i : ((c : Int) == (len : Int)) = true := by rw [beq_iff_eq]; omega
      clear he
      go_wp2_with (at_builtin; go_must (refine wpList_append_own _ rfl _ _ 27 rfl w.heap.size 5 i0 (.int .u8 0) 1 1 Try.underlying27 hi hz0 hz1 hz2 rfl (by decide) _ _ _ rfl (HOA.out _) ⟨w1.heap.size, 0, none⟩ 1 1 [u8v 1] rfl rfl H2.out H3.out (by unfold maxLen; omega) (by omega) (hsz _ _).out ?_); intro v' w3 hown' hgrow _)
      have HO' := Lib.hid hown'
      have HG' := Lib.hid hgrow
      clear hown' hgrow
      go_wp2
      go_ret
      refine ret_own (n := n + 1) (v := v') (E := 5) (B := w.heap.size) ?_ (below_own (HB.out.alloc HB.out.size _) (HOA.out _) HG'.out)
      rw [HE.out, List.map_append]
      exact HO'.out
    · have h1i : ((c : Int) == (len : Int)) = false := by rw [beq_eq_false_iff_ne]; omega
      have H2 := Lib.hid (one_cell w1 (u8v 2) 5)
      have H3 := Lib.hid (ones_u8 [2])
      have he : encN bs = (numC len ++ [2]) ++ packB (heldN 1) (bitsN bs) := by unfold encN; rw [← HL.out, ← HC.out, if_neg h0, if_neg h1, show heldN 1 = 1 from by decide]; simp
      have HE := Lib.hid he
      clear he
      obtain ⟨j0, ji, jz0, jz1, jz2⟩ := info_parts info64
      go_wp2_with fail
      go_loopw [5, 6] (fun vb i wr => ∃ k : Nat, k ≤ len ∧ i = .int .i64 (k : Int) ∧ wr.ownsRow w1.heap.size 22 1 vb k ((bitsN (bs.take k)).map u64v) ∧ Below w1.heap.size w1 wr) (fun _ i _ => len - (intOf i).toNat)
      case atStart => exact ⟨0, Nat.zero_le _, rfl, owns_nil _ _ _, Below.refl _ _⟩
      case round =>
        obtain ⟨k, hk, rfl, hownk, hbel⟩ := hrel
        obtain ⟨aob, capb, hv⟩ := own_shape hownk
        subst hv
        have HOK := Lib.hid hownk
        have HBK := Lib.hid hbel
        have HOKA := Lib.hid (fun o => hownk.alloc o)
        clear hownk hbel
        by_cases hlt : k < len
        · obtain ⟨b, off, rfl, hcell⟩ := (rdb_cells (HR1.out.kept HBK.out)).2 (by omega)
          have hx := hcell k hlt
          obtain ⟨x, hxe⟩ : ∃ x, x = bs.getD k false := ⟨_, rfl⟩
          rw [← hxe] at hx
          have hget : bs[k]? = some x := by
            rw [hxe, List.getD_eq_getElem?_getD, List.getElem?_eq_getElem (by rw [← HL.out]; exact hlt)]; rfl
          have HT := Lib.hid (show bitsN (bs.take (k + 1)) = bitsN (bs.take k) ++ [x.toNat] by unfold bitsN; rw [List.take_add_one, hget, List.map_append]; rfl)
          have hszk := fun (x : Value) (E : TypeId) => Lib.hid (show w1.heap.size ≤ (wr.alloc (.cells #[x] E)).heap.size by simp; have := HBK.out.size; omega)
          have H2k := fun y : Nat => Lib.hid (one_cell wr (u64v y) 22)
          have H3k := fun y : Nat => Lib.hid (show ∀ u ∈ [u64v y], u.oneCell' = true by intro u hu; simp at hu; subst hu; rfl)
          clear hcell hxe hget
          cases x
          · go_wp2_with (at_builtin; go_must (refine wpList_append_own _ rfl _ _ 31 rfl w1.heap.size 22 j0 (.int .u64 0) 1 8 Try.underlying31 ji jz0 jz1 jz2 rfl (by decide) _ _ _ rfl (HOKA.out _) ⟨wr.heap.size, 0, none⟩ 1 1 [u64v 0] rfl rfl (H2k 0).out (H3k 0).out (by unfold maxLen; omega) (by omega) (hszk _ _).out ?_); intro v' w3 hown' hgrow _)
            have HO' := Lib.hid hown'
            have HB' := Lib.hid (below_own (below_lay HBK.out _) (HOKA.out _) hgrow)
            clear hown' hgrow
            go_wp2_with fail
            go_roundw
            case rel =>
              refine ⟨k + 1, by omega, by go_num, ?_, HB'.out⟩
              rw [HT.out, List.map_append]
              exact HO'.out
            case measure => simp [intOf]; omega
          · go_wp2_with (at_builtin; go_must (refine wpList_append_own _ rfl _ _ 31 rfl w1.heap.size 22 j0 (.int .u64 0) 1 8 Try.underlying31 ji jz0 jz1 jz2 rfl (by decide) _ _ _ rfl (HOKA.out _) ⟨wr.heap.size, 0, none⟩ 1 1 [u64v 1] rfl rfl (H2k 1).out (H3k 1).out (by unfold maxLen; omega) (by omega) (hszk _ _).out ?_); intro v' w3 hown' hgrow _)
            have HO' := Lib.hid hown'
            have HB' := Lib.hid (below_own (below_lay HBK.out _) (HOKA.out _) hgrow)
            clear hown' hgrow
            go_wp2_with fail
            go_roundw
            case rel =>
              refine ⟨k + 1, by omega, by go_num, ?_, HB'.out⟩
              rw [HT.out, List.map_append]
              exact HO'.out
            case measure => simp [intOf]; omega
        · obtain rfl : k = len := by omega
          have hbt : bs.take k = bs := by rw [HL.out, List.take_length]
          rw [hbt] at HOK
          obtain ⟨W2, hW2⟩ : ∃ W2 : World, W2 = wr := ⟨_, rfl⟩
          rw [← hW2] at HOK HBK ⊢
          have HO2 := Lib.hid (own_below HO.out HBK.out)
          have HB2 := Lib.hid (below_then HB.out HBK.out)
          clear hbt hW2 HOKA HBK ji jz0 jz1 jz2
          have H2' := Lib.hid (one_cell W2 (u8v 2) 5)
          have HOA2 := Lib.hid (fun o => HO2.out.alloc o)
          have hsz2 := Lib.hid (below_lay HB2.out (.cells #[u8v 2] 5)).size
          go_wp2_with (at_builtin; go_must (refine wpList_append_own _ rfl _ _ 27 rfl w.heap.size 5 i0 (.int .u8 0) 1 1 Try.underlying27 hi hz0 hz1 hz2 rfl (by decide) _ _ _ rfl (HOA2.out _) ⟨W2.heap.size, 0, none⟩ 1 1 [u8v 2] rfl rfl H2'.out H3.out (by unfold maxLen; omega) (by omega) hsz2.out ?_); intro v' w3 hown' hgrow _)
          have HB23 := Lib.hid (below_own (below_lay HB2.out _) (HOA2.out _) hgrow)
          obtain ⟨ao2, cap2, hv⟩ := own_shape hown'
          subst hv
          have HO4 := Lib.hid hown'
          have HRU3 := Lib.hid (Rd.of_owns ((HOK.out.alloc (.cells #[u8v 2] 5)).kept hgrow (own_apart HO.out HOK.out)))
          clear hown' hgrow HOA2 H2' HOK HO2
          have HBN := Lib.hid (show (bitsN bs).length = k by unfold bitsN; rw [List.length_map, HL.out])
          refine (refPack_any _ (bitsN bs) 1 _ HRU3.out (fun x hx => Nat.lt_trans (bitsN_lt bs x hx) (by decide)) (by rw [HBN.out]; omega)).mono ?_
          rintro e w5 ⟨ao5, cap5, rfl, hown, hb⟩
          have hpl : ((packB (heldN 1) (bitsN bs)).map u8v).length = (k + 7) / 8 := by rw [List.length_map, packB_length, HBN.out, show heldN 1 = 1 from by decide, Nat.one_mul]
          obtain ⟨q, hq⟩ : ∃ q, q = (k + 7) / 8 := ⟨_, rfl⟩
          have hq0 : 0 < q := by omega
          have hq1 : q ≤ 8192 := by omega
          rw [hpl, ← hq]
          have HR5 := Lib.hid (rd_own_map hown)
          have HO5 := Lib.hid (own_below HO4.out hb)
          have HB5 := Lib.hid (below_then HB23.out hb)
          rw [List.length_map] at hpl
          rw [hpl, ← hq] at HR5
          have HPL := Lib.hid (hpl.trans hq.symm)
          clear hown hb hpl hq HO4
          obtain ⟨o5, off5, rfl, _⟩ := (rd_cells HR5.out).2 hq0
          have H5 := Lib.hid (rd_news HR5.out)
          have H6 := Lib.hid (show ((packB (heldN 1) (bitsN bs)).map u8v).length = q * 1 by rw [List.length_map, HPL.out, Nat.mul_one])
          have H7 := Lib.hid (ones_u8 (packB (heldN 1) (bitsN bs)))
          have hs5 := Lib.hid HB5.out.size
          go_wp2_with (at_builtin; go_must (refine wpList_append_own _ rfl _ _ 27 rfl w.heap.size 5 i0 (.int .u8 0) 1 1 Try.underlying27 hi hz0 hz1 hz2 rfl (by decide) _ _ _ rfl HO5.out ⟨o5, off5, none⟩ q cap5 _ rfl H6.out H5.out H7.out (by unfold maxLen; omega) (by omega) hs5.out ?_); intro v' w6 hown' hgrow _)
          have HO' := Lib.hid hown'
          have HG' := Lib.hid hgrow
          clear hown' hgrow
          go_wp2
          go_ret
          refine ret_own (n := n + 1 + q) (v := v') (E := 5) (B := w.heap.size) ?_ (below_own HB5.out HO5.out HG'.out)
          rw [HE.out, List.map_append, List.map_append]
          exact HO'.out

end Go.Proofs.Ytdelcaijehcaeaa
