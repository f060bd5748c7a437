/-
  Contract of null's Encode.
-/
import Derived.Test.YtdelcaijehcaeaaNulla
import Derived.Test.YtdelcaijehcaeaaAwakb
import Derived.Test.YtdelcaijehcaeaaAwaka
namespace Go.Proofs.Ytdelcaijehcaeaa
set_option linter.unusedVariables false
open Go.RowKit

theorem ret_own {B : Nat} {E : TypeId} {xs : List Value} {v : Value} {n : Nat} {w w3 : World} (h : w3.ownsRow B E 1 v n xs) (hb : Below w.heap.size w w3) : RetOwn B E xs w (.returned v) w3 := by
  have hl : xs.length = n := by simpa using h.1
  subst hl
  obtain ⟨ao', cap', hv⟩ := own_shape h
  subst hv
  exact ⟨ao', cap', rfl, h, hb⟩

/-- Behind a growth of a row of one's own. -/
theorem below_own {w a b : World} {E : TypeId} {v : Value} {n : Nat} {xs : List Value} (hB : Below w.heap.size w a) (HO : a.ownsRow w.heap.size E 1 v n xs) (hg : a.grownBy b v.ownBlock) : Below w.heap.size w b :=
  hB.grown hg hB.size (by
    intro k hk
    rcases HO.2 with ⟨h, _⟩ | ⟨g', cap', cur, h, hbg, _⟩
    · rw [h] at hk; cases hk
    · rw [h] at hk; cases hk; exact hbg)

/-- A row of one's own, behind a call that turned nothing. -/
theorem own_below {a b : World} {B : Nat} {E : TypeId} {v : Value} {n : Nat} {xs : List Value} (h : a.ownsRow B E 1 v n xs) (hb : Below a.heap.size a b) : b.ownsRow B E 1 v n xs :=
  h.kept (grown_of_below hb none) (by
    cases h : v.ownBlock with
    | none => exact .inl rfl
    | some g => exact .inr (by intro h2; cases h2))

set_option maxRecDepth 100000 in
set_option maxHeartbeats 1000000 in
theorem encode_any (v : Value) (bs : List Bool) (w : World) (hr : Rd w v (bs.map boolv)) (hbig : bs.length ≤ 65535) :
    Calls Try.prog 40 #[v] w (RetOwn w.heap.size 5 ((encN bs).map u8v) w) := by
  have hr2 := hr
  obtain ⟨ao, cap, hv, hcap, _⟩ := hr2
  rw [List.length_map] at hv
  subst hv
  obtain ⟨len, hlen⟩ : ∃ len, len = bs.length := ⟨_, rfl⟩
  rw [← hlen] at hr hbig ⊢
  have HL := Lib.hid hlen
  have HR := Lib.hid hr
  have HBL := Lib.hid (show bs.length ≤ 65535 by omega)
  clear hr hcap hlen
  obtain ⟨c, hc⟩ : ∃ c, c = countB bs := ⟨_, rfl⟩
  have hcl : c ≤ len := by rw [hc, HL.out]; exact countB_le bs
  have HC := Lib.hid hc
  have hn10 := Lib.hid (numC_len len)
  obtain ⟨i0, hi, hz0, hz1, hz2⟩ := info_parts info8
  clear hc
  go_enter Try.func40, Try.ntmps40
  go_wp2_with fail
  refine (num_any _ [] len _ (Rd.nil _) (by simp) (by omega)).mono ?_
  rintro e w1 ⟨ao1, cap1, rfl, hown, hb⟩
  rw [List.nil_append] at hown ⊢
  have hML : ((numC len).map u8v).length = (numC len).length := by rw [List.length_map]
  rw [hML] at hown ⊢
  obtain ⟨n, hn⟩ : ∃ n, n = (numC len).length := ⟨_, rfl⟩
  have hn11 : n ≤ 10 := by rw [hn]; exact hn10.out.1
  rw [← hn] at hown ⊢
  have HN := Lib.hid hn
  have HO := Lib.hid hown
  have HB := Lib.hid hb
  have HR1 := Lib.hid (HR.out.kept hb)
  clear hown hb hML hn
  go_wp2_with fail
  refine (count_any _ bs _ HR1.out (by have := HBL.out; omega)).mono ?_
  rw [← HC.out]
  rintro e w2 ⟨rfl, rfl⟩
  have HOA := Lib.hid (fun o => HO.out.alloc o)
  have hsz := fun (x : Value) (E : TypeId) => Lib.hid (show w.heap.size ≤ (w1.alloc (.cells #[x] E)).heap.size by simp; have := HB.out.size; omega)
  by_cases h0 : c = 0
  · subst h0
    have H2 := Lib.hid (one_cell w1 (u8v 0) 5)
    have H3 := Lib.hid (ones_u8 [0])
    go_wp2_with (at_builtin; go_must (refine wpList_append_own _ rfl _ _ 27 rfl w.heap.size 5 i0 (.int .u8 0) 1 1 Try.underlying27 hi hz0 hz1 hz2 rfl (by decide) _ _ _ rfl (HOA.out _) ⟨w1.heap.size, 0, none⟩ 1 1 [u8v 0] rfl rfl H2.out H3.out (by unfold maxLen; omega) (by omega) (hsz _ _).out ?_); intro v' w3 hown' hgrow _)
    have HO' := Lib.hid hown'
    have HG' := Lib.hid hgrow
    clear hown' hgrow
    go_wp2
    go_ret
    refine ret_own (n := n + 1) (v := v') (E := 5) (B := w.heap.size) ?_ (below_own (HB.out.alloc HB.out.size _) (HOA.out _) HG'.out)
    have he : encN bs = numC len ++ [0] := by unfold encN; rw [← HL.out, ← HC.out, if_pos rfl]
    rw [he, List.map_append]
    exact HO'.out
  · have h0i : ((c : Int) == 0) = false := by rw [beq_eq_false_iff_ne]; omega
    by_cases h1 : c = len
    · have H2 := Lib.hid (one_cell w1 (u8v 1) 5)
      have H3 := Lib.hid (ones_u8 [1])
      have he : encN bs = numC len ++ [1] := by unfold encN; rw [← HL.out, ← HC.out, if_neg h0, if_pos h1]
      have HE := Lib.hid he
      have h1i : ((c : Int) == (len : Int)) = true := by rw [beq_iff_eq]; omega
      clear he
      go_wp2_with (at_builtin; go_must (refine wpList_append_own _ rfl _ _ 27 rfl w.heap.size 5 i0 (.int .u8 0) 1 1 Try.underlying27 hi hz0 hz1 hz2 rfl (by decide) _ _ _ rfl (HOA.out _) ⟨w1.heap.size, 0, none⟩ 1 1 [u8v 1] rfl rfl H2.out H3.out (by unfold maxLen; omega) (by omega) (hsz _ _).out ?_); intro v' w3 hown' hgrow _)
      have HO' := Lib.hid hown'
      have HG' := Lib.hid hgrow
      clear hown' hgrow
      go_wp2
      go_ret
      refine ret_own (n := n + 1) (v := v') (E := 5) (B := w.heap.size) ?_ (below_own (HB.out.alloc HB.out.size _) (HOA.out _) HG'.out)
      rw [HE.out, List.map_append]
      exact HO'.out
    · have h1i : ((c : Int) == (len : Int)) = false := by rw [beq_eq_false_iff_ne]; omega
      have H2 := Lib.hid (one_cell w1 (u8v 2) 5)
      have H3 := Lib.hid (ones_u8 [2])
      have he : encN bs = (numC len ++ [2]) ++ packB (heldN 1) (bitsN bs) := by unfold encN; rw [← HL.out, ← HC.out, if_neg h0, if_neg h1, show heldN 1 = 1 from by decide]; simp
      have HE := Lib.hid he
      clear he
      go_wp2_with (at_builtin; go_must (refine wpList_append_own _ rfl _ _ 27 rfl w.heap.size 5 i0 (.int .u8 0) 1 1 Try.underlying27 hi hz0 hz1 hz2 rfl (by decide) _ _ _ rfl (HOA.out _) ⟨w1.heap.size, 0, none⟩ 1 1 [u8v 2] rfl rfl H2.out H3.out (by unfold maxLen; omega) (by omega) (hsz _ _).out ?_); intro v' w3 hown' hgrow _)
      have HB3 := Lib.hid (below_own (HB.out.alloc HB.out.size _) (HOA.out _) hgrow)
      obtain ⟨ao2, cap2, hv⟩ := own_shape hown'
      subst hv
      have HO' := Lib.hid hown'
      clear hown' hgrow HOA H2
      refine (numbers_any _ bs _ (HR.out.kept HB3.out) HBL.out).mono ?_
      rintro e w4 ⟨ao4, cap4, rfl, hown, hb⟩
      have hbn : ((bitsN bs).map u64v).length = len := by unfold bitsN; rw [List.length_map, List.length_map, HL.out]
      have HR4 := Lib.hid (rd_own_map hown)
      rw [hbn]
      have hbn2 : (bitsN bs).length = len := by unfold bitsN; rw [List.length_map, HL.out]
      rw [hbn2] at HR4
      have HO4 := Lib.hid (own_below HO'.out hb)
      have HB4 := Lib.hid (below_then HB3.out hb)
      have HBN := Lib.hid hbn2
      clear hown hb hbn hbn2 HO' HB3
      go_wp2_with fail
      refine (pack_lit (us := bitsN bs) HR4.out (fun x hx => Nat.lt_trans (bitsN_lt bs x hx) (by decide)) (by rw [HBN.out]; omega) rfl).mono ?_
      rintro e w5 ⟨ao5, cap5, rfl, hown, hb⟩
      have hpl : ((packB (heldN 1) (bitsN bs)).map u8v).length = (len + 7) / 8 := by rw [List.length_map, packB_length, HBN.out, show heldN 1 = 1 from by decide, Nat.one_mul]
      obtain ⟨q, hq⟩ : ∃ q, q = (len + 7) / 8 := ⟨_, rfl⟩
      have hq0 : 0 < q := by omega
      have hq1 : q ≤ 8192 := by omega
      rw [hpl, ← hq]
      have HR5 := Lib.hid (rd_own_map hown)
      have HO5 := Lib.hid (own_below HO4.out hb)
      have HB5 := Lib.hid (below_then HB4.out hb)
      rw [List.length_map] at hpl
      rw [hpl, ← hq] at HR5
      have HPL := Lib.hid (hpl.trans hq.symm)
      clear hown hb hpl hq HO4 HB4 HR4
      obtain ⟨o5, off5, rfl, _⟩ := (rd_cells HR5.out).2 hq0
      have H5 := Lib.hid (rd_news HR5.out)
      have H6 := Lib.hid (show ((packB (heldN 1) (bitsN bs)).map u8v).length = q * 1 by rw [List.length_map, HPL.out, Nat.mul_one])
      have H7 := Lib.hid (ones_u8 (packB (heldN 1) (bitsN bs)))
      have hs5 := Lib.hid HB5.out.size
      go_wp2_with (at_builtin; go_must (refine wpList_append_own _ rfl _ _ 27 rfl w.heap.size 5 i0 (.int .u8 0) 1 1 Try.underlying27 hi hz0 hz1 hz2 rfl (by decide) _ _ _ rfl HO5.out ⟨o5, off5, none⟩ q cap5 _ rfl H6.out H5.out H7.out (by unfold maxLen; omega) (by omega) hs5.out ?_); intro v' w6 hown' hgrow _)
      have HO' := Lib.hid hown'
      have HG' := Lib.hid hgrow
      clear hown' hgrow
      go_wp2
      go_ret
      refine ret_own (n := n + 1 + q) (v := v') (E := 5) (B := w.heap.size) ?_ (below_own HB5.out HO5.out HG'.out)
      rw [HE.out, List.map_append, List.map_append]
      exact HO'.out

end Go.Proofs.Ytdelcaijehcaeaa
