/-
  Contracts of fresh's list at values, of fresh.Row.
-/
import Derived.Test.YtnfjdoeemnhkbaaLseven
import Derived.Test.YtnfjdoeemnhkbaaFrvo
import Derived.Test.YtnfjdoeemnhkbaaLsix
namespace Go.Proofs.Ytnfjdoeemnhkbaa
set_option linter.unusedVariables false
set_option linter.unusedSimpArgs false
open Go.RowKit

/-- A row that lies from block K on. -/
def RdRA (K : Nat) (w : World) (v : Value) (l : List (Vc × Value)) : Prop := RdSK K w 4 v (l.map cellsV) ∧ (∀ t ∈ l, RdB K w t.2 t.1.b ∧ ∀ x ∈ t.1.b, x < 256) ∧ w.ownsRow K 36 4 v l.length (l.map cellsV).flatten ∧ ∀ t ∈ l, w.ownsRow K 5 1 t.2 t.1.b.length (t.1.b.map u8v)
theorem rdRA_of {K : Nat} {w : World} {v : Value} {l : List (Vc × Value)} (h : w.ownsRow K 36 4 v l.length (l.map cellsV).flatten) (hb : ∀ t ∈ l, w.ownsRow K 5 1 t.2 t.1.b.length (t.1.b.map u8v) ∧ ∀ x ∈ t.1.b, x < 256) : RdRA K w v l :=
  ⟨rdSK_own h (by rw [List.length_map]) (fun t ht => by obtain ⟨x, _, rfl⟩ := List.mem_map.1 ht; rfl), fun t ht => ⟨rdB_own (hb t ht).1, (hb t ht).2⟩, h, fun t ht => (hb t ht).1⟩
theorem RdRA.above {K K0 : Nat} {w w' : World} {v : Value} {l : List (Vc × Value)} (h : RdRA K w v l) (ha : Above K w w') (hk : K0 ≤ K) : RdRA K0 w' v l :=
  ⟨h.1.above ha hk, fun t ht => ⟨(h.2.1 t ht).1.above ha hk, (h.2.1 t ht).2⟩, own_above h.2.2.1 ha hk, fun t ht => own_above (h.2.2.2 t ht) ha hk⟩
theorem RdRA.rd {K : Nat} {w : World} {v : Value} {l : List (Vc × Value)} (h : RdRA K w v l) : RdP w v l := ⟨h.1.rd, fun t ht => ⟨(h.2.1 t ht).1.rd (Above.refl _ _), (h.2.1 t ht).2⟩⟩
theorem set4_take (xs : List Value) (m : Nat) (h : m + 4 ≤ xs.length) (v0 v1 v2 v3 : Value) : ((((xs.set m v0).set (m + 1) v1).set (m + 2) v2).set (m + 3) v3).take (m + 4) = xs.take m ++ [v0, v1, v2, v3] := by
  obtain ⟨A, B, rfl, hA⟩ : ∃ A B, xs = A ++ B ∧ A.length = m := ⟨xs.take m, xs.drop m, (List.take_append_drop m xs).symm, by rw [List.length_take]; omega⟩
  subst hA
  rw [List.length_append] at h
  obtain ⟨b0, b1, b2, b3, C, rfl⟩ : ∃ b0 b1 b2 b3 C, B = b0 :: b1 :: b2 :: b3 :: C := by
    match B, h with
    | b0 :: b1 :: b2 :: b3 :: C, _ => exact ⟨b0, b1, b2, b3, C, rfl⟩
    | [], h => exfalso; simp only [List.length_cons, List.length_nil] at h; omega
    | [_], h => exfalso; simp only [List.length_cons, List.length_nil] at h; omega
    | [_, _], h => exfalso; simp only [List.length_cons, List.length_nil] at h; omega
    | [_, _, _], h => exfalso; simp only [List.length_cons, List.length_nil] at h; omega
  simp [List.set_append, List.take_append]
  exact List.take_of_length_le (by omega)
theorem infoVal4r : (Try.prog.info? 36).map (fun i => (i.zero, i.size, i.bytes)) = some (some (.agg #[.bool false, .int .i64 0, .int .i64 0, .slice none 0 0]), 4, 48) := by kernel_rfl

set_option maxRecDepth 100000 in
set_option maxHeartbeats 8000000 in
theorem flist_any (l : List (Vc × Value)) (hl : l.length ≤ 1000000) (v : Value) (w : World) (hr : RdP w v l) (hbig : ∀ t ∈ l, t.1.b.length ≤ 1000000) :
    Calls Try.prog 83 #[v, .func (.func 84) #[] #[]] w fun e w' => ∃ v' l', e = .returned v' ∧ l'.map Prod.fst = l.map Prod.fst ∧ RdRA w.heap.size w' v' l' ∧ Below w.heap.size w w' := by
  obtain ⟨hs, hok⟩ := hr
  obtain ⟨ao, cap, rfl⟩ := rdS_shape hs
  obtain ⟨n, hN⟩ : ∃ n, n = l.length := ⟨_, rfl⟩
  rw [List.length_map, ← hN] at hs ⊢
  rw [← hN] at hl
  have HN := Lib.hid hN
  rcases Nat.eq_zero_or_pos n with h0 | hpos
  · subst h0
    have hle : l = [] := List.length_eq_zero_iff.1 hN.symm
    subst hle
    clear hN hs hok HN hbig
    go_enter Try.func83, Try.ntmps83
    go_wp2_with fail
    go_ret
    exact ⟨.slice none 0 0, [], rfl, rfl, rdRA_of (World.ownsRow_nil ..) (fun t ht => by cases ht), Below.refl _ _⟩
  have HS := Lib.hid hs
  have HOK := Lib.hid hok
  have HBIG := Lib.hid hbig
  clear hs hok hbig hN
  obtain ⟨i0, hi, hz0, hz1, hz2⟩ := info_parts infoVal4r
  go_enter Try.func83, Try.ntmps83
  go_wp2_with (at_make; go_must (refine wpList_make_full _ rfl _ _ 33 rfl w.heap.size 36 i0 _ 4 Try.underlying33 hi hz0 hz1 .i64 .i64 _ _ n rfl rfl rfl rfl (by rw [hz2]; omega) (by unfold maxLen; omega) (Nat.le_refl _) ?_); intro w1 hown1 hgrow1)
  have HO1 := Lib.hid hown1
  have HB1 := Lib.hid (show Below w.heap.size w w1 from ⟨hgrow1.os, hgrow1.tape, hgrow1.output, hgrow1.size, fun i hi => hgrow1.block i hi (by simp)⟩)
  obtain ⟨xs0, hxs0⟩ : ∃ xs0, xs0 = (madeCells (Value.agg #[.bool false, .int .i64 0, .int .i64 0, .slice none 0 0]).cells (n * 4)).toList := ⟨_, rfl⟩
  rw [← hxs0] at HO1
  obtain ⟨G, hG⟩ : ∃ G, G = w.heap.size := ⟨_, rfl⟩
  have HGG := Lib.hid hG
  rw [← hG] at HO1 ⊢
  have HGI := Lib.hid (own_lt' HO1.out)
  clear hown1 hgrow1 hxs0 hG hi hz0 hz1 hz2
  go_wp2_with fail
  go_loopw [16] (fun i wr => ∃ q : Nat, ∃ (l1 : List (Vc × Value)) (xs : List Value), q ≤ n ∧ i = .int .i64 (q : Int) ∧ xs.length = n * 4 ∧ xs.take (q * 4) = (l1.map cellsV).flatten ∧ l1.map Prod.fst = (l.take q).map Prod.fst ∧ (∀ t ∈ l1, wr.ownsRow (G + 1) 5 1 t.2 t.1.b.length (t.1.b.map u8v) ∧ ∀ x ∈ t.1.b, x < 256) ∧ wr.ownsRow G 36 4 (.slice (some ⟨G, 0, none⟩) n n) n xs ∧ G < wr.heap.size ∧ Below w.heap.size w wr) (fun i _ => n - (intOf i).toNat)
  case atStart => exact ⟨0, [], xs0, Nat.zero_le _, rfl, HO1.out.1, by simp, by simp, (fun t ht => by cases ht), HO1.out, HGI.out, HB1.out⟩
  case round =>
    obtain ⟨q, l1, xs, hq, rfl, hxl, hxt, hlf, hra, hown, hgs, hbw⟩ := hrel
    have HXL := Lib.hid hxl
    have HXT := Lib.hid hxt
    have HLF := Lib.hid hlf
    have HRA := Lib.hid hra
    have HO := Lib.hid hown
    have HGS := Lib.hid hgs
    have HB := Lib.hid hbw
    clear hxl hxt hlf hra hown hgs hbw
    by_cases hlt : q < n
    · obtain ⟨t, ht⟩ : ∃ t, l[q]? = some t := ⟨_, List.getElem?_eq_getElem (by rw [← HN.out]; exact hlt)⟩
      have HTK := Lib.hid (show (l.take (q + 1)).map Prod.fst = (l.take q).map Prod.fst ++ [t.1] by rw [List.take_add_one, ht, List.map_append]; rfl)
      have hok := HOK.out t (List.mem_of_getElem? ht)
      have hbg := HBIG.out t (List.mem_of_getElem? ht)
      obtain ⟨b, off, rfl, hcell⟩ := (HS.out.kept HB.out).at (k := q) (t := cellsV t) (by rw [List.getElem?_map, ht]; rfl)
      have HCALL := Lib.hid (fval_own t (wr.alloc (.cells (cellsV t).toArray 36)) (hok.kept (below_lay HB.out _)) hbg)
      obtain ⟨sa, sc, hes⟩ := rd_shape8 hok.1
      obtain ⟨⟨tu, tk, tn, bs⟩, sl⟩ := t
      simp only at hes
      subst hes
      unfold cellsV at hcell HCALL
      unfold aggV at HCALL
      simp only at hcell
      try simp only at HCALL
      have HT256 := Lib.hid (show ∀ x ∈ bs, x < 256 from hok.2)
      have k0 : wr.cell? ⟨b, off + q * 4, none⟩ = some (.bool tu) := by have h := hcell 0 _ rfl; simpa using h
      have k1 : wr.cell? ⟨b, off + q * 4 + 1, none⟩ = some (.int .i64 tk) := hcell 1 _ rfl
      have k2 : wr.cell? ⟨b, off + q * 4 + 2, none⟩ = some (.int .i64 tn) := hcell 2 _ rfl
      have k3 : wr.cell? ⟨b, off + q * 4 + 3, none⟩ = some (.slice sa bs.length sc) := hcell 3 _ rfl
      clear hok hbg hcell ht
      have HSZ := Lib.hid (show (wr.alloc (.cells #[.bool tu, .int .i64 tk, .int .i64 tn, .slice sa bs.length sc] 36)).heap.size = wr.heap.size + 1 by simp)
      go_wp2_with fail
      refine HCALL.out.mono ?_
      rintro e w2 ⟨s2, rfl, hrb, hb2⟩
      have HRB := Lib.hid (show w2.ownsRow (wr.heap.size + 1) 5 1 s2 bs.length (bs.map u8v) from by have h := hrb; simp at h; exact h)
      have HGW := Lib.hid (below_then (below_alloc wr _) hb2)
      obtain ⟨sa', sc', hes'⟩ := own_shp hrb
      try simp only at hes'
      subst hes'
      have HO2 := Lib.hid (show w2.ownsRow G 36 4 (.slice (some ⟨G, 0, none⟩) n n) n xs from HO.out.kept (⟨HGW.out.os, HGW.out.tape, HGW.out.output, HGW.out.size, fun i hi _ => HGW.out.block i hi⟩ : wr.grownBy w2 none) (.inr (by simp [Value.ownBlock])))
      have hx : ∀ j, j < 4 → ∃ u, w2.cell? ⟨G, q * 4 + j, none⟩ = some u := fun j hj => by
        have hlt2 : q * 4 + j < xs.length := by rw [HXL.out]; omega
        exact ⟨_, (HO2.out.cellAt (q * 4 + j) (by omega)).trans (List.getElem?_eq_getElem hlt2)⟩
      obtain ⟨u0, c0⟩ := hx 0 (by decide)
      obtain ⟨u1, c1⟩ := hx 1 (by decide)
      obtain ⟨u2, c2⟩ := hx 2 (by decide)
      obtain ⟨u3, c3⟩ := hx 3 (by decide)
      have f0 := HO2.out.frozenAt (q * 4 + 0)
      have f1 := HO2.out.frozenAt (q * 4 + 1)
      have f2 := HO2.out.frozenAt (q * 4 + 2)
      have f3 := HO2.out.frozenAt (q * 4 + 3)
      simp only [Nat.add_zero] at c0 f0
      clear hrb hb2 hx k0 k1 k2 k3
      go_wp2_with fail
      go_roundw
      case rel =>
        have hst := (((((HO2.out.stored (q * 4) (.bool tu)).1.stored (q * 4 + 1) (.int .i64 tk)).1.stored (q * 4 + 2) (.int .i64 tn)).1.stored (q * 4 + 3) (.slice sa' bs.length sc')).1)
        have hset : ∀ K i u (wx : World), G < K → Above K w2 wx → Above K w2 (wx.setCell ⟨G, i, none⟩ u) := fun K i u wx hK h => above_set h _ _ hK
        have hab : ∀ K (hK : G < K), Above K w2 _ := fun K hK => hset K (q * 4 + 3) (.slice sa' bs.length sc') _ hK (hset K (q * 4 + 2) (.int .i64 tn) _ hK (hset K (q * 4 + 1) (.int .i64 tk) _ hK (hset K (q * 4) (.bool tu) _ hK (Above.refl _ _))))
        have hgl := HGS.out
        have hsz2 := HGW.out.size
        refine ⟨q + 1, l1 ++ [(⟨tu, tk, tn, bs⟩, .slice sa' bs.length sc')], _, by omega, by go_num, ?_, ?_, ?_, ?_, hst, ?_, ?_⟩
        · simp only [List.length_set]; exact HXL.out
        · rw [List.map_append, List.flatten_append, ← HXT.out, show (q + 1) * 4 = q * 4 + 4 by omega]
          exact set4_take xs (q * 4) (by rw [HXL.out]; omega) _ _ _ _
        · rw [List.map_append, HLF.out, HTK.out]; rfl
        · intro t ht
          rcases List.mem_append.1 ht with h | h
          · exact ⟨own_above (HRA.out t h).1 ((above_below HGW.out).trans hsz2 (hab _ (by omega))) (Nat.le_refl _), (HRA.out t h).2⟩
          · rw [List.mem_singleton.1 h]
            exact ⟨own_above HRB.out (hab _ (by omega)) (by omega), HT256.out⟩
        · simp [World.setCell]; omega
        · have h0 := below_then HB.out HGW.out
          have hgs : ∀ i u (wx : World), Below w.heap.size w wx → Below w.heap.size w (wx.setCell ⟨G, i, none⟩ u) := fun i u wx h => h.setCell (p := ⟨G, i, none⟩) (by show _ ≤ G; have := HGG.out; omega) _
          exact hgs _ _ _ (hgs _ _ _ (hgs _ _ _ (hgs _ _ _ h0)))
      case measure => simp [intOf]; omega
    · have hqn : q = n := by omega
      have htk : l.take q = l := List.take_of_length_le (by rw [← HN.out]; omega)
      have HF := Lib.hid (show l1.map Prod.fst = l.map Prod.fst ∧ RdRA w.heap.size wr (.slice (some ⟨G, 0, none⟩) n n) l1 ∧ Below w.heap.size w wr from by
        have h1 := HLF.out
        rw [htk] at h1
        have h2 := HXT.out
        rw [hqn, List.take_of_length_le (by rw [HXL.out]; exact Nat.le_refl _)] at h2
        have h3 := HO.out
        rw [h2] at h3
        have h4 : l1.length = l.length := by have := congrArg List.length h1; simpa using this
        rw [show n = l1.length by rw [h4, HN.out]] at h3
        refine ⟨h1, ?_, HB.out⟩
        rw [← HGG.out, show n = l1.length by rw [h4, HN.out]]
        exact rdRA_of h3 (fun t ht => ⟨own_above (HRA.out t ht).1 (Above.refl _ _) (Nat.le_succ _), (HRA.out t ht).2⟩))
      clear htk hqn
      go_wp2_with fail
      go_ret
      exact ⟨_, l1, rfl, HF.out⟩

set_option maxRecDepth 100000 in
set_option maxHeartbeats 4000000 in
theorem frow_any (l : List (Vc × Value)) (hl : l.length ≤ 1000000) (v : Value) (w : World) (hr : RdP w v l) (hbig : ∀ t ∈ l, t.1.b.length ≤ 1000000) :
    Calls Try.prog 47 #[v] w fun e w' => ∃ v' l', e = .returned v' ∧ l'.map Prod.fst = l.map Prod.fst ∧ RdRA w.heap.size w' v' l' ∧ Below w.heap.size w w' := by
  obtain ⟨ao, cap, rfl⟩ := rdS_shape hr.1
  rw [List.length_map] at hr ⊢
  have HC := Lib.hid (flist_any l hl _ w hr hbig)
  obtain ⟨n, hn⟩ : ∃ n, n = l.length := ⟨_, rfl⟩
  rw [← hn] at HC ⊢
  clear hr hbig hn hl
  go_enter Try.func47, Try.ntmps47
  go_wp2_with fail
  refine HC.out.mono ?_
  rintro e w2 ⟨v', l', rfl, h1, h2, hb2⟩
  obtain ⟨ao', cap', hs'⟩ := rdS_shape h2.1.rd
  rw [List.length_map] at hs'
  subst hs'
  obtain ⟨m, hm⟩ : ∃ m, m = l'.length := ⟨_, rfl⟩
  rw [← hm] at h2 ⊢
  have H1 := Lib.hid h1
  have H2 := Lib.hid h2
  have HB := Lib.hid hb2
  clear h1 h2 hb2 HC hm
  go_wp2_with fail
  go_ret
  exact ⟨_, l', rfl, H1.out, H2.out, HB.out⟩

end Go.Proofs.Ytnfjdoeemnhkbaa
