/-
  Contract of layer 9's Rows of the law.
-/
import Derived.Test.YtnfjdoeemnhkbaaZof2
import Derived.Test.YtnfjdoeemnhkbaaNormSame
namespace Go.Proofs.Ytnfjdoeemnhkbaa
set_option linter.unusedVariables false
set_option linter.unusedSimpArgs false
open Go.RowKit

theorem oinv_own {w w' : World} {l : List (Vc × Value)} {v : Value} (h : OInv w l v w') (hne : 0 < l.length) : ∃ g cap, v = .slice (some ⟨g, 0, none⟩) l.length cap := by
  rcases h.own.2 with ⟨_, h0⟩ | ⟨g, cap, cur, hv, _⟩
  · omega
  · exact ⟨g, cap, hv⟩
/-- The law's Row hands back that row, its own. -/
theorem row_own (v : Value) (cols : List Co) (hne : 0 < cols.length) (n : Int) (w : World) (hv : RdC w v cols) (hl : cols.length ≤ 6) :
    Calls Try.prog 19 #[.agg #[v], .int .i64 n] w fun e w' => ∃ (g cap : Nat) (l : List (Vc × Value)), e = .returned (.slice (some ⟨g, 0, none⟩) cols.length cap) ∧ l.map Prod.fst = rowOf cols n ∧ w'.ownsRow w.heap.size 36 4 (.slice (some ⟨g, 0, none⟩) cols.length cap) cols.length (l.map cellsV).flatten ∧ (∀ t ∈ l, RdB w.heap.size w' t.2 t.1.b ∧ (∀ x ∈ t.1.b, x < 256) ∧ FarV g t) ∧ Below w.heap.size w w' := by
  refine (row_is v cols n w hv hl).mono ?_
  rintro e w' ⟨u, l, rfl, h1, h2, h3, h4⟩
  have hlen : l.length = cols.length := by have := congrArg List.length h1; rw [List.length_map, rowOf_len] at this; exact this
  obtain ⟨g, cap, rfl⟩ := oinv_own h2 (by omega)
  have ho := h2.own
  rw [hlen] at ho
  refine ⟨g, cap, l, by rw [hlen], h1, ho, fun t ht => ⟨rdB_fresh (h2.ok t ht).1 (h4 t ht), (h2.ok t ht).2, h2.far t ht g rfl⟩, h3⟩
theorem rdB_set {K : Nat} {w : World} {t : Vc × Value} {g i : Nat} {u : Value} (h : RdB K w t.2 t.1.b) (hf : FarV g t) : RdB K (w.setCell ⟨g, i, none⟩ u) t.2 t.1.b := by
  obtain ⟨ao, cap, hv, hn, hc⟩ := h
  refine ⟨ao, cap, hv, hn, fun hp => ?_⟩
  obtain ⟨b, off, ha, hk, hcell⟩ := hc hp
  refine ⟨b, off, ha, hk, fun j hj => ?_⟩
  have hne : b ≠ g := hf (fun e => by rw [e] at hp; cases hp) ⟨b, off, none⟩ _ _ (by rw [hv, ha])
  rw [← hcell j hj]
  exact World.cell?_of_block (heap_setCell_other w ⟨g, i, none⟩ b u hne)
theorem flat_set2 {t : Vc × Value} {r : List (Vc × Value)} (x : Int) : (((t :: r).map cellsV).flatten).set 2 (.int .i64 x) = (((⟨t.1.u, t.1.k, x, t.1.b⟩, t.2) :: r).map cellsV).flatten := by
  obtain ⟨⟨u, k, n, b⟩, s⟩ := t
  rfl
/-- Rows of numbers, of unlike keys, rising. -/
def rows9 (cols : List Co) (l : List Int) : List (List Vc) := (l.take 40).mapIdx fun i n => (rowOf cols n).set 0 ⟨false, 1, (i : Int) * 3 + n % 2, []⟩

theorem elmRows : Elm Try.prog 27 33 1 24 := by
  have h : (Try.prog.info? 33).map (fun i => (i.zero, i.size, i.bytes)) = some (some (.slice none 0 0), 1, 24) := by kernel_rfl
  cases hq : Try.prog.info? 33 with
  | none => rw [hq] at h; cases h
  | some i =>
    rw [hq] at h
    simp only [Option.map_some, Option.some.injEq, Prod.mk.injEq] at h
    exact ⟨Try.underlying27, ⟨i, _, hq, h.1, h.2.1, h.2.2, rfl⟩, by decide, by decide⟩
/-- A row of rows, one's own, whose rows stay whatever becomes of its block. -/
def OwnR (B : Nat) (w : World) (v : Value) (L : List (List (Vc × Value))) : Prop :=
  ∃ sls, w.ownsRow B 33 1 v L.length sls ∧ sls.length = L.length ∧ ∀ (i : Nat) (s : Value) (l : List (Vc × Value)), sls[i]? = some s → L[i]? = some l → Free (fun b => v.ownBlock = some b) w (fun w' => RdP w' s l)
theorem OwnR.rd {B : Nat} {w : World} {v : Value} {L : List (List (Vc × Value))} (h : OwnR B w v L) : RdRs w v L := by
  obtain ⟨sls, h1, h2, h3⟩ := h
  exact ⟨sls, Rd.of_owns h1, h2, fun i s l hs hl => (h3 i s l hs hl).now⟩
theorem ownR_push {B K : Nat} {wr w3 w4 : World} {o3 : Obj} {v v4 s : Value} {L : List (List (Vc × Value))} {sls : List Value} {l : List (Vc × Value)}
    (hown : wr.ownsRow B 33 1 v L.length sls) (hlen : sls.length = L.length) (hel : ∀ (i : Nat) (s : Value) (l : List (Vc × Value)), sls[i]? = some s → L[i]? = some l → Free (fun b => v.ownBlock = some b) wr (fun w' => RdP w' s l))
    (hag : Below wr.heap.size wr w3) (hs : ∀ w', Above wr.heap.size w3 w' → RdP w' s l)
    (hg : (w3.alloc o3).grownBy w4 v.ownBlock) (hnew : ∀ g, v4.ownBlock = some g → v.ownBlock = some g ∨ g = (w3.alloc o3).heap.size)
    (h4 : w4.ownsRow B 33 1 v4 (L.length + 1) (sls ++ [s])) : OwnR B w4 v4 (L ++ [l]) := by
  have hsz : (w3.alloc o3).heap.size = w3.heap.size + 1 := by simp
  have hag4 : Agree (fun b => v.ownBlock = some b) wr w4 := ((Agree.refl _ wr).thenBelow hag).alloc o3 |>.thenGrown hg fun i _ h => h
  have hold : ∀ b, v.ownBlock = some b → b < wr.heap.size := fun b hb => (hown.lt b hb).2
  refine ⟨sls ++ [s], by rw [List.length_append]; exact h4, by rw [List.length_append, List.length_append, hlen]; rfl, fun i t lt hi hli => ?_⟩
  by_cases hlt : i < sls.length
  · rw [List.getElem?_append_left hlt] at hi
    rw [List.getElem?_append_left (by rw [← hlen]; exact hlt)] at hli
    refine (hel i t lt hi hli).to hag4 (fun b _ h => h) fun b hb h => ?_
    rcases hnew b h with h | h
    · exact h
    · have := hag.size; omega
  · have hi1 : i = sls.length := by
      have := (List.getElem?_eq_some_iff.1 hi).1
      rw [List.length_append] at this
      simp at this
      omega
    rw [List.getElem?_append_right (by omega), hi1, Nat.sub_self] at hi
    rw [List.getElem?_append_right (by rw [← hlen]; omega), ← hlen, hi1, Nat.sub_self] at hli
    cases hi
    cases hli
    intro w' ha
    have h34 : Agree (fun b => v.ownBlock = some b) w3 w4 := (agree_alloc _ w3 o3).thenGrown hg fun i _ h => h
    refine hs w' fun b h1 h2 => (ha.block b (Nat.lt_of_lt_of_le h2 h34.size) fun h => ?_).trans (h34.block b h2 fun h => by have := hold b h; omega)
    rcases hnew b h with h | h
    · have := hold b h; omega
    · omega

set_option maxRecDepth 100000 in
set_option maxHeartbeats 8000000 in
theorem rows9_any (cols : List Co) (hok : ColsOk cols) (l : List Int) (sv : Value) (oa : Option Addr) (ln oc : Nat) (hln : ln = l.length) (w : World) (hv : RdC w sv cols) (hr : Rd w (.slice oa ln oc) (l.map (Value.int .i64))) :
    Calls Try.prog 10 #[.agg #[sv], .slice oa ln oc] w fun e w' => ∃ v L, e = .returned v ∧ L.map (fun x => x.map Prod.fst) = rows9 cols l ∧ RdRs w' v L ∧ Below w.heap.size w w' := by
  obtain ⟨sa, sc, rfl⟩ := rdC_shape hv
  obtain ⟨n, hN⟩ : ∃ n, n = cols.length := ⟨_, rfl⟩
  rw [← hN] at hv ⊢
  have HN := Lib.hid hN
  have HV := Lib.hid hv
  have HR := Lib.hid hr
  have HLN := Lib.hid hln
  have HOK := Lib.hid hok
  have hn0 : 0 < n := by rw [hN]; exact hok.ne
  have hn0i : (0 : Int) < (n : Int) := by omega
  have b1 : ∀ x, bits .and .i64 x 1 = x % 2 := fun x => and_low x 1 (by decide) 1 rfl
  clear hN hv hr hln hok
  go_enter Try.func10, Try.ntmps10
  go_upto_region 1 with (fail)
  obtain ⟨W, hW⟩ : ∃ W : World, W = w.alloc (.cells #[.slice sa n sc] 25) := ⟨_, rfl⟩
  rw [← hW]
  have HX0 := Lib.hid (show W.heap[w.heap.size]? = some (.cells #[.slice sa n sc] 25 (0, 0)) by rw [hW]; exact heap_alloc_new w _)
  have HB0 := Lib.hid (show Below w.heap.size w W by rw [hW]; exact below_alloc w _)
  obtain ⟨SB, hSB⟩ : ∃ SB, SB = w.heap.size := ⟨_, rfl⟩
  rw [← hSB] at HX0 ⊢
  clear hW hSB
  go_wp2_with fail
  go_loopw [5, 6] (fun o i wr => ∃ (q : Nat) (ao : Option Addr) (cap : Nat) (L : List (List (Vc × Value))), q ≤ 40 ∧ q ≤ ln ∧ i = .int .i64 (q : Int) ∧ o = .slice ao q cap ∧ L.length = q ∧ L.map (fun x => x.map Prod.fst) = (rows9 cols l).take q ∧ OwnR W.heap.size wr (.slice ao q cap) L ∧ Below W.heap.size W wr) (fun _ i _ => 40 - (intOf i).toNat)
  case atStart => exact ⟨0, none, 0, [], by omega, Nat.zero_le _, rfl, rfl, rfl, by simp, ⟨[], World.ownsRow_nil .., rfl, fun i s l h => by simp at h⟩, Below.refl _ _⟩
  case round =>
    obtain ⟨q, ao, cap, L, hq, hql, rfl, rfl, hll, hlm, hown, hb⟩ := hrel
    have HLL := Lib.hid hll
    have HLM := Lib.hid hlm
    have HO := Lib.hid hown
    have HB := Lib.hid hb
    have HXr := Lib.hid ((hb.block SB (Array.getElem?_eq_some_iff.1 HX0.out).1).trans HX0.out)
    have HBw := Lib.hid (below_then HB0.out hb)
    clear hll hlm hown hb
    by_cases hlt : q < ln ∧ q < 40
    · obtain ⟨hlt1, hlt2⟩ := hlt
      have hd1 : decide ((q : Int) < (ln : Int)) = true := by rw [decide_eq_true_eq]; omega
      have hd1n : decide (q < ln) = true := by rw [decide_eq_true_eq]; omega
      have hd1i : (q : Int) < (ln : Int) := by omega
      have hd2 : decide ((q : Int) < 40) = true := by rw [decide_eq_true_eq]; omega
      have hl0 : (0 : Int) ≤ (q : Int) := by omega
      obtain ⟨b, off, rfl, hcells⟩ := (rdz_cells (HR.out.kept HBw.out)).2 (by omega)
      have hcn := hcells q hlt1
      obtain ⟨rn, hrn⟩ : ∃ rn, rn = l.getD q 0 := ⟨_, rfl⟩
      rw [← hrn] at hcn
      have HRN := Lib.hid (show l[q]? = some rn by rw [hrn, List.getD_eq_getElem?_getD, List.getElem?_eq_getElem (by rw [← HLN.out]; exact hlt1)]; rfl)
      have hcs : wr.cell? ⟨SB, 0, none⟩ = some (.slice sa n sc) := by rw [cell_of_row wr SB 0 _ _ _ HXr.out]; rfl
      have HROW := Lib.hid fun W (h : Below wr.heap.size wr W) => row_own (.slice sa n sc) cols HOK.out.ne rn W (RdC.kept (RdC.kept HV.out HBw.out) h) HOK.out.le
      rw [← HN.out] at HROW
      clear hcells hrn
      go_upto_region 5 with (fail)
      go_region_law (go_simp; go_at_call 19; refine (HROW.out _ ?_).mono ?_; (exact below_drw _ _); rintro e w2 ⟨rg, rc, rl, rfl, hrl, hrown, hrv, hb2⟩; have HRL := Lib.hid hrl; have HRO := Lib.hid hrown; have HRV := Lib.hid hrv; have HB2R := Lib.hid (show Below wr.heap.size wr w2 from (below_drw _ wr).trans hb2); have hcn2 : w2.cell? ⟨b, off + q, none⟩ = some (.int .i64 rn) := (HB2R.out.cell (World.block_lt_of_cell? _ _ hcn)).trans hcn; have hrc2 : ∃ u, w2.cell? ⟨rg, 2, none⟩ = some u := ⟨_, (hrown.cellAt 2 (by omega)).trans (List.getElem?_eq_getElem (by have := hrown.1; omega))⟩; obtain ⟨ru, hrc3⟩ := hrc2; have hrf := hrown.frozenAt 2; clear hrl hrown hrv hb2)
      all_goals
        go_upto_region 7 with (fail)
        obtain ⟨sls, ho1, ho2, ho3⟩ := HO.out
        obtain ⟨t0, rr, hl0c⟩ : ∃ t0 rr, rl = t0 :: rr := by
          have hrl := HRL.out
          match rl, hrl with
          | [], h => exact absurd (congrArg List.length h) (by rw [rowOf_len, ← HN.out]; simp; omega)
          | t :: r, _ => exact ⟨t, r, rfl⟩
        obtain ⟨w3, hw3⟩ : ∃ w3, w3 = w2.setCell ⟨rg, 2, none⟩ (.int .i64 ((q : Int) * 3 + rn % 2)) := ⟨_, rfl⟩
        rw [← hw3]
        have hrg : wr.heap.size ≤ rg := (HRO.out.lt rg rfl).1
        have HB3 := Lib.hid (show Below wr.heap.size wr w3 by rw [hw3]; exact HB2R.out.setCell (p := ⟨rg, 2, none⟩) hrg _)
        have HRP := Lib.hid (show ∀ w', Above wr.heap.size w3 w' → RdP w' (.slice (some ⟨rg, 0, none⟩) n rc) ((⟨t0.1.u, t0.1.k, (q : Int) * 3 + rn % 2, t0.1.b⟩, t0.2) :: rr) from fun w' ha => by
          have hst := (HRO.out.stored 2 (.int .i64 ((q : Int) * 3 + rn % 2))).1
          rw [hl0c, flat_set2, ← hw3] at hst
          have hlen : n = ((⟨t0.1.u, t0.1.k, (q : Int) * 3 + rn % 2, t0.1.b⟩, t0.2) :: rr : List (Vc × Value)).length := by
            have := congrArg List.length HRL.out
            rw [hl0c, List.length_map, rowOf_len] at this
            rw [HN.out, ← this]
            rfl
          refine ⟨((rdSK_own hst (by rw [List.length_map]; exact hlen) (fun t ht => by obtain ⟨x, _, rfl⟩ := List.mem_map.1 ht; rfl)).above ha (Nat.le_refl _)).rd, fun t ht => ?_⟩
          have hv : ∀ t ∈ t0 :: rr, RdB wr.heap.size w3 t.2 t.1.b ∧ ∀ x ∈ t.1.b, x < 256 := fun t ht => by
            obtain ⟨h1, h2, h3⟩ := HRV.out t (hl0c ▸ ht)
            rw [hw3]
            exact ⟨rdB_set h1 h3, h2⟩
          rcases List.mem_cons.1 ht with rfl | h
          · obtain ⟨h1, h2⟩ := hv t0 List.mem_cons_self
            exact ⟨(h1.above ha (Nat.le_refl _)).rd (Above.refl _ _), h2⟩
          · obtain ⟨h1, h2⟩ := hv t (List.mem_cons_of_mem _ h)
            exact ⟨(h1.above ha (Nat.le_refl _)).rd (Above.refl _ _), h2⟩)
        have HPL := Lib.hid (show L.map (fun x => x.map Prod.fst) ++ [((⟨t0.1.u, t0.1.k, (q : Int) * 3 + rn % 2, t0.1.b⟩, t0.2) :: rr : List (Vc × Value)).map Prod.fst] = (rows9 cols l).take (q + 1) by
          rw [HLM.out, List.take_add_one]
          unfold rows9
          rw [List.getElem?_mapIdx, List.getElem?_take_of_lt hlt2, HRN.out]
          have h1 := HRL.out
          rw [hl0c, List.map_cons] at h1
          obtain ⟨c, hc, hk⟩ := rowOf_k HOK.out rn (i := 0) (x := t0.1) (by rw [← h1]; rfl)
          have he := rowOf_at cols rn 0
          rw [hc, ← h1] at he
          simp only [List.getElem?_cons_zero, Option.map_some, Option.some.injEq] at he
          have hu : t0.1 = ⟨false, 1, rn % 16, []⟩ := by rw [he]; rfl
          simp only [Option.map_some, Option.toList_some]
          rw [← h1, List.set_cons_zero, List.map_cons, hu])
        obtain ⟨L2, hL2⟩ : ∃ L2, L2 = ((⟨t0.1.u, t0.1.k, (q : Int) * 3 + rn % 2, t0.1.b⟩, t0.2) :: rr : List (Vc × Value)) := ⟨_, rfl⟩
        rw [← hL2] at HRP HPL
        have HOWN := Lib.hid ((ownsRow_agree (X := fun _ => False) ho1 ⟨HB3.out.os, HB3.out.tape, HB3.out.output, HB3.out.size, fun i hi _ => HB3.out.block i hi⟩ (fun _ _ h => h)).alloc (.cells #[.slice (some ⟨rg, 0, none⟩) n rc] 33))
        rw [HLL.out] at HOWN
        have HO1 := Lib.hid ho1
        have HO2 := Lib.hid ho2
        have HO3 := Lib.hid ho3
        have HRD := Lib.hid (rdS_lit w3 #[.slice (some ⟨rg, 0, none⟩) n rc] 33 1 rfl)
        have HON := Lib.hid (show Ones 1 [[Value.slice (some ⟨rg, 0, none⟩) n rc]] from fun t ht => by rw [List.mem_singleton.1 ht]; exact ⟨rfl, fun u hu => by rw [List.mem_singleton.1 hu]; rfl⟩)
        have HSZ := Lib.hid (show W.heap.size ≤ (w3.alloc (.cells #[.slice (some ⟨rg, 0, none⟩) n rc] 33)).heap.size by have := HB.out.size; have := HB3.out.size; simp; omega)
        clear ho1 ho2 ho3 hw3 hrg hl0c hL2 hcn2 hrc3 hrf
        go_wp2_with (at_builtin; go_must (refine wpList_append_k elmRows rfl _ _ rfl W.heap.size _ _ _ rfl HOWN.out _ [[.slice (some ⟨rg, 0, none⟩) n rc]] rfl HRD.out HON.out (by simp; omega) HSZ.out (q + 1) rfl ?_); intro ao4 cap4 w4 hown4 hgrow4 hnew4; have HO4 := Lib.hid hown4; have HG4 := Lib.hid hgrow4; have HN4 := Lib.hid hnew4; clear hown4 hgrow4 hnew4)
        go_roundw
        case rel =>
          refine ⟨q + 1, ao4, cap4, L ++ [L2], by omega, by omega, by go_num, rfl, by rw [List.length_append, HLL.out]; rfl, by rw [List.map_append]; exact HPL.out, ?_, ?_⟩
          · exact ownR_push (K := 0) HO1.out HO2.out HO3.out HB3.out HRP.out HG4.out HN4.out (by rw [HLL.out]; exact HO4.out)
          · exact (below_then HB.out HB3.out).alloc (Nat.le_trans HB.out.size HB3.out.size) _ |>.grown HG4.out HSZ.out (own_base HOWN.out)
        case measure => simp [intOf]; omega
    · have hd : (decide ((q : Int) < (ln : Int)) = false ∧ decide (q < ln) = false) ∨ (decide ((q : Int) < (ln : Int)) = true ∧ decide (q < ln) = true ∧ decide ((q : Int) < 40) = false ∧ decide (q < 40) = false) := by
        by_cases h : q < ln
        · have h2 : ¬ q < 40 := fun h2 => hlt ⟨h, h2⟩
          exact .inr ⟨by rw [decide_eq_true_eq]; omega, by rw [decide_eq_true_eq]; omega, by rw [decide_eq_false_iff_not]; omega, by rw [decide_eq_false_iff_not]; omega⟩
        · exact .inl ⟨by rw [decide_eq_false_iff_not]; omega, by rw [decide_eq_false_iff_not]; omega⟩
      have HF := Lib.hid (show L.map (fun x => x.map Prod.fst) = rows9 cols l by
        rw [HLM.out, List.take_of_length_le]
        unfold rows9
        rw [List.length_mapIdx, List.length_take, ← HLN.out]
        by_cases h : q < ln
        · have h2 : ¬ q < 40 := fun h2 => hlt ⟨h, h2⟩
          omega
        · omega)
      clear hlt
      rcases hd with ⟨hd1, hd2⟩ | ⟨hd1, hd2, hd3, hd4⟩
      all_goals
        go_wp2_with fail
        go_ret
        exact ⟨_, L, rfl, HF.out, HO.out.rd, HBw.out⟩

end Go.Proofs.Ytnfjdoeemnhkbaa
