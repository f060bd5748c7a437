/-
  Contract of the reference's ways, at leaves and at sums.
-/
import Derived.Test.YtfmkalnnpddefaaWaym
import Derived.Test.YtfmkalnnpddefaaInwd
namespace Go.Proofs.Ytfmkalnnpddefaa
set_option linter.unusedVariables false
set_option linter.unusedSimpArgs false
open Go.RowKit

set_option maxRecDepth 100000 in
set_option maxHeartbeats 8000000 in
theorem ways_leaf (k c o : Int) (v : Vc) (l : List Pt) (h4 : k ≠ 4) (h5 : k ≠ 5) : WaysOK (.mk k c o v l) := by
  intro cs X w hf
  have HF := Lib.hid hf
  have hr := hf.now
  unfold RdT1 at hr
  obtain ⟨s, ls, css, rfl, hok, hls, hts⟩ := hr
  obtain ⟨sa, sc, hes⟩ := rd_shape8 hok.1
  obtain ⟨ea, ec, hel⟩ := rdS_shape hls
  simp only at hes
  subst hes hel
  obtain ⟨vu, vk, vn, vb⟩ := v
  obtain ⟨n, hn⟩ : ∃ n, n = css.length := ⟨_, rfl⟩
  obtain ⟨m, hm⟩ : ∃ m, m = vb.length := ⟨_, rfl⟩
  have HW := Lib.hid (show waysT (.mk k c o ⟨vu, vk, vn, vb⟩ l) = some [[.mk k c o ⟨vu, vk, vn, vb⟩ l]] by rw [waysT, if_neg h5, if_neg h4])
  unfold cellsP at HF ⊢
  simp only at HF ⊢
  rw [← hn, ← hm] at HF ⊢
  replace h4 : (k == 4) = false := by rw [beq_eq_false_iff_ne]; exact h4
  replace h5 : (k == 5) = false := by rw [beq_eq_false_iff_ne]; exact h5
  clear hok hls hts hn hm hf
  go_enter Try.func69, Try.ntmps69
  go_wp2_with fail
  go_ret2
  refine ⟨?_, below3 w (.cells #[.int .i64 k, .int .i64 c, .int .i64 o, .bool vu, .int .i64 vk, .int .i64 vn, .slice sa m sc, .slice ea n ec] 31) (.cells #[.int .i64 k, .int .i64 c, .int .i64 o, .bool vu, .int .i64 vk, .int .i64 vn, .slice sa m sc, .slice ea n ec] 31) (.cells #[.slice (some ⟨w.heap.size + 1, 0, none⟩) 1 1] 29)⟩
  rw [HW.out]
  have hA : (((w.alloc (.cells #[.int .i64 k, .int .i64 c, .int .i64 o, .bool vu, .int .i64 vk, .int .i64 vn, .slice sa m sc, .slice ea n ec] 31)).alloc (.cells #[.int .i64 k, .int .i64 c, .int .i64 o, .bool vu, .int .i64 vk, .int .i64 vn, .slice sa m sc, .slice ea n ec] 31)).alloc (.cells #[.slice (some ⟨w.heap.size + 1, 0, none⟩) 1 1] 29)).heap[w.heap.size + 1]? = some (.cells #[.int .i64 k, .int .i64 c, .int .i64 o, .bool vu, .int .i64 vk, .int .i64 vn, .slice sa m sc, .slice ea n ec] 31 (0, 0)) := (heaps3 w _ _ _).1
  have hB : (((w.alloc (.cells #[.int .i64 k, .int .i64 c, .int .i64 o, .bool vu, .int .i64 vk, .int .i64 vn, .slice sa m sc, .slice ea n ec] 31)).alloc (.cells #[.int .i64 k, .int .i64 c, .int .i64 o, .bool vu, .int .i64 vk, .int .i64 vn, .slice sa m sc, .slice ea n ec] 31)).alloc (.cells #[.slice (some ⟨w.heap.size + 1, 0, none⟩) 1 1] 29)).heap[w.heap.size + 2]? = some (.cells #[.slice (some ⟨w.heap.size + 1, 0, none⟩) 1 1] 29 (0, 0)) := (heaps3 w _ _ _).2
  have ha3 : Agree X w (((w.alloc (.cells #[.int .i64 k, .int .i64 c, .int .i64 o, .bool vu, .int .i64 vk, .int .i64 vn, .slice sa m sc, .slice ea n ec] 31)).alloc (.cells #[.int .i64 k, .int .i64 c, .int .i64 o, .bool vu, .int .i64 vk, .int .i64 vn, .slice sa m sc, .slice ea n ec] 31)).alloc (.cells #[.slice (some ⟨w.heap.size + 1, 0, none⟩) 1 1] 29)) := (((Agree.refl X w).alloc _).alloc _).alloc _
  refine ⟨_, rfl, [.slice (some ⟨w.heap.size + 1, 0, none⟩) 1 1], fun w' ha => ?_, rfl, fun i s l' hs hl => ?_⟩
  · have hB' := (ha.block (w.heap.size + 2) (Array.getElem?_eq_some_iff.1 hB).1 (fun h => by have := h.2; omega)).trans hB
    refine ⟨some ⟨w.heap.size + 2, 0, none⟩, 1, rfl, ⟨(fun h => by cases h), by simp⟩, fun _ => ⟨w.heap.size + 2, 0, rfl, fun i hi => ?_⟩⟩
    have hi0 : i = 0 := by simpa using hi
    subst hi0
    rw [cell_of_row w' (w.heap.size + 2) _ _ _ _ hB']
    rfl
  · match i, hs, hl with
    | 0, hs, hl =>
      cases hs
      cases hl
      refine ⟨[[.int .i64 k, .int .i64 c, .int .i64 o, .bool vu, .int .i64 vk, .int .i64 vn, .slice sa m sc, .slice ea n ec]], fun w' ha => ⟨?_, rdTs_one ?_⟩⟩
      · have hA' := (ha.block (w.heap.size + 1) (Array.getElem?_eq_some_iff.1 hA).1 (fun h => by have := h.2; omega)).trans hA
        exact rdS_at w' (w.heap.size + 1) _ _ 8 1 _ hA' rfl (fun t ht => by rw [List.mem_singleton.1 ht]; rfl) rfl
      · exact RdT1F.free _ HF.out w' (ha3.then ha fun i hi h => h.1)
    | i + 1, hs, hl => simp at hs

set_option maxRecDepth 100000 in
set_option maxHeartbeats 8000000 in
theorem ways_5 (c o : Int) (v : Vc) (l : List Pt) (hl : ∀ q ∈ l, WaysOK q) (hll : l.length ≤ 1000) : WaysOK (.mk 5 c o v l) := by
  intro cs X w hf
  have HFX := Lib.hid hf
  unfold RdT1F at hf
  obtain ⟨s, ls, css, rfl, hok, hls, hts⟩ := hf
  have hokn := hok.now
  obtain ⟨sa, sc, hes⟩ := rd_shape8 hokn.1
  obtain ⟨ea, ec, hel⟩ := rdS_shape hls.now
  simp only at hes
  subst hes hel
  have hcl := rdTs_len hts.now
  obtain ⟨n, hN⟩ : ∃ n, n = l.length := ⟨_, rfl⟩
  obtain ⟨vu, vk, vn, vb⟩ := v
  obtain ⟨m, hm⟩ : ∃ m, m = vb.length := ⟨_, rfl⟩
  unfold cellsP
  simp only
  rw [hcl, ← hN] at hls ⊢
  rw [← hm]
  rw [← hN] at hll
  have HN := Lib.hid hN
  have HLS := Lib.hid hls
  have HTS := Lib.hid hts
  have HIH := Lib.hid hl
  clear hok hokn hls hts hm hcl hN hl HFX
  have HWT := Lib.hid (show waysT (.mk 5 c o ⟨vu, vk, vn, vb⟩ l) = waysS l [] by rw [waysT, if_pos rfl])
  go_enter Try.func69, Try.ntmps69
  go_wp2_with fail
  obtain ⟨W, hW⟩ : ∃ W : World, W = w.alloc (.cells #[.int .i64 5, .int .i64 c, .int .i64 o, .bool vu, .int .i64 vk, .int .i64 vn, .slice sa m sc, .slice ea n ec] 31) := ⟨_, rfl⟩
  rw [← hW]
  have HX0 := Lib.hid (show W.heap[w.heap.size]? = some (.cells #[.int .i64 5, .int .i64 c, .int .i64 o, .bool vu, .int .i64 vk, .int .i64 vn, .slice sa m sc, .slice ea n ec] 31 (0, 0)) by rw [hW]; exact heap_alloc_new w _)
  have HB0 := Lib.hid (show Below w.heap.size w W by rw [hW]; exact below_alloc w _)
  have HWS := Lib.hid (show W.heap.size = w.heap.size + 1 by rw [hW]; simp)
  obtain ⟨PB, hPB⟩ : ∃ PB, PB = w.heap.size := ⟨_, rfl⟩
  rw [← hPB] at HX0 ⊢
  have HPE := Lib.hid hPB
  clear hW hPB
  go_loopw [4, 5] (fun s i wr => ∃ (q : Nat) (oa : Option Addr) (k oc : Nat) (a : List (List Pt)), q ≤ n ∧ i = .int .i64 (q : Int) ∧ s = .slice oa k oc ∧ k = a.length ∧ waysS (l.take q) [] = some a ∧ OwnN X W.heap.size wr (.slice oa k oc) a ∧ Below W.heap.size W wr) (fun _ i _ => n - (intOf i).toNat)
  case atStart => exact ⟨0, none, 0, 0, [], Nat.zero_le _, rfl, rfl, rfl, by rw [List.take_zero, waysS], ownN_nil _ _ _, Below.refl _ _⟩
  case round =>
    obtain ⟨q, oa, k, oc, a, hq, rfl, rfl, hk, hm, hown, hbel⟩ := hrel
    have HK := Lib.hid hk
    have HM := Lib.hid hm
    have HO := Lib.hid hown
    have HBR := Lib.hid hbel
    have HBW := Lib.hid (below_then HB0.out hbel)
    have hk32 : k ≤ 32 := by rw [hk]; exact (waysS_small _ [] (by simp [SmallN]) hm).1
    have hx := (hbel.block PB (Array.getElem?_eq_some_iff.1 HX0.out).1).trans HX0.out
    have hpp : wr.cell? ⟨PB, 7, none⟩ = some (.slice ea n ec) := by rw [cell_of_row wr _ 7 _ _ _ hx]; rfl
    clear hk hm hown hbel hx
    by_cases hlt : q < n
    · obtain ⟨p, hp⟩ : ∃ p, l[q]? = some p := ⟨_, List.getElem?_eq_getElem (by rw [← HN.out]; exact hlt)⟩
      have hlti : (q : Int) < (n : Int) := by omega
      have hq0 : (0 : Int) ≤ (q : Int) := by omega
      have HTK := Lib.hid (show l.take (q + 1) = l.take q ++ [p] by rw [List.take_add_one, hp]; rfl)
      have HTD := Lib.hid (show l = l.take (q + 1) ++ l.drop (q + 1) from (List.take_append_drop _ _).symm)
      have HP := HIH.out p (List.mem_of_getElem? hp)
      obtain ⟨pcs, hpcs, hpf⟩ := HTS.out.at hp
      have hfr : RdT1F (fun b => X b ∨ w.heap.size ≤ b) wr p pcs := RdT1F.to (agree_below HBW.out HBW.out.size) (fun i h1 h2 => by omega) (fun i h1 h2 => h2.elim id fun h => by omega) p hpf
      have hrs : RdS wr 8 (.slice ea n ec) css := HLS.out wr ((agree_below HBW.out HBW.out.size).mono fun i h1 h2 => by omega)
      obtain ⟨r, hr⟩ : ∃ r, r = waysT p := ⟨_, rfl⟩
      have HR := Lib.hid hr
      have HCALL := Lib.hid (HP pcs _ wr hfr)
      rw [← hr] at HCALL
      have hrd := hfr.now
      have hat := hrs.at hpcs
      obtain ⟨pk, pc, po, pvk, pvn, pu, pa, pn, pm, pa2, pn2, pm2, rfl⟩ := rdT1_shape hrd
      obtain ⟨b1, f1, rfl, hcell⟩ := hat
      have m0 : wr.cell? ⟨b1, f1 + q * 8, none⟩ = some (.int .i64 pk) := hcell 0 _ rfl
      have m1 : wr.cell? ⟨b1, f1 + q * 8 + 1, none⟩ = some (.int .i64 pc) := hcell 1 _ rfl
      have m2 : wr.cell? ⟨b1, f1 + q * 8 + 2, none⟩ = some (.int .i64 po) := hcell 2 _ rfl
      have m3 : wr.cell? ⟨b1, f1 + q * 8 + 3, none⟩ = some (.bool pu) := hcell 3 _ rfl
      have m4 : wr.cell? ⟨b1, f1 + q * 8 + 4, none⟩ = some (.int .i64 pvk) := hcell 4 _ rfl
      have m5 : wr.cell? ⟨b1, f1 + q * 8 + 5, none⟩ = some (.int .i64 pvn) := hcell 5 _ rfl
      have m6 : wr.cell? ⟨b1, f1 + q * 8 + 6, none⟩ = some (.slice pa pn pm) := hcell 6 _ rfl
      have m7 : wr.cell? ⟨b1, f1 + q * 8 + 7, none⟩ = some (.slice pa2 pn2 pm2) := hcell 7 _ rfl
      clear hp hpcs hpf hfr hrs hr hrd hcell HP
      cases r with
      | none =>
        have HNO := Lib.hid (show waysS l [] = none by
          rw [HTD.out]
          refine waysS_none ?_
          rw [HTK.out, waysS_snoc, HM.out]
          simp only
          rw [← HR.out])
        go_wp2_with fail
        refine HCALL.out.mono ?_
        rintro e w2 ⟨hret, hb2⟩
        obtain rfl : e = .returned (.tuple #[.slice none 0 0, .bool false]) := hret
        have HF := Lib.hid (below_then HBW.out hb2)
        clear hb2
        go_wp2_with fail
        go_ret2
        exact ⟨by rw [HWT.out, HNO.out]; rfl, HF.out⟩
      | some mm =>
        go_wp2_with fail
        refine HCALL.out.mono ?_
        rintro e w2 ⟨hret, hb2⟩
        obtain ⟨v2, rfl, hv2⟩ : ∃ v, e = .returned (.tuple #[v, .bool true]) ∧ RdNF _ w2 v mm := hret
        obtain ⟨ya, yc, rfl⟩ := rdNF_shape hv2
        obtain ⟨y, hy⟩ : ∃ y, y = mm.length := ⟨_, rfl⟩
        rw [← hy] at hv2 ⊢
        have HY := Lib.hid hy
        have HV2 := Lib.hid hv2
        have HB2 := Lib.hid hb2
        have hy32 : y ≤ 32 := by rw [hy]; exact (waysT_small _ HR.out.symm).1
        have HSN := Lib.hid (show waysS (l.take (q + 1)) [] = if 32 < k + y then none else some (a ++ mm) by
          rw [HTK.out, waysS_snoc, HM.out]
          simp only
          rw [← HR.out]
          simp only
          rw [← HK.out, ← HY.out])
        clear hy hv2 hb2 m0 m1 m2 m3 m4 m5 m6 m7 hpp
        by_cases hfit : k + y ≤ 32
        · have q2 : decide ((32 : Int) < (k : Int) + (y : Int)) = false := by rw [decide_eq_false_iff_not]; omega
          rw [if_neg (by omega)] at HSN
          clear hfit
          obtain ⟨sls, ho1, ho2, ho3⟩ := HO.out
          obtain ⟨yls, hy1, hy2, hy3⟩ := HV2.out
          have HOW := Lib.hid (show w2.ownsRow W.heap.size 29 1 (.slice oa k oc) k sls from by
            rw [← HK.out] at ho1
            exact own_kept ho1 HB2.out)
          have HO1 := Lib.hid ho1
          have HO2 := Lib.hid ho2
          have HO3 := Lib.hid ho3
          have HY1 := Lib.hid (rdS_flat hy1.now)
          have HY2 := Lib.hid hy2
          have HY3 := Lib.hid hy3
          have HON := Lib.hid (show Ones 1 (yls.map fun u => [u]) from ones_flat fun u hu => by
            obtain ⟨i, hi, rfl⟩ := List.mem_iff_getElem.1 hu
            obtain ⟨sa2, sc2, e⟩ := rdLF_shape (hy3 i yls[i] _ (List.getElem?_eq_getElem hi) (List.getElem?_eq_getElem (by rw [← hy2]; exact hi)))
            rw [e]
            rfl)
          have HSZ := Lib.hid (show W.heap.size ≤ w2.heap.size from Nat.le_trans HBR.out.size HB2.out.size)
          clear ho1 ho2 ho3 hy1 hy2 hy3
          go_wp2_with (at_builtin; go_must (refine wpList_append_k elmW rfl _ _ rfl W.heap.size _ _ _ rfl HOW.out _ _ rfl HY1.out HON.out (by rw [List.length_map, HY2.out, ← HY.out]; omega) HSZ.out (k + y) (by rw [List.length_map, HY2.out, ← HY.out]) ?_); intro ao4 cap4 w4 hown4 hgrow4 hnew4; have HO4 := Lib.hid hown4; have HG4 : Hid (World.grownBy w2 w4 (Value.slice oa k oc).ownBlock) := Lib.hid hgrow4; have HN4 : Hid (∀ g, (Value.slice ao4 (k + y) cap4).ownBlock = some g → (Value.slice oa k oc).ownBlock = some g ∨ g = w2.heap.size) := Lib.hid hnew4; clear hown4 hgrow4 hnew4)
          go_roundw
          case rel =>
            refine ⟨q + 1, ao4, k + y, cap4, a ++ mm, by omega, by go_num, rfl, by rw [List.length_append, ← HK.out, ← HY.out], HSN.out, ?_, ?_⟩
            · have hws := HWS.out
              have hb1 := HBR.out.size
              exact ownN_append0 (K := wr.heap.size) HO1.out HO2.out HO3.out hb1 (Nat.le_refl _) HB2.out HY2.out (fun i s t hs ht => (HY3.out i s t hs ht).mono fun b hb h => ⟨h.1.imp id fun h => by omega, h.2⟩) HB2.out.size HG4.out HN4.out (by have h := HO4.out; rw [flat_ones] at h; rw [← HK.out, ← HY.out]; exact h)
            · exact (HBR.out.trans (HB2.out.mono HBR.out.size)).grown HG4.out HSZ.out (own_base HOW.out)
          case measure => simp [intOf]; omega
        · have q2 : decide ((32 : Int) < (k : Int) + (y : Int)) = true := by rw [decide_eq_true_iff]; omega
          rw [if_pos (by omega)] at HSN
          have HNO := Lib.hid (show waysS l [] = none by rw [HTD.out]; exact waysS_none HSN.out)
          clear hfit
          go_wp2_with fail
          go_ret2
          exact ⟨by rw [HWT.out, HNO.out]; rfl, below_then HBW.out HB2.out⟩
    · have hqn : q = n := by omega
      have hlti : ¬ (q : Int) < (n : Int) := by omega
      have htk : l.take q = l := List.take_of_length_le (by rw [← HN.out, hqn]; exact Nat.le_refl _)
      have HF := Lib.hid (show waysS l [] = some a by have h := HM.out; rw [htk] at h; exact h)
      clear htk hqn
      go_wp2_with fail
      go_ret2
      refine ⟨?_, HBW.out⟩
      rw [HWT.out, HF.out]
      exact ⟨_, rfl, HO.out.rd.mono fun b _ h => ⟨h.1, by have := HWS.out; have := h.2; omega⟩⟩

end Go.Proofs.Ytfmkalnnpddefaa
