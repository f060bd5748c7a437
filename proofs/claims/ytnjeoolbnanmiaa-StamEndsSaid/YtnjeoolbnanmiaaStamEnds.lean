/-
  The walk of StamEnds.
-/
import Derived.Test.YtnjeoolbnanmiaaStamh
import Derived.Test.YtnjeoolbnanmiaaAwakl
import Derived.Deep.DeepCutAuto
namespace Go.Proofs.Ytnjeoolbnanmiaa
set_option linter.unusedVariables false
open Go.RowKit

set_option maxRecDepth 100000 in
set_option maxHeartbeats 8000000 in
theorem walk_StamEnds (a0 : Option Addr) (len0 cap0 : Nat) (z0 : List Int) (a1 : Int) (a2 : Int) (w : World) (w0 : IsRow .i64 w a0 len0 cap0 z0) (w1 : (Lit.int .i64 a1).wf = true) (w2 : (Lit.int .i64 a2).wf = true) :
    Calls Try.prog 6 #[.slice a0 len0 cap0, .int .i64 a1, .int .i64 a2] w fun e w' => e = .returned (.bool true) ∧ Below w.heap.size w w' := by
  obtain ⟨xs, hl, hr, hwf⟩ := isRow_rd w0
  obtain ⟨ta, hta, hta1⟩ := and_some a2 15 15 rfl (by decide)
  obtain ⟨tc, htc, htc1⟩ := and_some (a1 / 65536) 3 3 rfl (by decide)
  have HR := Lib.hid hr
  clear hr hl hwf w0 w1 w2
  obtain ⟨⟨bx, b⟩, hs⟩ : ∃ s, s = stampOf a1 := ⟨_, rfl⟩
  obtain ⟨⟨ex, e⟩, hs2⟩ : ∃ s, s = stampOf (a1 / 256) := ⟨_, rfl⟩
  have hsl := stampOf_le a1
  have hsb := stampOf_b a1
  have hel := stampOf_le (a1 / 256)
  have heb := stampOf_b (a1 / 256)
  rw [← hs] at hsl hsb
  rw [← hs2] at hel heb
  have HSL := Lib.hid hsl
  have HSB := Lib.hid hsb
  have HEL := Lib.hid hel
  have HEB := Lib.hid heb
  have HST := fun w => Lib.hid (stamp_any a1 w)
  have HSE := fun w => Lib.hid (stamp_any (a1 / 256) w)
  rw [← hs] at HST
  rw [← hs2] at HSE
  clear hs hs2 hsl hsb hel heb
  unfold stampV at HST HSE
  simp only at HST HSE HSL HEL HSB HEB
  go_enter Try.func6, Try.ntmps6
  go_wp2_with fail
  refine (txns_any _ xs w HR.out).mono ?_
  rintro z w1 ⟨ao, cap, l, rfl, hown, hg, hsf, hb⟩
  have HO := Lib.hid hown
  have HB := Lib.hid hb
  have HSF := Lib.hid hsf
  have HUP := Lib.hid hg.up
  have HL := Lib.hid (show l.length ≤ 1000000 by have := hg.len; omega)
  clear hown hg hb hsf HR
  obtain ⟨n, hn⟩ : ∃ n, n = l.length := ⟨_, rfl⟩
  have HN := Lib.hid hn
  rw [← hn] at HO HSF ⊢
  clear hn
  have HGG := Lib.hid (show ∀ g, (Value.slice ao n cap).ownBlock = some g → g < w1.heap.size from fun g hg => by
    rcases HO.out.2 with ⟨h, _⟩ | ⟨g', cap', cur, h, _, hh, _⟩
    · rw [h] at hg; cases hg
    · rw [h] at hg
      have : g' = g := by simpa [Value.ownBlock] using hg
      subst this
      exact (Array.getElem?_eq_some_iff.1 hh).1)
  go_wp2_with fail
  refine (HST _).out.mono ?_
  rintro z w2 ⟨rfl, hb⟩
  have HO2 := Lib.hid (own_below HO.out hb)
  have HB2 := Lib.hid (below_then HB.out hb)
  have HS2 := Lib.hid hb.size
  clear hb
  go_wp2_with fail
  refine (HSE _).out.mono ?_
  rintro z w3 ⟨rfl, hb⟩
  have HO3 := Lib.hid (own_below HO2.out hb)
  have HB3 := Lib.hid (below_then HB2.out hb)
  have HS3 := Lib.hid (Nat.le_trans HS2.out hb.size)
  clear hb
  go_upto_if 29 with (fail)
  go_cut [6] (fun s wx => s = .bool false ∧ ∃ ex' e' : Int, 0 ≤ ex' ∧ ex' ≤ 6 ∧ I64 e' ∧ wx = w3.alloc (.cells #[.int .i64 bx, .int .i64 b, .int .i64 ex', .int .i64 e'] 33))
  case first =>
    by_cases h0 : tc = 0
    · have hq : ((tc : Int) == 0) = true := by rw [beq_iff_eq]; omega
      have hy := heap_alloc_new w3 (.cells #[.int .i64 bx, .int .i64 b, .int .i64 ex, .int .i64 e] 33)
      obtain ⟨f0, f1, f2, f3⟩ := froz4 hy
      clear hy
      go_wp2_with fail
      go_meet
      exact ⟨rfl, 0, 0, by decide, by decide, ⟨by decide, by decide⟩, rfl⟩
    · have hq : ((tc : Int) == 0) = false := by rw [beq_eq_false_iff_ne]; omega
      go_wp2_with fail
      go_meet
      exact ⟨rfl, ex, e, HEL.out.1, HEL.out.2, HEB.out, rfl⟩
  case rest =>
    obtain ⟨rfl, fx, f, hf1, hf2, hf3, rfl⟩ := hcut
    have HF := Lib.hid (And.intro hf1 (And.intro hf2 hf3))
    clear hf1 hf2 hf3 HEL HEB HSE HST
    have q0 : I64 0 := ⟨by decide, by decide⟩
    have qx : I64 bx := ⟨by have := HSL.out; omega, by have := HSL.out; omega⟩
    have qf : I64 fx := ⟨by have := HF.out; omega, by have := HF.out; omega⟩
    have qt : I64 (ta : Int) := ⟨by omega, by omega⟩
    have S1 := fun (L : List Ti) (hL : L.length ≤ 1000000) (w : World) (h : RdT w (.slice ao n cap) L) => Lib.hid (sees_any bx b fx f 0 (ta : Int) _ L w h hL HSF.out qx HSB.out qf HF.out.2.2 q0 qt (said_le L bx b (ta : Int) HSL.out.1 HSL.out.2) (end_le L fx f (ta : Int) HF.out.1 HF.out.2.1))
    have HON := Lib.hid (sees_on l bx b fx f (ta : Int))
    have HAG := Lib.hid (sees_again l bx b fx f (ta : Int))
    have HOL := Lib.hid (sees_len l bx b fx f (ta : Int))
    clear q0 qx qf qt
    have S0 := S1 l HL.out
    obtain ⟨⟨s0, O⟩, hp⟩ : ∃ p, p = seesT l bx b fx f 0 (ta : Int) := ⟨_, rfl⟩
    rw [← hp] at S0 HON HAG HOL
    clear hp
    unfold spanV at S0 S1
    simp only at S0 HON HAG HOL
    have hy := heap_alloc_new w3 (.cells #[.int .i64 bx, .int .i64 b, .int .i64 fx, .int .i64 f] 33)
    have HO5 := Lib.hid (HO3.out.alloc (.cells #[.int .i64 bx, .int .i64 b, .int .i64 fx, .int .i64 f] 33))
    have HB5 := Lib.hid (below_lay HB3.out (.cells #[.int .i64 bx, .int .i64 b, .int .i64 fx, .int .i64 f] 33))
    obtain ⟨X8, hX8⟩ : ∃ X8, X8 = w3.heap.size := ⟨_, rfl⟩
    obtain ⟨W5, hW5⟩ : ∃ W5 : World, W5 = w3.alloc (.cells #[.int .i64 bx, .int .i64 b, .int .i64 fx, .int .i64 f] 33) := ⟨_, rfl⟩
    have H8 := Lib.hid (show X8 < W5.heap.size by rw [hX8, hW5]; simp)
    have HG5 := Lib.hid (show ∀ g, (Value.slice ao n cap).ownBlock = some g → g < X8 from fun g hg => by have := HGG.out g hg; have := HS3.out; omega)
    rw [← hX8, ← hW5] at hy ⊢
    rw [← hW5] at HO5 HB5
    have HY := Lib.hid hy
    obtain ⟨c0, c1, c2, c3⟩ := cells4 hy
    clear hy hX8 hW5 HGG HO HO2 HO3
    have HO5l : W5.ownsRow w.heap.size 26 4 (.slice ao n cap) l.length (flatI l) := by rw [← HN.out]; exact HO5.out
    have HT5 := Lib.hid (show RdT W5 (.slice ao n cap) l from rdT_of_own HO5l)
    clear HO5l
    go_wp2_with fail
    refine (S0 _ HT5.out).out.mono ?_
    rintro z w6 ⟨u1, rfl, hu1, hb⟩
    obtain ⟨oa, oc, hs1⟩ := rdI_shape hu1
    subst hs1
    have HE := Lib.hid (show EInv w W5.heap.size X8 (.slice ao n cap) (.slice oa O.length oc) n O bx b fx f (curL l O 0) w6 by
      rw [curL_zero]; exact ⟨own_below HO5.out hb, hu1, (hb.block X8 H8.out).trans HY.out, below_then HB5.out hb⟩)
    clear c0 c1 c2 c3 hu1 hb S0
    obtain ⟨nO, hnO⟩ : ∃ nO, nO = O.length := ⟨_, rfl⟩
    have HNO := Lib.hid hnO
    have hnb : n ≤ 1000000 := by rw [HN.out]; exact HL.out
    have hO2 : nO ≤ 2 := by rw [hnO]; exact HOL.out
    rw [← hnO] at HE ⊢
    clear hnO
    go_wp2_with fail
    go_loopw [41] (fun i wr => ∃ k : Nat, k ≤ n ∧ i = .int .i64 (k : Int) ∧ EInv w W5.heap.size X8 (.slice ao n cap) (.slice oa nO oc) n O bx b fx f (curL l O k) wr) (fun i _ => n - (intOf i).toNat)
    case atStart => exact ⟨0, Nat.zero_le _, rfl, HE.out⟩
    case round =>
      obtain ⟨k, hk, rfl, hinv⟩ := hrel
      obtain ⟨wo, rfl⟩ : ∃ wo : World, wo = wr := ⟨_, rfl⟩
      have HI := Lib.hid hinv
      clear hinv HE
      by_cases hlt : k < n
      · have hd : decide ((k : Int) < (n : Int)) = true := by simp; omega
        obtain ⟨t, ht⟩ : ∃ t, l[k]? = some t := ⟨_, List.getElem?_eq_getElem (by rw [← HN.out]; exact hlt)⟩
        have HT := Lib.hid ht
        clear ht
        go_wp2_with fail
        go_loopw [46] (fun j wr => ∃ m : Nat, m ≤ nO ∧ j = .int .i64 (m : Int) ∧ EInv w W5.heap.size X8 (.slice ao n cap) (.slice oa nO oc) n O bx b fx f (curM l O k t m) wr) (fun j _ => nO - (intOf j).toNat)
        case atStart => exact ⟨0, Nat.zero_le _, rfl, by rw [curM_zero O HT.out]; exact HI.out⟩
        case round =>
          obtain ⟨m, hm, rfl, hinv⟩ := hrel
          obtain ⟨wi, rfl⟩ : ∃ wi : World, wi = wr := ⟨_, rfl⟩
          have HJ := Lib.hid hinv
          clear hinv HI
          by_cases hlm : m < nO
          · have hd2 : decide ((m : Int) < (nO : Int)) = true := by simp; omega
            obtain ⟨x, hx⟩ : ∃ x, O[m]? = some x := ⟨_, List.getElem?_eq_getElem (by rw [← HNO.out]; exact hlm)⟩
            have HX := Lib.hid hx
            clear hx
            -- the cell of the row of those that are hung on
            obtain ⟨ob, oo, hoa, hoc⟩ : ∃ ob oo, oa = some ⟨ob, oo, none⟩ ∧ wi.cell? ⟨ob, oo + m, none⟩ = some (.int .i64 x) := by
              obtain ⟨ao1, cp1, hv, _, _, hc⟩ := HJ.out.on
              simp only [Value.slice.injEq] at hv
              obtain ⟨ob, oo, h1, _, h2⟩ := hc (by rw [← HNO.out]; omega)
              exact ⟨ob, oo, hv.1.trans h1, h2 m x HX.out⟩
            subst hoa
            -- the cells of the transaction
            obtain ⟨gg, hga, hcell, hfz⟩ : ∃ gg, ao = some ⟨gg, 0, none⟩ ∧ (∀ j, j < 4 → wi.cell? ⟨gg, k * 4 + j, none⟩ = (mark (O.take m) t).cells[j]?) ∧ wi.frozen? ⟨gg, k * 4 + 1, none⟩ = false := by
              have ho := HJ.out.own
              have hat := curM_at O HT.out m
              rcases ho.2 with ⟨h1, h2⟩ | ⟨g', cap', cur, h1, h2⟩
              · omega
              · simp only [Value.slice.injEq] at h1
                have h3 := h1.1
                have h4 := h1.2.2
                clear h1 h2
                subst h3
                subst h4
                refine ⟨g', rfl, fun j hj => ?_, ho.frozenAt _⟩
                rw [ho.cellAt (k * 4 + j) (by omega), flatI_at _ k _ hat j hj]
            subst hga
            have k0 : wi.cell? ⟨gg, k * 4, none⟩ = some (.int .i64 t.i) := by
              have := hcell 0 (by decide)
              rw [Nat.add_zero] at this
              rw [this]
              show some (Value.int .i64 (mark (O.take m) t).i) = _
              rw [mark_i]
            obtain ⟨c0, c1, c2, c3⟩ := cells4 HJ.out.row
            by_cases hti : t.i = x
            · obtain ⟨hmk, hset⟩ := curM_hit HT.out HX.out hti (not_before HON.out.1 HX.out)
              rw [hmk] at hcell
              obtain ⟨hor, hx0, hs2, he2⟩ := HON.out.2 x (List.mem_of_getElem? HX.out)
              have hst : stateT l x = t := by rw [← hti]; exact state_at HUP.out (List.mem_of_getElem? HT.out)
              rw [hst] at hs2 he2
              have k1 : wi.cell? ⟨gg, k * 4 + 1, none⟩ = some (.int .i64 2) := by rw [hcell 1 (by decide)]; show some (Value.int .i64 t.s) = _; rw [hs2]
              have k3 : wi.cell? ⟨gg, k * 4 + 3, none⟩ = some (.int .i64 t.e) := hcell 3 (by decide)
              have d3 : decide ((ta : Int) < t.e) = false := by rw [decide_eq_false_iff_not]; omega
              have HE2 := Lib.hid (show EInv w W5.heap.size X8 (.slice (some ⟨gg, 0, none⟩) n cap) (.slice (some ⟨ob, oo, none⟩) nO oc) n O bx b fx f (curM l O k t (m + 1)) (wi.setCell ⟨gg, k * 4 + 1, none⟩ (.int .i64 3)) by
                rw [← hset]
                have hgX := HG5.out gg rfl
                have := HJ.out.set (by have := H8.out; omega) (by omega) (curM_at O HT.out m)
                rw [hmk] at this
                exact this)
              subst hti
              clear hcell hmk hset hx0 hs2 he2 hst
              by_cases hbx : bx = t.i
              · subst hbx
                clear hor
                go_wp2_with fail
                go_roundw
                case rel => exact ⟨m + 1, by omega, by go_num, HE2.out⟩
                case measure => simp [intOf]; omega
              · have hq1 : (bx == t.i) = false := by rw [beq_eq_false_iff_ne]; exact hbx
                have hq3 : (bx != t.i) = true := by rw [bne_iff_ne]; exact hbx
                have hq2 : fx = t.i := (hor.resolve_left fun h => hbx h.symm).symm
                clear hor hbx
                subst hq2
                go_wp2_with fail
                go_roundw
                case rel => exact ⟨m + 1, by omega, by go_num, HE2.out⟩
                case measure => simp [intOf]; omega
            · have hq : (t.i == x) = false := by rw [beq_eq_false_iff_ne]; exact hti
              have HE2 := Lib.hid (show EInv w W5.heap.size X8 (.slice (some ⟨gg, 0, none⟩) n cap) (.slice (some ⟨ob, oo, none⟩) nO oc) n O bx b fx f (curM l O k t (m + 1)) wi by
                rw [curM_skip HX.out hti]; exact HJ.out)
              clear hcell hti c0 c1 c2 c3
              go_wp2_with fail
              go_roundw
              case rel => exact ⟨m + 1, by omega, by go_num, HE2.out⟩
              case measure => simp [intOf]; omega
          · have hd2 : decide ((m : Int) < (nO : Int)) = false := by simp; omega
            have HE2 := Lib.hid (show EInv w W5.heap.size X8 (.slice ao n cap) (.slice oa nO oc) n O bx b fx f (curL l O (k + 1)) wi by
              have : m = O.length := by rw [← HNO.out]; omega
              rw [← curM_end O HT.out, ← this]; exact HJ.out)
            go_wp2_with fail
            go_roundw
            case rel => exact ⟨k + 1, by omega, by go_num, HE2.out⟩
            case measure => simp [intOf]; omega
      · have hd : decide ((k : Int) < (n : Int)) = false := by simp; omega
        have hkn : k = l.length := by rw [← HN.out]; omega
        have HE2 := Lib.hid (show EInv w W5.heap.size X8 (.slice ao n cap) (.slice oa nO oc) n O bx b fx f (l.map (mark O)) wo by
          rw [← curL_end, ← hkn]; exact HI.out)
        have HT2 := Lib.hid (show RdT wo (.slice ao n cap) (l.map (mark O)) from rdT_of_own (by rw [List.length_map, ← HN.out]; exact HE2.out.own))
        have HB2 := Lib.hid HE2.out.bel
        have S2 := S1 (l.map (mark O)) (by rw [List.length_map]; exact HL.out)
        rw [HAG.out] at S2
        simp only at S2
        obtain ⟨c0, c1, c2, c3⟩ := cells4 HE2.out.row
        clear hkn HI
        go_wp2_with fail
        refine (S2 _ HT2.out).out.mono ?_
        rintro z w7 ⟨u2, rfl, hu2, hb⟩
        obtain ⟨oa2, oc2, hs2⟩ := rdI_shape hu2
        simp only [List.length_nil] at hs2
        subst hs2
        have HB7 := Lib.hid (below_then HB2.out hb)
        clear c0 c1 c2 c3 hu2 hb S2
        go_wp2_with fail
        refine (awake11_any _).mono ?_
        rintro z w8 ⟨rfl, hb⟩
        have HB8 := Lib.hid (below_then HB7.out hb)
        clear hb
        go_wp2_with fail
        go_ret
        exact ⟨rfl, HB8.out⟩

end Go.Proofs.Ytnjeoolbnanmiaa
