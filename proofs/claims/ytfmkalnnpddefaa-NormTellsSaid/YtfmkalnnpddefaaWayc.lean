/-
  Contract of the reference's ways, at products; of any predicate.
-/
import Derived.Test.YtfmkalnnpddefaaWayb
namespace Go.Proofs.Ytfmkalnnpddefaa
set_option linter.unusedVariables false
set_option linter.unusedSimpArgs false
open Go.RowKit

set_option maxRecDepth 100000 in
set_option maxHeartbeats 32000000 in
theorem ways_4 (c o : Int) (v : Vc) (l : List Pt) (hl : ∀ q ∈ l, WaysOK q) (hll : l.length ≤ 1000) : WaysOK (.mk 4 c o v l) := by
  intro cs X w hf
  have HFX := Lib.hid hf
  unfold RdT1F at hf
  obtain ⟨s, ls, css, rfl, hok, hls, hts⟩ := hf
  have hokn := hok.now
  obtain ⟨sa, sc, hes⟩ := rd_shape8 hokn.1
  obtain ⟨ea, ec, hel⟩ := rdS_shape hls.now
  simp only at hes
  subst hes hel
  have hcl := rdTs_len hts.now
  obtain ⟨n, hN⟩ : ∃ n, n = l.length := ⟨_, rfl⟩
  obtain ⟨vu, vk, vn, vb⟩ := v
  obtain ⟨m, hm⟩ : ∃ m, m = vb.length := ⟨_, rfl⟩
  unfold cellsP
  simp only
  rw [hcl, ← hN] at hls ⊢
  rw [← hm]
  rw [← hN] at hll
  have HN := Lib.hid hN
  have HLS := Lib.hid hls
  have HTS := Lib.hid hts
  have HIH := Lib.hid hl
  clear hok hokn hls hts hm hcl hN hl HFX
  have HWT := Lib.hid (show waysT (.mk 4 c o ⟨vu, vk, vn, vb⟩ l) = waysP l [[]] by rw [waysT, if_neg (by decide), if_pos rfl])
  go_enter Try.func69, Try.ntmps69
  go_wp2_with fail
  have HLIT := Lib.hid (show RdNF (fun b => X b ∧ b < w.heap.size) ((w.alloc (.cells #[.int .i64 4, .int .i64 c, .int .i64 o, .bool vu, .int .i64 vk, .int .i64 vn, .slice sa m sc, .slice ea n ec] 31)).alloc (.cells #[.slice none 0 0] 29)) (.slice (some ⟨w.heap.size + 1, 0, none⟩) 1 1) [[]] from by
    refine ⟨[.slice none 0 0], ?_, rfl, ?_⟩
    · intro w' h
      have h1 := rd_lit_agree h (fun b hb => by have := hb.2; simp; omega)
      simp only [World.size_alloc] at h1
      exact h1
    · intro i s t hs ht
      match i, hs, ht with
      | 0, hs, ht => cases hs; cases ht; exact ⟨[], fun w' _ => ⟨RdS.nil w' 8, by unfold RdTs; trivial⟩⟩
      | i + 1, hs, ht => simp at hs)
  have HBL := Lib.hid (below_alloc (w.alloc (.cells #[.int .i64 4, .int .i64 c, .int .i64 o, .bool vu, .int .i64 vk, .int .i64 vn, .slice sa m sc, .slice ea n ec] 31)) (.cells #[.slice none 0 0] 29))
  obtain ⟨W, hW⟩ : ∃ W : World, W = w.alloc (.cells #[.int .i64 4, .int .i64 c, .int .i64 o, .bool vu, .int .i64 vk, .int .i64 vn, .slice sa m sc, .slice ea n ec] 31) := ⟨_, rfl⟩
  rw [← hW] at HLIT HBL ⊢
  have HX0 := Lib.hid (show W.heap[w.heap.size]? = some (.cells #[.int .i64 4, .int .i64 c, .int .i64 o, .bool vu, .int .i64 vk, .int .i64 vn, .slice sa m sc, .slice ea n ec] 31 (0, 0)) by rw [hW]; exact heap_alloc_new w _)
  have HB0 := Lib.hid (show Below w.heap.size w W by rw [hW]; exact below_alloc w _)
  have HWS := Lib.hid (show W.heap.size = w.heap.size + 1 by rw [hW]; simp)
  obtain ⟨PB, hPB⟩ : ∃ PB, PB = w.heap.size := ⟨_, rfl⟩
  have HPE := Lib.hid hPB
  rw [← hPB] at HX0 HLIT ⊢
  clear hW hPB
  go_loopw [8, 9] (fun s i wr => ∃ (q : Nat) (oa : Option Addr) (k oc : Nat) (a : List (List Pt)), q ≤ n ∧ i = .int .i64 (q : Int) ∧ s = .slice oa k oc ∧ k = a.length ∧ waysP (l.take q) [[]] = some a ∧ RdNF (fun b => X b ∧ b < PB) wr (.slice oa k oc) a ∧ Below W.heap.size W wr) (fun _ i _ => n - (intOf i).toNat)
  case atStart => exact ⟨0, some ⟨PB + 1, 0, none⟩, 1, 1, [[]], Nat.zero_le _, rfl, rfl, rfl, by rw [List.take_zero, waysP], HLIT.out, HBL.out⟩
  case round =>
    obtain ⟨q, oa, k, oc, a, hq, rfl, rfl, hk, hm, hown, hbel⟩ := hrel
    obtain ⟨wo, rfl⟩ : ∃ wo : World, wo = wr := ⟨_, rfl⟩
    have HK := Lib.hid hk
    have HM := Lib.hid hm
    have HO := Lib.hid hown
    have HBR := Lib.hid hbel
    have HBW := Lib.hid (below_then HB0.out hbel)
    have HSM := Lib.hid (waysP_small _ [[]] (by simp [SmallN]) hm)
    have hk32 : k ≤ 32 := by rw [hk]; exact HSM.out.1
    have hx := (hbel.block PB (Array.getElem?_eq_some_iff.1 HX0.out).1).trans HX0.out
    have hpp : wo.cell? ⟨PB, 7, none⟩ = some (.slice ea n ec) := by rw [cell_of_row wo _ 7 _ _ _ hx]; rfl
    clear hk hm hown hbel hx
    by_cases hlt : q < n
    · obtain ⟨p, hp⟩ : ∃ p, l[q]? = some p := ⟨_, List.getElem?_eq_getElem (by rw [← HN.out]; exact hlt)⟩
      have hlti : (q : Int) < (n : Int) := by omega
      have hq0 : (0 : Int) ≤ (q : Int) := by omega
      have HTK := Lib.hid (show l.take (q + 1) = l.take q ++ [p] by rw [List.take_add_one, hp]; rfl)
      have HTD := Lib.hid (show l = l.take (q + 1) ++ l.drop (q + 1) from (List.take_append_drop _ _).symm)
      have HP := HIH.out p (List.mem_of_getElem? hp)
      obtain ⟨pcs, hpcs, hpf⟩ := HTS.out.at hp
      have hfr : RdT1F (fun b => X b ∨ w.heap.size ≤ b) wo p pcs := RdT1F.to (agree_below HBW.out HBW.out.size) (fun i h1 h2 => by omega) (fun i h1 h2 => h2.elim id fun h => by omega) p hpf
      have hrs : RdS wo 8 (.slice ea n ec) css := HLS.out wo ((agree_below HBW.out HBW.out.size).mono fun i h1 h2 => by omega)
      obtain ⟨r, hr⟩ : ∃ r, r = waysT p := ⟨_, rfl⟩
      have HR := Lib.hid hr
      have HCALL := Lib.hid (HP pcs _ wo hfr)
      rw [← hr] at HCALL
      have hrd := hfr.now
      have hat := hrs.at hpcs
      obtain ⟨pk, pc, po, pvk, pvn, pu, pa, pn, pm, pa2, pn2, pm2, rfl⟩ := rdT1_shape hrd
      obtain ⟨b1, f1, rfl, hcell⟩ := hat
      have m0 : wo.cell? ⟨b1, f1 + q * 8, none⟩ = some (.int .i64 pk) := hcell 0 _ rfl
      have m1 : wo.cell? ⟨b1, f1 + q * 8 + 1, none⟩ = some (.int .i64 pc) := hcell 1 _ rfl
      have m2 : wo.cell? ⟨b1, f1 + q * 8 + 2, none⟩ = some (.int .i64 po) := hcell 2 _ rfl
      have m3 : wo.cell? ⟨b1, f1 + q * 8 + 3, none⟩ = some (.bool pu) := hcell 3 _ rfl
      have m4 : wo.cell? ⟨b1, f1 + q * 8 + 4, none⟩ = some (.int .i64 pvk) := hcell 4 _ rfl
      have m5 : wo.cell? ⟨b1, f1 + q * 8 + 5, none⟩ = some (.int .i64 pvn) := hcell 5 _ rfl
      have m6 : wo.cell? ⟨b1, f1 + q * 8 + 6, none⟩ = some (.slice pa pn pm) := hcell 6 _ rfl
      have m7 : wo.cell? ⟨b1, f1 + q * 8 + 7, none⟩ = some (.slice pa2 pn2 pm2) := hcell 7 _ rfl
      clear hp hpcs hpf hfr hrs hr hrd hcell HP
      cases r with
      | none =>
        have HNO := Lib.hid (show waysP l [[]] = none by
          rw [HTD.out]
          refine waysP_none ?_
          rw [HTK.out, waysP_snoc, HM.out]
          simp only
          rw [← HR.out])
        go_wp2_with fail
        refine HCALL.out.mono ?_
        rintro e w2 ⟨hret, hb2⟩
        obtain rfl : e = .returned (.tuple #[.slice none 0 0, .bool false]) := hret
        have HF := Lib.hid (below_then HBW.out hb2)
        clear hb2
        go_wp2_with fail
        go_ret2
        exact ⟨by rw [HWT.out, HNO.out]; rfl, HF.out⟩
      | some mm =>
        go_wp2_with fail
        refine HCALL.out.mono ?_
        rintro e w2 ⟨hret, hb2⟩
        obtain ⟨v2, rfl, hv2⟩ : ∃ v, e = .returned (.tuple #[v, .bool true]) ∧ RdNF _ w2 v mm := hret
        obtain ⟨ya, yc, rfl⟩ := rdNF_shape hv2
        obtain ⟨y, hy⟩ : ∃ y, y = mm.length := ⟨_, rfl⟩
        rw [← hy] at hv2 ⊢
        have HY := Lib.hid hy
        have HSY := Lib.hid (waysT_small _ HR.out.symm)
        have hy32 : y ≤ 32 := by rw [hy]; exact HSY.out.1
        have HBW2 := Lib.hid (below_then HBW.out hb2)
        have HBR2 := Lib.hid (HBR.out.trans (hb2.mono HBR.out.size))
        have HA := Lib.hid (show RdNF (fun b => X b ∧ b < PB) w2 (.slice oa k oc) a from HO.out.to (agree_below hb2 hb2.size) (fun i h1 h2 => by omega) (fun i h1 h2 => h2))
        have HB := Lib.hid (show RdNF (fun b => X b ∧ b < PB) w2 (.slice ya y yc) mm from hv2.mono fun b hb h => ⟨.inl h.1, by have h1 := h.2; have h2 := HBW.out.size; rw [HPE.out] at h1; omega⟩)
        have HPW := Lib.hid (show PB ≤ w2.heap.size by have := HBW2.out.size; rw [HPE.out]; exact this)
        have HSN := Lib.hid (show waysP (l.take (q + 1)) [[]] = timesN a mm by
          rw [HTK.out, waysP_snoc, HM.out]
          simp only
          rw [← HR.out])
        clear hy hv2 hb2 m0 m1 m2 m3 m4 m5 m6 m7 hpp HCALL HR HO
        by_cases hmul : 32 < k * y
        · have HNO := Lib.hid (show waysP l [[]] = none by
            rw [HTD.out]
            refine waysP_none ?_
            rw [HSN.out]
            unfold timesN
            rw [if_pos (by rw [← HK.out, ← HY.out]; exact hmul)])
          have q1 : decide ((32 : Int) < (k : Int) * (y : Int)) = true := by rw [decide_eq_true_iff]; exact_mod_cast hmul
          have hb1 : k * y ≤ 1024 := Nat.mul_le_mul hk32 hy32
          have hb2 : (k : Int) * (y : Int) ≤ 1024 := by exact_mod_cast hb1
          have hb3 : (0 : Int) ≤ (k : Int) * (y : Int) := by exact_mod_cast Nat.zero_le _
          clear hmul hb1
          go_wp2_with fail
          go_ret2
          exact ⟨by rw [HWT.out, HNO.out]; rfl, HBW2.out⟩
        have q1 : decide ((32 : Int) < (k : Int) * (y : Int)) = false := by rw [decide_eq_false_iff_not]; exact_mod_cast hmul
        have hb2 : (k : Int) * (y : Int) ≤ 32 := (by have h : k * y ≤ 32 := by omega
                                                     exact_mod_cast h)
        have hb3 : (0 : Int) ≤ (k : Int) * (y : Int) := by exact_mod_cast Nat.zero_le _
        have HMUL := Lib.hid (show ¬ 32 < a.length * mm.length by rw [← HK.out, ← HY.out]; exact hmul)
        clear hmul
        go_wp2_with fail
        go_loopw [12, 13] (fun s i wr => ∃ q2 : Nat, ∃ ao k2 cap, q2 ≤ k ∧ i = .int .i64 (q2 : Int) ∧ s = .slice ao k2 cap ∧ k2 = (prodL (a.take q2) mm).length ∧ OwnN (fun b => X b ∧ b < PB) w2.heap.size wr (.slice ao k2 cap) (prodL (a.take q2) mm) ∧ (a.take q2).all (fun x => fitsB x mm) = true ∧ Below w2.heap.size w2 wr) (fun _ i _ => k - (intOf i).toNat)
        case atStart => exact ⟨0, none, 0, 0, Nat.zero_le _, rfl, rfl, by simp [prodL], by simpa [prodL] using ownN_nil (fun b => X b ∧ b < PB) w2.heap.size w2, by simp, Below.refl _ _⟩
        case round =>
          obtain ⟨q2, ao, k2, cap, hq2, rfl, rfl, hk2, hown2, hall, hbel⟩ := hrel
          obtain ⟨wi, rfl⟩ : ∃ wi : World, wi = wr := ⟨_, rfl⟩
          have HK2 := Lib.hid hk2
          have HO2 := Lib.hid hown2
          have HALL := Lib.hid hall
          have HBI := Lib.hid hbel
          clear hk2 hown2 hall hbel
          by_cases hlt2 : q2 < k
          · obtain ⟨x, hx⟩ : ∃ x, a[q2]? = some x := ⟨_, List.getElem?_eq_getElem (by rw [← HK.out]; exact hlt2)⟩
            have hlt2i : (q2 : Int) < (k : Int) := by omega
            have hq20 : (0 : Int) ≤ (q2 : Int) := by omega
            have HX := Lib.hid hx
            obtain ⟨xb, xo, xa, xc, rfl, hxc0, hxr⟩ := HA.out.at hx
            have HXC0 := Lib.hid hxc0
            obtain ⟨lx, hlx⟩ : ∃ lx, lx = x.length := ⟨_, rfl⟩
            rw [← hlx] at HXC0 hxr
            have HLX := Lib.hid hlx
            have hlx32 : lx ≤ 32 := by rw [hlx]; exact HSM.out.2 x (List.mem_of_getElem? hx)
            have HXR := Lib.hid hxr
            clear hx hlx hxr hxc0
            go_wp2_with fail
            go_loopw [12, 14] (fun s j wr => ∃ p2 : Nat, ∃ ao k1 cap, p2 ≤ y ∧ j = .int .i64 (p2 : Int) ∧ s = .slice ao k1 cap ∧ k1 = (prodL (a.take q2) mm ++ (mm.take p2).map fun y => x ++ y).length ∧ OwnN (fun b => X b ∧ b < PB) w2.heap.size wr (.slice ao k1 cap) (prodL (a.take q2) mm ++ (mm.take p2).map fun y => x ++ y) ∧ fitsB x (mm.take p2) = true ∧ Below w2.heap.size w2 wr) (fun _ j _ => y - (intOf j).toNat)
            case atStart => exact ⟨0, ao, k2, cap, Nat.zero_le _, rfl, rfl, by simpa using HK2.out, by simpa using HO2.out, by simp [fitsB], HBI.out⟩
            case round =>
              obtain ⟨p2, ao1, k1, cap1, hp2, rfl, rfl, hk1, hown1, hfit1, hbel1⟩ := hrel
              obtain ⟨wj, rfl⟩ : ∃ wj : World, wj = wr := ⟨_, rfl⟩
              have HK1 := Lib.hid hk1
              have HO1 := Lib.hid hown1
              have HF1 := Lib.hid hfit1
              have HB1 := Lib.hid hbel1
              clear hk1 hown1 hfit1 hbel1
              by_cases hlt1 : p2 < y
              · obtain ⟨yl, hyl⟩ : ∃ yl, mm[p2]? = some yl := ⟨_, List.getElem?_eq_getElem (by rw [← HY.out]; exact hlt1)⟩
                have hlt1i : (p2 : Int) < (y : Int) := by omega
                have hp20 : (0 : Int) ≤ (p2 : Int) := by omega
                obtain ⟨yb, yo, yla, ylc, rfl, hyc0, hyr⟩ := HB.out.at hyl
                have hag1 := agree_below HB1.out HB1.out.size
                have hxc : wj.cell? ⟨xb, xo + q2, none⟩ = some (.slice xa lx xc) := (HB1.out.cell (p := ⟨xb, xo + q2, none⟩) (World.block_lt_of_cell? _ _ HXC0.out)).trans HXC0.out
                have hyc := (HB1.out.cell (p := ⟨yb, yo + p2, none⟩) (World.block_lt_of_cell? _ _ hyc0)).trans hyc0
                obtain ⟨ly, hly⟩ : ∃ ly, ly = yl.length := ⟨_, rfl⟩
                rw [← hly] at hyc hyr
                have hly32 : ly ≤ 32 := by rw [hly]; exact HSY.out.2 yl (List.mem_of_getElem? hyl)
                have HYL := Lib.hid hyl
                have HLY := Lib.hid hly
                obtain ⟨cx, hcx⟩ := HXR.out.to (Y := fun b => (X b ∧ b < PB) ∨ w2.heap.size ≤ b) hag1 (fun i h1 h2 => by omega) (fun i h1 h2 => h2.elim id fun h => by omega)
                obtain ⟨cy, hcy⟩ := hyr.to (Y := fun b => (X b ∧ b < PB) ∨ w2.heap.size ≤ b) hag1 (fun i h1 h2 => by omega) (fun i h1 h2 => h2.elim id fun h => by omega)
                have HCX := Lib.hid hcx
                have HCY := Lib.hid hcy
                have hcxl : cx.length = lx := by rw [rdTs_len HCX.out.now.2, HLX.out]
                have hcyl : cy.length = ly := by rw [rdTs_len HCY.out.now.2, HLY.out]
                have HXL := Lib.hid hcxl
                have HYLn := Lib.hid hcyl
                have HCL := Lib.hid (show (cx ++ cy).length = lx + ly by rw [List.length_append, hcxl, hcyl])
                have HONX := Lib.hid (rdTs_ones HCX.out.now.2)
                have HONY := Lib.hid (rdTs_ones HCY.out.now.2)
                have hxb : xb < wj.heap.size := World.block_lt_of_cell? _ _ hxc
                have hyb : yb < wj.heap.size := World.block_lt_of_cell? _ _ hyc
                have hxc2 := fun o => Lib.cell?_alloc_some (W := wj) o hxc
                have hyc2 := fun o => Lib.cell?_alloc_some (W := wj) o hyc
                have HE0 : Hid ((wj.alloc (.cells #[] 31)).drew.ownsRow wj.heap.size 31 8 (.slice (some ⟨wj.heap.size, 0, none⟩) 0 0) 0 []) := Lib.hid (World.ownsRow_lit (base := wj.heap.size) (size := 8) (e := 31) wj #[] 0 (Nat.le_refl _) (by decide) rfl)
                have HBD := Lib.hid (show Below wj.heap.size wj (wj.alloc (.cells #[] 31)).drew from (below_alloc wj _).trans (below_drw _ _))
                have HDS := Lib.hid (show (wj.alloc (.cells #[] 31)).drew.heap.size = wj.heap.size + 1 from World.size_alloc _ _)
                clear hyl hly hyr hyc0 hcx hcy hag1 hcxl hcyl
                go_upto_region 27 with (fail)
                go_cut [15] (fun s wx => ∃ za zc, s = .slice za (lx + ly) zc ∧ wx.ownsRow wj.heap.size 31 8 (.slice za (lx + ly) zc) (lx + ly) (cx ++ cy).flatten ∧ Below wj.heap.size wj wx)
                case first =>
                  go_region_law
                    (first
                     | (have hB := HG3; refine step_append_k elmPred (by rfl) _ _ (by rfl) wj.heap.size (.slice ao3 lx cap3) lx cx.flatten (by rfl) HO3.out _ cy (by rfl) (HCY.out.now.1.kept HB3.out) HONY.out (by rw [HYLn.out]; omega) HB3.out.size (lx + ly) (by rw [HYLn.out]) ?_; intro ao4 cap4 w4 hown4 hgrow4 hnew4; have HO4 := Lib.hid hown4; have HB4 := Lib.hid (show Below wj.heap.size wj w4 from HB3.out.grown hgrow4 HB3.out.size (own_base HO3.out)); clear hown4 hgrow4 hnew4)
                     | (refine step_append_k elmPred (by rfl) _ _ (by rfl) wj.heap.size (.slice (some ⟨wj.heap.size, 0, none⟩) 0 0) 0 [] (by rfl) HE0.out _ cx (by rfl) (HCX.out.now.1.kept HBD.out) HONX.out (by rw [HXL.out]; omega) (by rw [HDS.out]; omega) lx (by rw [HXL.out]; omega) ?_; intro ao3 cap3 w3 hown3 hgrow3 hnew3; rw [List.nil_append] at hown3; have HO3 := Lib.hid hown3; have HG3 := Lib.hid hgrow3; have HB3 := Lib.hid (show Below wj.heap.size wj w3 from HBD.out.grown hgrow3 HBD.out.size (fun k e => by cases e; exact Nat.le_refl _)); have hyc3 : w3.cell? ⟨yb, yo + p2, none⟩ = some (.slice yla ly ylc) := (HB3.out.cell (p := ⟨yb, yo + p2, none⟩) hyb).trans hyc; clear hown3 hgrow3 hnew3))
                  all_goals
                    go_wp2_with fail
                    go_meet
                    exact ⟨ao4, cap4, rfl, by rw [List.flatten_append]; exact HO4.out, HB4.out⟩
                case rest =>
                  obtain ⟨za, zc, rfl, hz, hbz⟩ := hcut
                  have HOW2 := Lib.hid hz
                  have HBE2 := Lib.hid hbz
                  have HBWC := Lib.hid (HB1.out.trans (hbz.mono HB1.out.size))
                  clear hz hbz hxc hyc hxc2 hyc2
                  by_cases hfit : lx + ly ≤ 32
                  · have q2' : decide ((32 : Int) < (lx : Int) + (ly : Int)) = false := by rw [decide_eq_false_iff_not]; omega
                    have q2n : decide (32 < lx + ly) = false := by rw [decide_eq_false_iff_not]; omega
                    have HFN := Lib.hid (show fitsB x (mm.take (p2 + 1)) = true by
                      unfold fitsB
                      rw [List.take_add_one, HYL.out, List.all_append]
                      have h1 := HF1.out
                      unfold fitsB at h1
                      rw [h1]
                      simp [← HLX.out, ← HLY.out, hfit])
                    clear hfit
                    obtain ⟨sls, ho1, ho2, ho3⟩ := HO1.out
                    have HOWN := Lib.hid ((own_kept ho1 HBE2.out).alloc (.cells #[.slice za (lx + ly) zc] 29))
                    rw [← HK1.out] at HOWN
                    have HO1S := Lib.hid ho1
                    have HO2S := Lib.hid ho2
                    have HO3S := Lib.hid ho3
                    have hk1 : k1 ≤ 1024 + 32 := by
                      rw [HK1.out, List.length_append, prodL_len, List.length_map, List.length_take, List.length_take, ← HY.out, ← HK.out]
                      have : min q2 k * y ≤ 32 * 32 := Nat.mul_le_mul (by omega) hy32
                      omega
                    have hsz2 := Lib.hid (show w2.heap.size ≤ (wc.alloc (.cells #[.slice za (lx + ly) zc] 29)).heap.size by have := HBWC.out.size; simp; omega)
                    have HON1 := Lib.hid (show Ones 1 [[Value.slice za (lx + ly) zc]] from fun t ht => by rw [List.mem_singleton.1 ht]; exact ⟨rfl, fun u hu => by rw [List.mem_singleton.1 hu]; rfl⟩)
                    have HRL := Lib.hid (rdS_lit wc #[.slice za (lx + ly) zc] 29 1 rfl)
                    clear ho1 ho2 ho3
                    go_wp2_with (at_builtin; go_must (refine wpList_append_k elmW rfl _ _ rfl w2.heap.size _ _ _ rfl HOWN.out _ [[.slice za (lx + ly) zc]] rfl HRL.out HON1.out (by simp; omega) hsz2.out (k1 + 1) rfl ?_); intro ao4 cap4 w4 hown4 hgrow4 hnew4; have HO4 := Lib.hid hown4; have HG4 : Hid (World.grownBy _ w4 (Value.slice ao1 k1 cap1).ownBlock) := Lib.hid hgrow4; have HN4 : Hid (∀ g, (Value.slice ao4 (k1 + 1) cap4).ownBlock = some g → (Value.slice ao1 k1 cap1).ownBlock = some g ∨ g = _) := Lib.hid hnew4; clear hown4 hgrow4 hnew4)
                    go_roundw
                    case rel =>
                      have hpush := ownN_push (X := fun b => X b ∧ b < PB) (B := w2.heap.size) HO1S.out HO2S.out HO3S.out HBE2.out (Nat.le_refl _) (by have h := HOW2.out; rw [HCL.out]; exact h) (Ones.append HONX.out HONY.out) HG4.out HN4.out (by rw [← HK1.out]; exact HO4.out) HB1.out.size (HCX.out.and HCY.out |>.imp fun w' h => RdTs.append h.2.2 h.1.2)
                      have hbs := prodB_succ (x := x) HYL.out
                      refine ⟨p2 + 1, ao4, k1 + 1, cap4, by omega, by go_num, rfl, ?_, ?_, HFN.out, ?_⟩
                      · rw [hbs, ← List.append_assoc, List.length_append, ← HK1.out]; rfl
                      · rw [hbs, ← List.append_assoc, ← HCL.out] at *; exact hpush
                      · exact HBWC.out.alloc HBWC.out.size _ |>.grown HG4.out hsz2.out (own_base HOWN.out)
                    case measure => simp [intOf]; omega
                  · have q2' : decide ((32 : Int) < (lx : Int) + (ly : Int)) = true := by rw [decide_eq_true_iff]; omega
                    have q2n : decide (32 < lx + ly) = true := by rw [decide_eq_true_iff]; omega
                    have HNO := Lib.hid (show waysP l [[]] = none by
                      rw [HTD.out]
                      refine waysP_none ?_
                      rw [HSN.out]
                      unfold timesN
                      rw [if_neg HMUL.out, if_neg]
                      intro h
                      rw [List.all_eq_true] at h
                      have h1 := h x (List.mem_of_getElem? HX.out)
                      unfold fitsB at h1
                      rw [List.all_eq_true] at h1
                      have h2 := of_decide_eq_true (h1 yl (List.mem_of_getElem? HYL.out))
                      rw [← HLX.out, ← HLY.out] at h2
                      exact hfit h2)
                    clear hfit
                    go_wp2_with fail
                    go_ret2
                    exact ⟨by rw [HWT.out, HNO.out]; rfl, below_then HBW2.out HBWC.out⟩
              · have hpm : p2 = y := by omega
                have hlt1i : ¬ (p2 : Int) < (y : Int) := by omega
                have htk : mm.take p2 = mm := List.take_of_length_le (by rw [← HY.out, hpm]; exact Nat.le_refl _)
                have hps := prodL_succ (b := mm) HX.out
                have HRN := Lib.hid (show k1 = (prodL (a.take (q2 + 1)) mm).length ∧ OwnN (fun b => X b ∧ b < PB) w2.heap.size wj (.slice ao1 k1 cap1) (prodL (a.take (q2 + 1)) mm) ∧ (a.take (q2 + 1)).all (fun x => fitsB x mm) = true ∧ Below w2.heap.size w2 wj by
                  have h1 := HK1.out
                  have h2 := HO1.out
                  have h3 := HF1.out
                  rw [htk] at h1 h2 h3
                  rw [hps]
                  refine ⟨h1, h2, ?_, HB1.out⟩
                  rw [List.take_add_one, HX.out, List.all_append, HALL.out]
                  simp [h3])
                clear hpm htk hps
                go_wp2_with fail
                go_roundw
                case rel => exact ⟨q2 + 1, ao1, k1, cap1, by omega, by go_num, rfl, HRN.out⟩
                case measure => simp [intOf]; omega
          · have hqn : q2 = k := by omega
            have hlt2i : ¬ (q2 : Int) < (k : Int) := by omega
            have htk : a.take q2 = a := List.take_of_length_le (by rw [← HK.out, hqn]; exact Nat.le_refl _)
            have HEND := Lib.hid (show k2 = (prodL a mm).length ∧ timesN a mm = some (prodL a mm) ∧ RdNF (fun b => X b ∧ b < PB) wi (.slice ao k2 cap) (prodL a mm) ∧ Below W.heap.size W wi by
              have h1 := HALL.out
              have h2 := HO2.out
              have h3 := HK2.out
              rw [htk] at h1 h2 h3
              refine ⟨h3, ?_, h2.rd.mono fun b _ h => ⟨h, by have := h.2; have := HPW.out; omega⟩, HBR2.out.trans (HBI.out.mono HBR2.out.size)⟩
              unfold timesN
              rw [if_neg HMUL.out, if_pos h1])
            clear hqn htk
            go_wp2_with fail
            go_roundw
            case rel => exact ⟨q + 1, ao, k2, cap, prodL a mm, by omega, by go_num, rfl, HEND.out.1, HSN.out.trans HEND.out.2.1, HEND.out.2.2⟩
            case measure => simp [intOf]; omega
    · have hqn : q = n := by omega
      have hlti : ¬ (q : Int) < (n : Int) := by omega
      have htk : l.take q = l := List.take_of_length_le (by rw [← HN.out, hqn]; exact Nat.le_refl _)
      have HF := Lib.hid (show waysP l [[]] = some a by have h := HM.out; rw [htk] at h; exact h)
      clear htk hqn
      go_wp2_with fail
      go_ret2
      refine ⟨?_, HBW.out⟩
      rw [HWT.out, HF.out]
      exact ⟨_, rfl, HO.out.mono fun b _ h => ⟨h.1, by have := HPE.out; have := h.2; omega⟩⟩

mutual
/-- All its lists are short. -/
def shortT : Pt → Prop
  | .mk _ _ _ _ l => l.length ≤ 1000 ∧ shortL l
def shortL : List Pt → Prop
  | [] => True
  | q :: r => shortT q ∧ shortL r
end
mutual
theorem ways_any : ∀ (p : Pt), shortT p → WaysOK p
  | .mk k c o v l, h => by
    unfold shortT at h
    by_cases h5 : k = 5
    · subst h5
      exact ways_5 c o v l (ways_all l h.2) h.1
    · by_cases h4 : k = 4
      · subst h4
        exact ways_4 c o v l (ways_all l h.2) h.1
      · exact ways_leaf k c o v l h4 h5
theorem ways_all : ∀ (l : List Pt), shortL l → ∀ q ∈ l, WaysOK q
  | [], _, q, hq => by cases hq
  | p :: r, h, q, hq => by
    unfold shortL at h
    rcases List.mem_cons.1 hq with h1 | hq
    · rw [h1]; exact ways_any p h.1
    · exact ways_all r h.2 q hq
end

end Go.Proofs.Ytfmkalnnpddefaa
