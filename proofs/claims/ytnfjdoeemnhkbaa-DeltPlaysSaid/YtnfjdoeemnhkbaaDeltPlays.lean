/-
  The walk of DeltPlays.
-/
import Derived.Test.YtnfjdoeemnhkbaaDltk
import Derived.Test.YtnfjdoeemnhkbaaHeld
namespace Go.Proofs.Ytnfjdoeemnhkbaa
set_option linter.unusedVariables false
set_option linter.unusedSimpArgs false
open Go.RowKit

theorem name_wp {A : Nat} {w0 w : World} (h : Below A w0 w) : ∃ V : World, V = w := ⟨w, rfl⟩
set_option maxRecDepth 1000000 in
set_option maxHeartbeats 64000000 in
theorem walk_DeltPlays (a0 : Int) (a1 : Option Addr) (len1 cap1 : Nat) (z1 : List Int) (w : World) (w0 : (Lit.int .i64 a0).wf = true) (w1 : IsRow .i64 w a1 len1 cap1 z1) :
    Calls Try.prog 8 #[.int .i64 a0, .slice a1 len1 cap1] w fun e w' => e = .returned (.bool true) ∧ Below w.heap.size w w' := by
  obtain ⟨la, hla, h1, _⟩ := isRow_rd w1
  have HLA := Lib.hid hla
  have HC := Lib.hid (rdz_cells h1).2
  clear w0 w1 h1 hla
  go_enter Try.func8, Try.ntmps8
  go_upto_region 1 with (fail)
  obtain ⟨m1, hm1⟩ : ∃ m1, bits .and .i64 a0 1 = m1 := ⟨_, rfl⟩
  go_upto_if 25 with (fail)
  go_cut [0] (fun m wx => (∃ m' : Int, m = .int .i64 m') ∧ w = wx)
  case first =>
    by_cases h0 : m1 = 0
    · have hc : (m1 == 0) = true := by rw [beq_iff_eq]; exact h0
      clear h0
      go_wp2_with fail
      go_meet
      exact ⟨⟨_, rfl⟩, rfl⟩
    · have hc : (m1 == 0) = false := by rw [beq_eq_false_iff_ne]; exact h0
      clear h0
      go_wp2_with fail
      go_meet
      exact ⟨⟨_, rfl⟩, rfl⟩
  case rest =>
    obtain ⟨⟨m', rfl⟩, hwc⟩ := hcut
    subst hwc
    clear hm1
    obtain ⟨K, hK⟩ : ∃ K : Nat, min (max m' 1) 1000 = (K : Int) := ⟨(min (max m' 1) 1000).toNat, by omega⟩
    have hK2 : K ≤ 1000 := by omega
    have HK := Lib.hid hK
    have HS := Lib.hid (fun W => schema_rd 5 W)
    have HOK := Lib.hid (colsN_ok 5)
    clear hK
    go_wp2_with fail
    refine (dnew_any m' w).mono ?_
    rintro e W1 ⟨rfl, hW1⟩
    rw [HK.out] at hW1
    have hd1 : W1.heap[w.heap.size]? = some (.cells #[.int .i64 (K : Int), .slice none 0 0] 121 (0, 0)) := by rw [hW1]; exact heap_alloc_new w _
    have hb1 : Below w.heap.size w W1 := by rw [hW1]; exact below_alloc w _
    obtain ⟨D, hD⟩ : ∃ D, D = w.heap.size := ⟨_, rfl⟩
    rw [← hD] at hd1 hb1 ⊢
    have HD1 := Lib.hid hd1
    have HB1 := Lib.hid hb1
    have HDD := Lib.hid hD
    clear hd1 hb1 hD hW1
    go_upto_region 7 with (fail)
    rw [HK.out]
    go_wp2_with fail
    refine (HS.out W1).mono ?_
    rintro e W2 ⟨so, sc, rfl, hs2, hb2⟩
    obtain ⟨sn, hsn⟩ : ∃ sn, sn = (colsN 5).length := ⟨_, rfl⟩
    have hc2 := rdC_of hs2
    rw [← hsn] at hs2 hc2 ⊢
    have HSN := Lib.hid hsn
    have hsn6 : sn ≤ 6 := by rw [hsn]; exact HOK.out.le
    have HS2 := Lib.hid hs2
    have HZ12 := Lib.hid hb2.size
    have HB3 := Lib.hid (below_lay hb2 (.cells #[.slice so sn sc] 25))
    have hsb := heap_alloc_new W2 (.cells #[.slice so sn sc] 25)
    clear hs2 hc2 hb2 hsn
    go_upto_region 8 with (fail)
    obtain ⟨W3, hW3⟩ : ∃ W3 : World, W3 = W2.alloc (.cells #[.slice so sn sc] 25) := ⟨_, rfl⟩
    obtain ⟨SB, hSB⟩ : ∃ SB, SB = W2.heap.size := ⟨_, rfl⟩
    have HB23 := Lib.hid (below_alloc W2 (.cells #[.slice so sn sc] 25))
    have HZ3 := Lib.hid (show (W2.alloc (.cells #[.slice so sn sc] 25)).heap.size = W2.heap.size + 1 by simp)
    rw [← hW3] at HB3 hsb HB23 HZ3 ⊢
    rw [← hSB] at hsb ⊢
    have HSB := Lib.hid hsb
    have HSE := Lib.hid hSB
    clear hW3 hSB hsb
    have hmm := run_makeMap (P := Try.prog) 78 W3
    go_upto_region 9 with (fail)
    clear hmm
    obtain ⟨W4, hW4⟩ : ∃ W4 : World, W4 = W3.alloc (.map #[] 0) := ⟨_, rfl⟩
    obtain ⟨M, hM⟩ : ∃ M, M = W3.heap.size := ⟨_, rfl⟩
    have hown0 := World.ownsMap_made (H := Value) W3 Try.prog 3 heldR
    have hb4 := below_alloc W3 (.map #[] 0)
    rw [← hW4, ← hM] at hown0
    rw [← hW4] at hb4 ⊢
    rw [← hM]
    have hdl : D < W1.heap.size := (Array.getElem?_eq_some_iff.1 HD1.out).1
    have hml : M < W4.heap.size := by rw [hW4, hM]; simp
    have hdm : D < M := by have := HB3.out.size; omega
    have hd4 := (below_then HB3.out hb4).block D hdl |>.trans HD1.out
    have hsb4 := (hb4.block SB (Array.getElem?_eq_some_iff.1 HSB.out).1).trans HSB.out
    obtain ⟨S, hS⟩ : ∃ S : World → Prop, S = fun w' => RdC w' (.slice so sn sc) (colsN 5) ∧ w'.cell? ⟨SB, 0, none⟩ = some (.slice so sn sc) := ⟨_, rfl⟩
    have HSS := Lib.hid (show ∀ w', S w' → RdC w' (.slice so sn sc) (colsN 5) ∧ w'.cell? ⟨SB, 0, none⟩ = some (.slice so sn sc) from fun w' h => by rw [hS] at h; exact h)
    have HI0 := Lib.hid (show PlI w D M K 0 0 none 0 [] [] (.map []) S (fun b => b = D ∨ b = M) W4 from
      { sto := { len := rfl, few := Nat.zero_le _, top := hK2, rise := (fun i j a b _ h => by simp [VrS] at h), hd := hd4, own := World.ownsRow_nil .., ne := (by simp [Value.ownBlock]), kd := Nat.le_refl _, xd := .inl rfl, xg := (fun g hg => by simp [Value.ownBlock] at hg), xl := (fun b hb => by rcases hb with h | h <;> omega), rows := (fun x hx => by cases hx), ok := (fun x hx => by cases hx) }
        map := { own := hown0, xm := .inr rfl, size := rfl, has := (fun t => rfl), el := (fun x hx => by cases hx) }
        nm := (by simp [Value.ownBlock])
        md := hdm
        sch := (by
          rw [hS]
          intro w' ha
          have hz3 := HZ3.out
          have hse := HSE.out
          have hw12 := HZ12.out
          refine ⟨rdC_of ((HS2.out.above (fun b hb1 hb2 => ?_) (Nat.le_refl _))), ?_⟩
          · exact (ha.block b (by omega) (by omega)).trans ((hb4.block b (by omega)).trans (HB23.out.block b hb2))
          · rw [cell_of_row w' SB 0 _ _ _ ((ha.block SB (by omega) (by omega)).trans hsb4)]
            rfl)
        wf := (fun x hx => by cases hx)
        bel := (HB1.out.trans (HB3.out.mono (Nat.le_of_lt hdl))).trans (hb4.mono (by have := HB3.out.size; omega)) })
    clear hown0 hb4 hd4 hsb4 hS hW4 hM
    go_wp2_with fail
    go_loopw [8] (fun i wr => ∃ (q n : Nat) (va : Option Addr) (vc : Nat) (vr : List DV) (Dm : DataW Value) (X : Nat → Prop), q ≤ 100 ∧ i = .int .i64 (q : Int) ∧ PlI w D M K q n va vc vr vr Dm S X wr) (fun i _ => 100 - (intOf i).toNat)
    case atStart => exact ⟨0, 0, none, 0, [], .map [], _, Nat.zero_le _, rfl, HI0.out⟩
    case round =>
      obtain ⟨q, n, va, vc, vr, Dm, X, hq, rfl, hI⟩ := hrel
      have HI := Lib.hid hI
      clear hI HI0
      by_cases hlt : q < len1 ∧ q < 100
      · obtain ⟨hlt1, hlt2⟩ := hlt
        have hd1 : decide ((q : Int) < (len1 : Int)) = true := by simp; omega
        have hd2 : decide ((q : Int) < 100) = true := by simp; omega
        obtain ⟨b, off, rfl, hcell⟩ := HC.out (by omega)
        have hx0 := hcell q hlt1
        obtain ⟨x, hxe⟩ : ∃ x, x = la.getD q 0 := ⟨_, rfl⟩
        rw [← hxe] at hx0
        have HX0 := Lib.hid hx0
        have hx := (HI.out.bel.cell (p := ⟨b, off + q, none⟩) (by rw [HDD.out]; exact World.block_lt_of_cell? _ _ hx0)).trans hx0
        obtain ⟨c15, hc15, hc15l⟩ := and_some (x / 8) 15 15 rfl (by decide)
        obtain ⟨c7, hc7, hc7l⟩ := and_some x 7 7 rfl (by decide)
        clear hcell hxe hx0
        obtain ⟨id, hid⟩ : ∃ id : Int, id = (c15 : Int) - 2 := ⟨_, rfl⟩
        have HID := Lib.hid hid
        go_upto_region 13 with (fail)
        rw [← hid]
        clear hid hc15
        have HWF := Lib.hid (wf_small (a := id) (by have := HID.out; omega) (by have := HID.out; omega))
        have HKEY := Lib.hid (keyI HWF.out)
        clear HID
        obtain ⟨i0, s1, s2, s3, s4, r0, oa, om, oc, _, _, hat, hrow, hin⟩ := HI.out.looks id
        obtain ⟨inb, hinb⟩ : ∃ inb, inb = hasV vr id := ⟨_, rfl⟩
        rw [← hinb] at hin
        have HAT := Lib.hid hat
        have HIN := Lib.hid hin
        have HHAS := Lib.hid (show Maps.has Dm (.int .i64 id) = inb from by rw [hinb]; exact HI.out.map.has id)
        have HINB := Lib.hid hinb
        have HROW0 := Lib.hid hrow
        clear hat hin hinb hrow
        go_upto_region 14 with (at_lookup; refine wpList_lookup_held _ rfl _ _ 78 rfl 3 84 lawI Try.underlying78 (zeroVersion _) M _ _ rfl HI.out.map.own _ (.int .i64 id) rfl HKEY.out _ HAT.out _ HHAS.out ?_)
        have hob := heap_alloc_new wr (.cells #[.int .i64 i0, .slice oa om oc, .int .i64 s1, .int .i64 s2, .int .i64 s3, .int .i64 s4] 84)
        have hba := below_alloc wr (.cells #[.int .i64 i0, .slice oa om oc, .int .i64 s1, .int .i64 s2, .int .i64 s3, .int .i64 s4] 84)
        have hsz13 : (wr.alloc (.cells #[.int .i64 i0, .slice oa om oc, .int .i64 s1, .int .i64 s2, .int .i64 s3, .int .i64 s4] 84)).heap.size = wr.heap.size + 1 := by simp
        obtain ⟨W13, hW13⟩ : ∃ W13 : World, W13 = wr.alloc (.cells #[.int .i64 i0, .slice oa om oc, .int .i64 s1, .int .i64 s2, .int .i64 s3, .int .i64 s4] 84) := ⟨_, rfl⟩
        rw [← hW13] at hob hba hsz13 ⊢
        have HI13 := Lib.hid (HI.out.grow (Y := fun b => X b ∨ b = wr.heap.size) hba (fun _ h => .inl h) (fun b h => h.imp_right fun e => by omega) (fun b h => by
          rcases h with h | h
          · have := HI.out.sto.xl b h; omega
          · omega))
        have HROW13 := Lib.hid (show Free (fun b => X b ∨ b = wr.heap.size) W13 (fun w => RdRow w (.slice oa om oc) r0) from HROW0.out.to (agree_below hba hba.size) (fun i hi h => by omega) (fun i hi h => h.elim (fun e => e) (fun e => by omega)))
        have HXW := Lib.hid HI.out.sto.xl
        have HDW := Lib.hid HI.out.sto.ld
        have HMW := Lib.hid HI.out.map.lt
        have HGW := Lib.hid (own_lt2 HI.out.sto.own)
        obtain ⟨OB, hOB⟩ : ∃ OB, OB = wr.heap.size := ⟨_, rfl⟩
        rw [← hOB] at hob hsz13 HI13 HROW13 HXW HDW HMW HGW ⊢
        have HOB := Lib.hid hob
        have HS13 := Lib.hid hsz13
        have hx13 := (hba.cell (p := ⟨b, off + q, none⟩) (World.block_lt_of_cell? _ _ hx)).trans hx
        have HX13 := Lib.hid hx13
        clear hob hba hsz13 hW13 hx hx13 HROW0 HI hOB
        have HRW := Lib.hid (show ∀ w', Below W13.heap.size W13 w' → Calls Try.prog 19 #[.agg #[.slice so sn sc], .int .i64 (x / 128)] w' fun e w'' => ∃ (xa : Option Addr) (xc : Nat), e = .returned (.slice xa sn xc) ∧ (∀ Z : Nat → Prop, (∀ b, Z b → b < w'.heap.size) → Free Z w'' fun w => RdRow w (.slice xa sn xc) (rowOf (colsN 5) (x / 128))) ∧ Below w'.heap.size w' w'' from by
          intro w' hb
          refine (row_is (.slice so sn sc) (colsN 5) (x / 128) w' (HSS.out _ (HI13.out.kept hb).sch.now).1 HOK.out.le).mono ?_
          rintro e w'' ⟨u, l, rfl, h1, h2, h3, h4⟩
          obtain ⟨ya, yc, rfl⟩ := oinv_shape h2
          have hl : l.length = sn := by have := congrArg List.length h1; rw [List.length_map, rowOf_len, ← HSN.out] at this; exact this
          rw [hl] at h2 ⊢
          exact ⟨ya, yc, rfl, fun Z hZ => row_free h1 h2 h4 Z hZ, h3⟩)
        have HCX := Lib.hid (show ∀ w', Below W13.heap.size W13 w' → ((w'.cell? ⟨SB, 0, none⟩ = some (.slice so sn sc) ∧ w'.cell? ⟨b, off + q, none⟩ = some (.int .i64 x)) ∧ Below W13.heap.size W13 w') from fun w' h => ⟨⟨(HSS.out _ (HI13.out.kept h).sch.now).2, (h.cell (World.block_lt_of_cell? _ _ HX13.out)).trans HX13.out⟩, h⟩)
        obtain ⟨R, hR⟩ : ∃ R, R = rowOf (colsN 5) (x / 128) := ⟨_, rfl⟩
        have HRK := Lib.hid (show RowOk R by rw [hR]; exact rowOf_ok _ _ HOK.out.le)
        rw [← hR] at HRW
        clear hR
        go_cut [12] (fun v wx => ∃ (VB : Nat) (xa : Option Addr) (xc : Nat), v = .pointer (some ⟨VB, 0, none⟩) ∧ W13.heap.size ≤ VB ∧ wx.heap[VB]? = some (.cells #[.int .i64 id, .slice xa sn xc, .int .i64 0, .int .i64 (q : Int), .int .i64 0, .int .i64 0] 84 (0, 0)) ∧ (∀ Z : Nat → Prop, (∀ b, Z b → b < W13.heap.size) → Free Z wx fun w => RdRow w (.slice xa sn xc) R) ∧ Below W13.heap.size W13 wx)
        case first =>
          refine wp_region_noPanic ?_
          refine wp_region_held_drew (S := fun w' => (w'.cell? ⟨SB, 0, none⟩ = some (.slice so sn sc) ∧ w'.cell? ⟨b, off + q, none⟩ = some (.int .i64 x)) ∧ Below W13.heap.size W13 w') (by kernel_rfl) ?hS0 (fun hHeld => ?go0)
          case' hS0 => ((try dsimp only); exact HCX.out _ (below_drw _ _))
          refine tkH 0 (v := ?v0) rfl (.inl ⟨by rfl, ?y0⟩) ?_
          case' y0 => (intro w hSw; first | (go_simp; done) | (go_simp; with_reducible rfl))
          (try simp only [Act.put, List.getElem_toArray, List.getElem_cons_succ, List.getElem_cons_zero, List.setIfInBounds_toArray, List.set_cons_zero, List.set_cons_succ])
          refine tkH 1 (v := ?v1) rfl (.inl ⟨by rfl, ?y1⟩) ?_
          case' y1 => (intro w hSw; first | (go_simp; done) | (go_simp; with_reducible rfl))
          (try simp only [Act.put, List.getElem_toArray, List.getElem_cons_succ, List.getElem_cons_zero, List.setIfInBounds_toArray, List.set_cons_zero, List.set_cons_succ])
          refine tkH 2 (v := ?v2) rfl (.inl ⟨by rfl, ?y2⟩) ?_
          case' y2 => (intro w hSw; first | (go_simp; done) | (go_simp; with_reducible rfl))
          (try simp only [Act.put, List.getElem_toArray, List.getElem_cons_succ, List.getElem_cons_zero, List.setIfInBounds_toArray, List.set_cons_zero, List.set_cons_succ])
          refine tkH 3 (v := ?v3) rfl (.inl ⟨by rfl, ?y3⟩) ?_
          case' y3 => (intro w hSw; first | (go_simp; done) | (go_simp; with_reducible rfl))
          (try simp only [Act.put, List.getElem_toArray, List.getElem_cons_succ, List.getElem_cons_zero, List.setIfInBounds_toArray, List.set_cons_zero, List.set_cons_succ])
          refine tkH 4 (v := ?v4) rfl (.inl ⟨by rfl, ?y4⟩) ?_
          case' y4 => (intro w hSw; first | (go_simp; done) | (go_simp; with_reducible rfl))
          (try simp only [Act.put, List.getElem_toArray, List.getElem_cons_succ, List.getElem_cons_zero, List.setIfInBounds_toArray, List.set_cons_zero, List.set_cons_succ])
          refine tkH 5 (v := ?v5) rfl (.inl ⟨by rfl, ?y5⟩) ?_
          case' y5 => (intro w hSw; first | (go_simp; done) | (go_simp; with_reducible rfl))
          (try simp only [Act.put, List.getElem_toArray, List.getElem_cons_succ, List.getElem_cons_zero, List.setIfInBounds_toArray, List.set_cons_zero, List.set_cons_succ])
          refine tkH 6 (v := ?v6) rfl (.inl ⟨by rfl, ?y6⟩) ?_
          case' y6 => (intro w hSw; first | (go_simp; done) | (go_simp; with_reducible rfl))
          (try simp only [Act.put, List.getElem_toArray, List.getElem_cons_succ, List.getElem_cons_zero, List.setIfInBounds_toArray, List.set_cons_zero, List.set_cons_succ])
          refine tkH 8 (v := ?v8) rfl (.inl ⟨by rfl, ?y8⟩) ?_
          case' y8 => (intro w hSw; first | (go_simp; done) | (go_simp; with_reducible rfl))
          (try simp only [Act.put, List.getElem_toArray, List.getElem_cons_succ, List.getElem_cons_zero, List.setIfInBounds_toArray, List.set_cons_zero, List.set_cons_succ])
          refine tkH 9 (v := ?v9) rfl (.inl ⟨by rfl, ?y9⟩) ?_
          case' y9 => (intro w hSw; first | (go_simp; done) | (go_simp; with_reducible rfl))
          (try simp only [Act.put, List.getElem_toArray, List.getElem_cons_succ, List.getElem_cons_zero, List.setIfInBounds_toArray, List.set_cons_zero, List.set_cons_succ])
          refine tkH 10 (v := ?v10) rfl (.inl ⟨by rfl, ?y10⟩) ?_
          case' y10 => (intro w hSw; first | (go_simp; done) | (go_simp; with_reducible rfl))
          (try simp only [Act.put, List.getElem_toArray, List.getElem_cons_succ, List.getElem_cons_zero, List.setIfInBounds_toArray, List.set_cons_zero, List.set_cons_succ])
          refine wpAnyH_ready (rs := [7, 12]) (by kernel_rfl) (by simp) ?_
          refine AllReadyH.cons (o := _) rfl (fun K7a hK7a => ?_) (AllReadyH.cons (o := _) rfl (fun K12a hK12a => ?_) AllReadyH.nil)
          · go_simp
            (go_at_call 19; refine (HRW.out _ (hHeld.2)).mono ?_; rintro e w2 ⟨xa, xc, rfl, hfree, hb2⟩; have hbc : Below W13.heap.size W13 w2 := below_then (hHeld.2) hb2)
            refine hK7a.out _ _ ?hS7a (fun hHeld7a => ?_)
            case' hS7a => ((try dsimp only); exact HCX.out _ hbc)
            clear hK7a K7a
            (try simp only [Act.put, List.getElem_toArray, List.getElem_cons_succ, List.getElem_cons_zero, List.setIfInBounds_toArray, List.set_cons_zero, List.set_cons_succ])
            refine tkH 11 (v := ?v11a) rfl (.inl ⟨by rfl, ?y11a⟩) ?_
            case' y11a => (intro w hSw; first | (go_simp; done) | (go_simp; with_reducible rfl))
            (try simp only [Act.put, List.getElem_toArray, List.getElem_cons_succ, List.getElem_cons_zero, List.setIfInBounds_toArray, List.set_cons_zero, List.set_cons_succ])
            refine wpAnyH_ready (rs := [12]) (by kernel_rfl) (by simp) ?_
            refine AllReadyH.cons (o := _) rfl (fun K12b hK12b => ?_) AllReadyH.nil
            go_simp
            refine hK12b.out _ _ ?hS12b (fun hHeld12b => ?_)
            case' hS12b => ((try dsimp only); exact HCX.out _ (below_lay hbc _))
            clear hK12b K12b
            (try simp only [Act.put, List.getElem_toArray, List.getElem_cons_succ, List.getElem_cons_zero, List.setIfInBounds_toArray, List.set_cons_zero, List.set_cons_succ])
            refine wpAnyH_ready (rs := [13]) (by kernel_rfl) (by simp) ?_
            refine AllReadyH.cons (o := _) rfl (fun K13c hK13c => ?_) AllReadyH.nil
            go_simp
            refine hK13c.out _ _ ?hS13c (fun hHeld13c => ?_)
            case' hS13c => ((try dsimp only); exact HCX.out _ (below_lay hbc _))
            clear hK13c K13c
            (try simp only [Act.put, List.getElem_toArray, List.getElem_cons_succ, List.getElem_cons_zero, List.setIfInBounds_toArray, List.set_cons_zero, List.set_cons_succ])
            refine wpAnyH_done (by kernel_rfl) ?_ _
            refine NoPanic.normal ?_
            go_wp2_with fail
            go_meet
            exact ⟨_, xa, xc, rfl, hbc.size, heap_alloc_new w2 _, fun Z hZ => (hfree Z hZ).to (agree_alloc Z w2 _) (fun _ _ h => h) (fun _ _ h => h), below_lay hbc _⟩
          · go_simp
            refine hK12a.out _ _ ?hS12a (fun hHeld12a => ?_)
            case' hS12a => ((try dsimp only); exact HCX.out _ (below_lay hHeld.2 _))
            clear hK12a K12a
            (try simp only [Act.put, List.getElem_toArray, List.getElem_cons_succ, List.getElem_cons_zero, List.setIfInBounds_toArray, List.set_cons_zero, List.set_cons_succ])
            refine wpAnyH_ready (rs := [7]) (by kernel_rfl) (by simp) ?_
            refine AllReadyH.cons (o := _) rfl (fun K7b hK7b => ?_) AllReadyH.nil
            go_simp
            (go_at_call 19; refine (HRW.out _ (hHeld12a.2)).mono ?_; rintro e w2 ⟨xa, xc, rfl, hfree, hb2⟩; have hbc : Below W13.heap.size W13 w2 := below_then (hHeld12a.2) hb2; have g8 : w2.heap[W13.heap.size]? = some (.cells #[.int .i64 0, .slice none 0 0, .int .i64 0, .int .i64 0, .int .i64 0, .int .i64 0] 84 (0, 0)) := (hb2.block W13.heap.size (by simp)).trans (heap_alloc_new W13.drew _); have g80 : w2.cell? ⟨W13.heap.size, 0, none⟩ = some (.int .i64 0) := (by rw [cell_of_row w2 W13.heap.size 0 _ _ _ g8]; rfl); have f80 : w2.frozen? ⟨W13.heap.size, 0, none⟩ = false := frozen_of_row w2 W13.heap.size 0 _ _ g8; have g81 : w2.cell? ⟨W13.heap.size, 1, none⟩ = some (.slice none 0 0) := (by rw [cell_of_row w2 W13.heap.size 1 _ _ _ g8]; rfl); have f81 : w2.frozen? ⟨W13.heap.size, 1, none⟩ = false := frozen_of_row w2 W13.heap.size 1 _ _ g8; have g82 : w2.cell? ⟨W13.heap.size, 2, none⟩ = some (.int .i64 0) := (by rw [cell_of_row w2 W13.heap.size 2 _ _ _ g8]; rfl); have f82 : w2.frozen? ⟨W13.heap.size, 2, none⟩ = false := frozen_of_row w2 W13.heap.size 2 _ _ g8; have g83 : w2.cell? ⟨W13.heap.size, 3, none⟩ = some (.int .i64 0) := (by rw [cell_of_row w2 W13.heap.size 3 _ _ _ g8]; rfl); have f83 : w2.frozen? ⟨W13.heap.size, 3, none⟩ = false := frozen_of_row w2 W13.heap.size 3 _ _ g8; have g84 : w2.cell? ⟨W13.heap.size, 4, none⟩ = some (.int .i64 0) := (by rw [cell_of_row w2 W13.heap.size 4 _ _ _ g8]; rfl); have f84 : w2.frozen? ⟨W13.heap.size, 4, none⟩ = false := frozen_of_row w2 W13.heap.size 4 _ _ g8; have g85 : w2.cell? ⟨W13.heap.size, 5, none⟩ = some (.int .i64 0) := (by rw [cell_of_row w2 W13.heap.size 5 _ _ _ g8]; rfl); have f85 : w2.frozen? ⟨W13.heap.size, 5, none⟩ = false := frozen_of_row w2 W13.heap.size 5 _ _ g8)
            refine hK7b.out _ _ ?hS7b (fun hHeld7b => ?_)
            case' hS7b => ((try dsimp only); exact HCX.out _ hbc)
            clear hK7b K7b
            (try simp only [Act.put, List.getElem_toArray, List.getElem_cons_succ, List.getElem_cons_zero, List.setIfInBounds_toArray, List.set_cons_zero, List.set_cons_succ])
            refine tkH 11 (v := ?v11b) rfl (.inl ⟨by rfl, ?y11b⟩) ?_
            case' y11b => (intro w hSw; first | (go_simp; done) | (go_simp; with_reducible rfl))
            (try simp only [Act.put, List.getElem_toArray, List.getElem_cons_succ, List.getElem_cons_zero, List.setIfInBounds_toArray, List.set_cons_zero, List.set_cons_succ])
            refine wpAnyH_ready (rs := [13]) (by kernel_rfl) (by simp) ?_
            refine AllReadyH.cons (o := _) rfl (fun K13d hK13d => ?_) AllReadyH.nil
            go_simp
            refine hK13d.out _ _ ?hS13d (fun hHeld13d => ?_)
            case' hS13d => ((try dsimp only); exact HCX.out _ ((((((hbc.setCell (p := ⟨W13.heap.size, 0, none⟩) (Nat.le_refl _) _).setCell (p := ⟨W13.heap.size, 1, none⟩) (Nat.le_refl _) _).setCell (p := ⟨W13.heap.size, 2, none⟩) (Nat.le_refl _) _).setCell (p := ⟨W13.heap.size, 3, none⟩) (Nat.le_refl _) _).setCell (p := ⟨W13.heap.size, 4, none⟩) (Nat.le_refl _) _).setCell (p := ⟨W13.heap.size, 5, none⟩) (Nat.le_refl _) _))
            clear hK13d K13d
            (try simp only [Act.put, List.getElem_toArray, List.getElem_cons_succ, List.getElem_cons_zero, List.setIfInBounds_toArray, List.set_cons_zero, List.set_cons_succ])
            refine wpAnyH_done (by kernel_rfl) ?_ _
            refine NoPanic.normal ?_
            go_wp2_with fail
            go_meet
            exact ⟨_, xa, xc, rfl, Nat.le_refl _, six_heap g8, fun Z hZ => fun w3 h3 => hfree (fun b => Z b ∨ b = W13.heap.size) (fun b hb => by simp; rcases hb with hb | hb; (have := hZ b hb; omega); omega) w3 ((((((((Agree.refl (fun b => Z b ∨ b = W13.heap.size) w2).set ⟨W13.heap.size, 0, none⟩ _ (.inl (.inr rfl))).set ⟨W13.heap.size, 1, none⟩ _ (.inl (.inr rfl))).set ⟨W13.heap.size, 2, none⟩ _ (.inl (.inr rfl))).set ⟨W13.heap.size, 3, none⟩ _ (.inl (.inr rfl))).set ⟨W13.heap.size, 4, none⟩ _ (.inl (.inr rfl))).set ⟨W13.heap.size, 5, none⟩ _ (.inl (.inr rfl))).trans (h3.mono (fun i _ h => .inl h))), ((((((hbc.setCell (p := ⟨W13.heap.size, 0, none⟩) (Nat.le_refl _) _).setCell (p := ⟨W13.heap.size, 1, none⟩) (Nat.le_refl _) _).setCell (p := ⟨W13.heap.size, 2, none⟩) (Nat.le_refl _) _).setCell (p := ⟨W13.heap.size, 3, none⟩) (Nat.le_refl _) _).setCell (p := ⟨W13.heap.size, 4, none⟩) (Nat.le_refl _) _).setCell (p := ⟨W13.heap.size, 5, none⟩) (Nat.le_refl _) _)⟩
        case rest =>
          obtain ⟨VB, xa, xc, rfl, hvw, hvb, hfr, hbw⟩ := hcut
          obtain ⟨W14, hW14⟩ := name_wp hbw
          rw [← hW14] at hvb hfr hbw ⊢
          clear hW14
          have HI14 := Lib.hid (HI13.out.kept hbw)
          have HROWV := Lib.hid (hfr _ HI13.out.sto.xl)
          have HROWO := Lib.hid (show Free (fun b => X b ∨ b = OB) W14 (fun w => RdRow w (.slice oa om oc) r0) from HROW13.out.to (agree_below hbw hbw.size) (fun i hi h => by omega) (fun i hi h => h))
          have HVB := Lib.hid hvb
          have HOB14 := Lib.hid ((hbw.block OB (by have := HS13.out; omega)).trans HOB.out)
          have hx14 := (HCX.out W14 hbw).1.2
          have HVW := Lib.hid (show OB < VB by have := HS13.out; omega)
          have HNY := Lib.hid (show ¬ YD D (.slice va n vc) VB ∧ ¬ YD D (.slice va n vc) OB from by
            have h1 := HVW.out
            have h2 := HDW.out
            refine ⟨fun e => ?_, fun e => ?_⟩
            · rcases e with e | e
              · omega
              · have := HGW.out VB e
                omega
            · rcases e with e | e
              · omega
              · have := HGW.out OB e
                omega)
          have HVL := Lib.hid (show VB < W14.heap.size ∧ OB < W14.heap.size from ⟨(Array.getElem?_eq_some_iff.1 HVB.out).1, (Array.getElem?_eq_some_iff.1 HOB14.out).1⟩)
          clear hvb hfr hbw hvw HOB HROW13 HRW HCX HX13
          go_upto_block 2 with (fail)
          go_cut [11, 13, 54, 57, 59] (fun _ _ _ _ _ wx => ∃ (n' : Nat) (va' : Option Addr) (vc' : Nat) (vr' : List DV) (Dm' : DataW Value) (X' : Nat → Prop), PlI w D M K (q + 1) n' va' vc' vr' vr' Dm' S X' wx)
          case first =>
            go_upto_if 77 with (fail)
            go_cut [77] (fun s wx => s = .bool (decide (c7 ≤ 2)) ∧ W14 = wx)
            case first =>
              as_aux_lemma =>
                by_cases h0 : c7 = 0
                · have k0 : ((c7 : Int) == 0) = true := by rw [beq_iff_eq]; omega
                  go_wp2_with fail
                  go_meet
                  exact ⟨by rw [show decide (c7 ≤ 2) = true from decide_eq_true (by omega), k0], rfl⟩
                by_cases h1 : c7 = 1
                · have k0 : ((c7 : Int) == 0) = false := by rw [beq_eq_false_iff_ne]; omega
                  have k1 : ((c7 : Int) == 1) = true := by rw [beq_iff_eq]; omega
                  go_wp2_with fail
                  go_meet
                  exact ⟨by rw [show decide (c7 ≤ 2) = true from decide_eq_true (by omega)], rfl⟩
                by_cases h2 : c7 = 2
                · have k0 : ((c7 : Int) == 0) = false := by rw [beq_eq_false_iff_ne]; omega
                  have k1 : ((c7 : Int) == 1) = false := by rw [beq_eq_false_iff_ne]; omega
                  have k2 : ((c7 : Int) == 2) = true := by rw [beq_iff_eq]; omega
                  go_wp2_with fail
                  go_meet
                  exact ⟨by rw [show decide (c7 ≤ 2) = true from decide_eq_true (by omega)], rfl⟩
                have k0 : ((c7 : Int) == 0) = false := by rw [beq_eq_false_iff_ne]; omega
                have k1 : ((c7 : Int) == 1) = false := by rw [beq_eq_false_iff_ne]; omega
                have k2 : ((c7 : Int) == 2) = false := by rw [beq_eq_false_iff_ne]; omega
                go_wp2_with fail
                go_meet
                exact ⟨by rw [show decide (c7 ≤ 2) = false from decide_eq_false (by omega)], rfl⟩
            case rest =>
              obtain ⟨rfl, rfl⟩ := hcut
              by_cases h2 : c7 ≤ 2
              · have hd77 : decide (c7 ≤ 2) = true := by rw [decide_eq_true_iff]; exact h2
                rw [hd77]
                have hM := HI14.out.map.own
                have HML := Lib.hid hM
                have HSZ := Lib.hid (show Maps.size Dm = n by rw [HI14.out.map.size, HI14.out.sto.len])
                clear hM
                by_cases hib : inb = true
                · have HIB := Lib.hid hib
                  as_aux_lemma =>
                    have HCALL := Lib.hid (dadd_not HI14.out.sto id 0 (q : Int) 0 0 xa sn xc (.inr (HINB.out.symm.trans HIB.out)))
                    have hv := sixes HVB.out
                    obtain ⟨⟨cv0, cv1, cv2, cv3, cv4, cv5⟩, fv⟩ := hv
                    go_wp2_with fail
                    refine HCALL.out.mono ?_
                    rintro e w2 ⟨rfl, hb2⟩
                    have HI2 := Lib.hid (HI14.out.kept hb2)
                    clear hb2 cv0 cv1 cv2 cv3 cv4 cv5 fv
                    go_wp2_with fail
                    have HRES := Lib.hid HI2.out.next
                    go_meet
                    exact ⟨n, va, vc, vr, Dm, _, HRES.out⟩
                · replace hib : inb = false := by simpa using hib
                  have HIB := Lib.hid hib
                  by_cases hnk : n < K
                  · have hd : decide ((n : Int) < (K : Int)) = true := by simp; exact hnk
                    as_aux_lemma =>
                      have HCALL := Lib.hid (dadd_any HI14.out.sto hnk id 0 (q : Int) 0 0 xa sn xc R HROWV.out.now HRK.out (HINB.out.symm.trans HIB.out))
                      have hv := sixes HVB.out
                      obtain ⟨⟨cv0, cv1, cv2, cv3, cv4, cv5⟩, fv⟩ := hv
                      have hln : ∀ ty, (Builtin.len_ #[78] ty #[.map (some M)]).run Try.prog W14 = .ok (.int .i64 (n : Int)) W14 := fun ty => by have h := HML.out.len Try.underlying78 ty; rw [HSZ.out] at h; exact h
                      go_wp2_with fail
                      refine HCALL.out.mono ?_
                      rintro e w2 ⟨rfl, ao, cap, na, nn, nc, p, hp, hs, hng, ha, hb⟩
                      have HI2 := Lib.hid (HI14.out.added hs hng ha hb HWF.out)
                      have HM2 := Lib.hid HI2.out.map.own
                      have HRV2 := Lib.hid (show Free _ w2 (fun w => RdRow w (.slice xa sn xc) R) from HROWV.out.to ha (fun i _ hi => by
                        rcases hi with hi | hi
                        · rw [hi]; exact HI14.out.sto.xd
                        · exact HI14.out.sto.xg i hi) (fun i hi (h : (X i ∨ i = OB) ∨ (Value.slice ao (n + 1) cap).ownBlock = some i) => h.elim (fun e => e) (fun e => (hng i e).elim (HI14.out.sto.xg i) (fun e => by omega))))
                      have HPV := Lib.hid (show p ≤ vr.length by rw [HI14.out.sto.len]; exact hp)
                      clear cv0 cv1 cv2 cv3 cv4 cv5 fv
                      obtain ⟨⟨cv0, cv1, cv2, cv3, cv4, cv5⟩, fv⟩ := sixes ((ha.block VB HVL.out.1 HNY.out.1).trans HVB.out)
                      clear hs hng ha hb hp HCALL hln
                      go_wp2_with (at_mapUpdate; refine wpList_mapUpdate_own _ rfl _ _ _ 78 rfl 3 84 lawI Try.underlying78 heldR M q _ rfl HM2.out (by unfold maxLen; omega) _ _ (.int .i64 id) rfl rfl HKEY.out _ [] rfl ?_; intro w3 hown3 hgrow3)
                      simp only [Act.put]
                      have HRES := Lib.hid (HI2.out.put_new (n := n) (x := ((⟨id, na, nn, nc, 0, (q : Int), 0, 0⟩ : Vr), R)) (s := .slice xa sn xc) HPV.out (HINB.out.symm.trans HIB.out) hown3 hgrow3 HRV2.out)
                      clear hown3 hgrow3
                      go_meet
                      exact ⟨n + 1, ao, cap, _, _, _, HRES.out⟩
                  · have hd : decide ((n : Int) < (K : Int)) = false := by simp; omega
                    as_aux_lemma =>
                      have HCALL := Lib.hid (dadd_not HI14.out.sto id 0 (q : Int) 0 0 xa sn xc (.inl (by omega)))
                      have hln : ∀ ty, (Builtin.len_ #[78] ty #[.map (some M)]).run Try.prog W14 = .ok (.int .i64 (n : Int)) W14 := fun ty => by have h := HML.out.len Try.underlying78 ty; rw [HSZ.out] at h; exact h
                      have hv := sixes HVB.out
                      obtain ⟨⟨cv0, cv1, cv2, cv3, cv4, cv5⟩, fv⟩ := hv
                      go_wp2_with fail
                      refine HCALL.out.mono ?_
                      rintro e w2 ⟨rfl, hb2⟩
                      have HI2 := Lib.hid (HI14.out.kept hb2)
                      clear hb2 cv0 cv1 cv2 cv3 cv4 cv5 fv
                      go_wp2_with fail
                      have HRES := Lib.hid HI2.out.next
                      go_meet
                      exact ⟨n, va, vc, vr, Dm, _, HRES.out⟩
              · have hd77 : decide (c7 ≤ 2) = false := by rw [decide_eq_false_iff_not]; exact h2
                rw [hd77]
                by_cases h3 : c7 = 3
                · have k3 : ((c7 : Int) == 3) = true := by rw [beq_iff_eq]; omega
                  clear h3
                  by_cases hib : inb = true
                  · have HIB := Lib.hid hib
                    as_aux_lemma =>
                      obtain ⟨hi0, p, xx, hp, hxi, hr, e1, e2, e3, e4⟩ := HIN.out HIB.out
                      have HEQ := Lib.hid (show i0 = id ∧ xx.2 = r0 ∧ xx.1.s1 = s1 ∧ xx.1.s2 = s2 ∧ xx.1.s3 = s3 ∧ xx.1.s4 = s4 from ⟨hi0, hr, e1, e2, e3, e4⟩)
                      clear hi0 hr e1 e2 e3 e4
                      have HXI := Lib.hid hxi
                      have HPP := Lib.hid hp
                      have HWX := Lib.hid (HI14.out.wf)
                      have HCALL := Lib.hid (dset_t HI14.out.sto p xx hp hxi 0 (q : Int) 0 0)
                      have hv := sixes HVB.out
                      obtain ⟨⟨cv0, cv1, cv2, cv3, cv4, cv5⟩, fv⟩ := hv
                      clear hp hxi
                      go_wp2_with fail
                      refine HCALL.out.mono ?_
                      rintro e w2 ⟨rfl, hs, ha, hb⟩
                      have HI2 := Lib.hid (HI14.out.turned hs rfl ha hb (fun y hy => by
                        rcases List.mem_or_eq_of_mem_set hy with h | h
                        · exact HWX.out y h
                        · rw [h]; exact HWF.out))
                      have HRX := Lib.hid (show Free _ w2 (fun w => RdRow w (.slice oa om oc) r0) from HROWO.out.to ha (fun i _ hi => by
                        rcases hi with hi | hi
                        · rw [hi]; exact HI14.out.sto.xd
                        · exact HI14.out.sto.xg i hi) (fun _ _ h => h))
                      clear cv0 cv1 cv2 cv3 cv4 cv5 fv
                      obtain ⟨⟨cv0, cv1, cv2, cv3, cv4, cv5⟩, fv⟩ := sixes ((ha.block VB HVL.out.1 HNY.out.1).trans HVB.out)
                      obtain ⟨⟨co0, co1, co2, co3, co4, co5⟩, fo⟩ := sixes ((ha.block OB HVL.out.2 HNY.out.2).trans HOB14.out)
                      have hob2 := (ha.block OB HVL.out.2 HNY.out.2).trans HOB14.out
                      have fo0 := fo 0
                      have fo1 := fo 1
                      have fo2 := fo 2
                      have fo3 := fo 3
                      have fo4 := fo 4
                      have fo5 := fo 5
                      have HOB2 := Lib.hid hob2
                      clear hob2 fo
                      clear hs ha hb HCALL
                      go_upto_region 29 with (fail)
                      obtain ⟨W5, hW5⟩ : ∃ W5 : World, W5 = ((((w2.setCell ⟨OB, 2, none⟩ (.int .i64 0)).setCell ⟨OB, 3, none⟩ (.int .i64 (q : Int))).setCell ⟨OB, 4, none⟩ (.int .i64 0)).setCell ⟨OB, 5, none⟩ (.int .i64 0)) := ⟨_, rfl⟩
                      have hob5 : W5.heap[OB]? = some (.cells #[.int .i64 i0, .slice oa om oc, .int .i64 0, .int .i64 (q : Int), .int .i64 0, .int .i64 0] 84 (0, 0)) := by
                        rw [hW5]
                        exact heap_setCell_same _ OB 5 _ _ _ (heap_setCell_same _ OB 4 _ _ _ (heap_setCell_same _ OB 3 _ _ _ (heap_setCell_same w2 OB 2 _ _ _ HOB2.out)))
                      have ha5 : Agree (fun b => b = OB) w2 W5 := by
                        rw [hW5]
                        exact (((((Agree.refl (fun b => b = OB) w2).set ⟨OB, 2, none⟩ (.int .i64 0) (.inl rfl)).set ⟨OB, 3, none⟩ (.int .i64 (q : Int)) (.inl rfl)).set ⟨OB, 4, none⟩ (.int .i64 0) (.inl rfl)).set ⟨OB, 5, none⟩ (.int .i64 0) (.inl rfl))
                      rw [← hW5]
                      have HI5 := Lib.hid (HI2.out.poked ha5 (.inr rfl) (by have := HDW.out; omega) (by have := HMW.out; omega) (fun e => HNY.out.2 (.inr e)) (ha5.below (fun i hi e => by have := HDW.out; omega) (Nat.le_of_lt (Nat.lt_of_lt_of_le HDW.out (Nat.le_of_lt (Array.getElem?_eq_some_iff.1 HOB2.out).1)))))
                      have HM2 := Lib.hid HI5.out.map.own
                      have HR5 := Lib.hid (show Free _ W5 (fun w => RdRow w (.slice oa om oc) r0) from HRX.out.to ha5 (fun i _ e => .inr e) (fun _ _ h => h))
                      clear co0 co1 co2 co3 co4 co5 fo0 fo1 fo2 fo3 fo4 fo5 cv0 cv1 cv2 cv3 cv4 cv5 fv hW5 ha5
                      obtain ⟨⟨co0, co1, co2, co3, co4, co5⟩, fo⟩ := sixes hob5
                      clear hob5
                      go_wp2_with (at_mapUpdate; refine wpList_mapUpdate_own _ rfl _ _ _ 78 rfl 3 84 lawI Try.underlying78 heldR M q _ rfl HM2.out (by unfold maxLen; omega) _ _ (.int .i64 id) rfl rfl HKEY.out _ [] rfl ?_; intro w3 hown3 hgrow3)
                      simp only [Act.put]
                      have HRES := Lib.hid (HI5.out.put_old_t (y := ((⟨id, xx.1.ra, xx.1.rn, xx.1.rc, 0, (q : Int), 0, 0⟩ : Vr), xx.2)) (s := (.slice oa om oc)) HI14.out.sto.rise HPP.out HXI.out rfl HEQ.out.2.1 (by obtain ⟨q0, _⟩ := HEQ.out; subst q0; rfl) hown3 hgrow3 HR5.out)
                      clear hown3 hgrow3
                      go_meet
                      exact ⟨n, va, vc, _, _, _, HRES.out⟩
                  · replace hib : inb = false := by simpa using hib
                    have HIB := Lib.hid hib
                    as_aux_lemma =>
                      have HCALL := Lib.hid (dset_not HI14.out.sto id (HINB.out.symm.trans HIB.out) 0 (q : Int) 0 0)
                      have hv := sixes HVB.out
                      obtain ⟨⟨cv0, cv1, cv2, cv3, cv4, cv5⟩, fv⟩ := hv
                      go_wp2_with fail
                      refine HCALL.out.mono ?_
                      rintro e w2 ⟨rfl, hb2⟩
                      have HI2 := Lib.hid (HI14.out.kept hb2)
                      clear hb2 cv0 cv1 cv2 cv3 cv4 cv5 fv
                      go_wp2_with fail
                      have HRES := Lib.hid HI2.out.next
                      go_meet
                      exact ⟨n, va, vc, vr, Dm, _, HRES.out⟩
                by_cases h4 : c7 = 4
                · have k3 : ((c7 : Int) == 3) = false := by rw [beq_eq_false_iff_ne]; omega
                  have k4 : ((c7 : Int) == 4) = true := by rw [beq_iff_eq]; omega
                  clear h4
                  by_cases hib : inb = true
                  · have HIB := Lib.hid hib
                    as_aux_lemma =>
                      obtain ⟨hi0, p, xx, hp, hxi, hr, e1, e2, e3, e4⟩ := HIN.out HIB.out
                      have HEQ := Lib.hid (show i0 = id ∧ xx.2 = r0 ∧ xx.1.s1 = s1 ∧ xx.1.s2 = s2 ∧ xx.1.s3 = s3 ∧ xx.1.s4 = s4 from ⟨hi0, hr, e1, e2, e3, e4⟩)
                      clear hi0 hr e1 e2 e3 e4
                      have HXI := Lib.hid hxi
                      have HPP := Lib.hid hp
                      have HWX := Lib.hid (HI14.out.wf)
                      have HCALL := Lib.hid (dput_t HI14.out.sto p xx hp hxi xa sn xc R HROWV.out.now HRK.out)
                      have hv := sixes HVB.out
                      obtain ⟨⟨cv0, cv1, cv2, cv3, cv4, cv5⟩, fv⟩ := hv
                      clear hp hxi
                      go_wp2_with fail
                      refine HCALL.out.mono ?_
                      rintro e w2 ⟨rfl, na, nn, nc, hs, ha, hb⟩
                      have HI2 := Lib.hid (HI14.out.turned hs rfl ha hb (fun y hy => by
                        rcases List.mem_or_eq_of_mem_set hy with h | h
                        · exact HWX.out y h
                        · rw [h]; exact HWF.out))
                      have HRX := Lib.hid (show Free _ w2 (fun w => RdRow w (.slice xa sn xc) R) from HROWV.out.to ha (fun i _ hi => by
                        rcases hi with hi | hi
                        · rw [hi]; exact HI14.out.sto.xd
                        · exact HI14.out.sto.xg i hi) (fun _ _ h => h))
                      clear cv0 cv1 cv2 cv3 cv4 cv5 fv
                      obtain ⟨⟨cv0, cv1, cv2, cv3, cv4, cv5⟩, fv⟩ := sixes ((ha.block VB HVL.out.1 HNY.out.1).trans HVB.out)
                      obtain ⟨⟨co0, co1, co2, co3, co4, co5⟩, fo⟩ := sixes ((ha.block OB HVL.out.2 HNY.out.2).trans HOB14.out)
                      have hob2 := (ha.block OB HVL.out.2 HNY.out.2).trans HOB14.out
                      have fo0 := fo 0
                      have fo1 := fo 1
                      have fo2 := fo 2
                      have fo3 := fo 3
                      have fo4 := fo 4
                      have fo5 := fo 5
                      have HOB2 := Lib.hid hob2
                      clear hob2 fo
                      clear hs ha hb HCALL
                      go_upto_region 35 with (fail)
                      obtain ⟨W5, hW5⟩ : ∃ W5 : World, W5 = (w2.setCell ⟨OB, 1, none⟩ (.slice xa sn xc)) := ⟨_, rfl⟩
                      have hob5 : W5.heap[OB]? = some (.cells #[.int .i64 i0, .slice xa sn xc, .int .i64 s1, .int .i64 s2, .int .i64 s3, .int .i64 s4] 84 (0, 0)) := by
                        rw [hW5]
                        exact heap_setCell_same w2 OB 1 _ _ _ HOB2.out
                      have ha5 : Agree (fun b => b = OB) w2 W5 := by
                        rw [hW5]
                        exact (Agree.refl (fun b => b = OB) w2).set ⟨OB, 1, none⟩ (.slice xa sn xc) (.inl rfl)
                      rw [← hW5]
                      have HI5 := Lib.hid (HI2.out.poked ha5 (.inr rfl) (by have := HDW.out; omega) (by have := HMW.out; omega) (fun e => HNY.out.2 (.inr e)) (ha5.below (fun i hi e => by have := HDW.out; omega) (Nat.le_of_lt (Nat.lt_of_lt_of_le HDW.out (Nat.le_of_lt (Array.getElem?_eq_some_iff.1 HOB2.out).1)))))
                      have HM2 := Lib.hid HI5.out.map.own
                      have HR5 := Lib.hid (show Free _ W5 (fun w => RdRow w (.slice xa sn xc) R) from HRX.out.to ha5 (fun i _ e => .inr e) (fun _ _ h => h))
                      clear co0 co1 co2 co3 co4 co5 fo0 fo1 fo2 fo3 fo4 fo5 cv0 cv1 cv2 cv3 cv4 cv5 fv hW5 ha5
                      obtain ⟨⟨co0, co1, co2, co3, co4, co5⟩, fo⟩ := sixes hob5
                      clear hob5
                      go_wp2_with (at_mapUpdate; refine wpList_mapUpdate_own _ rfl _ _ _ 78 rfl 3 84 lawI Try.underlying78 heldR M q _ rfl HM2.out (by unfold maxLen; omega) _ _ (.int .i64 id) rfl rfl HKEY.out _ [] rfl ?_; intro w3 hown3 hgrow3)
                      simp only [Act.put]
                      have HRES := Lib.hid (HI5.out.put_old_t (y := ((⟨id, na, nn, nc, xx.1.s1, xx.1.s2, xx.1.s3, xx.1.s4⟩ : Vr), R)) (s := (.slice xa sn xc)) HI14.out.sto.rise HPP.out HXI.out rfl rfl (by obtain ⟨q0, _, q1, q2, q3, q4⟩ := HEQ.out; subst q0; subst q1; subst q2; subst q3; subst q4; rfl) hown3 hgrow3 HR5.out)
                      clear hown3 hgrow3
                      go_meet
                      exact ⟨n, va, vc, _, _, _, HRES.out⟩
                  · replace hib : inb = false := by simpa using hib
                    have HIB := Lib.hid hib
                    as_aux_lemma =>
                      have HCALL := Lib.hid (dput_not HI14.out.sto id (HINB.out.symm.trans HIB.out) xa sn xc)
                      have hv := sixes HVB.out
                      obtain ⟨⟨cv0, cv1, cv2, cv3, cv4, cv5⟩, fv⟩ := hv
                      go_wp2_with fail
                      refine HCALL.out.mono ?_
                      rintro e w2 ⟨rfl, hb2⟩
                      have HI2 := Lib.hid (HI14.out.kept hb2)
                      clear hb2 cv0 cv1 cv2 cv3 cv4 cv5 fv
                      go_wp2_with fail
                      have HRES := Lib.hid HI2.out.next
                      go_meet
                      exact ⟨n, va, vc, vr, Dm, _, HRES.out⟩
                by_cases h5 : c7 = 5
                · have k3 : ((c7 : Int) == 3) = false := by rw [beq_eq_false_iff_ne]; omega
                  have k4 : ((c7 : Int) == 4) = false := by rw [beq_eq_false_iff_ne]; omega
                  have k5 : ((c7 : Int) == 5) = true := by rw [beq_iff_eq]; omega
                  clear h5
                  by_cases hib : inb = true
                  · have HIB := Lib.hid hib
                    as_aux_lemma =>
                      obtain ⟨hi0, p, xx, hp, hxi, hrr⟩ := HIN.out HIB.out
                      clear hi0 hrr
                      have HCALL := Lib.hid (ddrop_t HI14.out.sto p xx hp hxi)
                      have HXI := Lib.hid hxi
                      have HPP := Lib.hid hp
                      clear hp hxi
                      go_wp2_with fail
                      refine HCALL.out.mono ?_
                      rintro e w2 ⟨rfl, hs, ha, hb⟩
                      have HI2 := Lib.hid (HI14.out.turned hs (by cases va <;> rfl) ha hb (fun y hy => HI14.out.wf y (mem_cutD hy)))
                      have HM2 := Lib.hid HI2.out.map.own
                      clear hs ha hb HCALL
                      go_wp2_with (at_delete; refine wpList_delete_own _ rfl _ _ 78 3 rfl 84 lawI Try.underlying78 heldR M q _ rfl HM2.out _ (.int .i64 id) rfl HKEY.out ?_; intro w3 hown3 hturn3)
                      simp only [Act.put]
                      have hg3 := hturn3.grown
                      have HRES := Lib.hid (HI2.out.cut HI14.out.sto.rise HPP.out (by rw [HXI.out]; exact hown3) hg3)
                      clear hown3 hturn3 hg3
                      go_meet
                      exact ⟨n - 1, va, vc, _, _, _, HRES.out⟩
                  · replace hib : inb = false := by simpa using hib
                    have HIB := Lib.hid hib
                    as_aux_lemma =>
                      have HCALL := Lib.hid (ddrop_not HI14.out.sto id (HINB.out.symm.trans HIB.out))
                      go_wp2_with fail
                      refine HCALL.out.mono ?_
                      rintro e w2 ⟨rfl, hb2⟩
                      have HI2 := Lib.hid (HI14.out.kept hb2)
                      have HM2 := Lib.hid HI2.out.map.own
                      clear hb2
                      go_wp2_with (at_delete; refine wpList_delete_own _ rfl _ _ 78 3 rfl 84 lawI Try.underlying78 heldR M q _ rfl HM2.out _ (.int .i64 id) rfl HKEY.out ?_; intro w3 hown3 hturn3)
                      simp only [Act.put]
                      have hg3 := hturn3.grown
                      have HRES := Lib.hid (HI2.out.cut_no (HINB.out.symm.trans HIB.out) hown3 hg3)
                      clear hown3 hturn3 hg3
                      go_meet
                      exact ⟨n, va, vc, _, _, _, HRES.out⟩
                have k3 : ((c7 : Int) == 3) = false := by rw [beq_eq_false_iff_ne]; omega
                have k4 : ((c7 : Int) == 4) = false := by rw [beq_eq_false_iff_ne]; omega
                have k5 : ((c7 : Int) == 5) = false := by rw [beq_eq_false_iff_ne]; omega
                as_aux_lemma =>
                  go_wp2_with fail
                  have HRES := Lib.hid HI14.out.next
                  go_meet
                  exact ⟨n, va, vc, vr, Dm, _, HRES.out⟩
          case rest =>
            obtain ⟨n', va', vc', vr', Dm', X', hI⟩ := hcut
            obtain ⟨Wt, hWt⟩ := name_wp hI.bel
            rw [← hWt] at hI ⊢
            clear hWt
            have HIt := Lib.hid hI
            clear hI HI14 HI13 HROWV HROWO HVB HOB14 HNY HVL HVW HIN HHAS HINB HAT HRK HX0 HXW HDW HMW HGW HS13 hx14 hc7 hc7l
            obtain ⟨i1, t1, t2, t3, t4, r1, pa, pm, pc, hok1, hget, hat1, hrow1, _⟩ := HIt.out.looks id
            obtain ⟨ib, hib⟩ : ∃ ib, ib = hasV vr' id := ⟨_, rfl⟩
            rw [← hib] at hget
            have HGET := Lib.hid hget
            have HAT1 := Lib.hid hat1
            have HROW1 := Lib.hid hrow1.now
            have HOK1 := Lib.hid hok1.1
            have HHAS1 := Lib.hid (show Maps.has Dm' (.int .i64 id) = ib from by rw [hib]; exact HIt.out.map.has id)
            clear hget hat1 hrow1 hok1 hib
            go_wp2_with fail
            refine HGET.out.mono ?_
            rintro e w2 ⟨na, nn, nc, rfl, hr2, hb2⟩
            have HR2 := Lib.hid hr2
            have HB2 := Lib.hid hb2
            have HM3 := Lib.hid (HIt.out.kept (below_lay hb2 (.cells #[.int .i64 i1, .slice na nn nc, .int .i64 t1, .int .i64 t2, .int .i64 t3, .int .i64 t4] 84))).map.own
            clear hr2 hb2 HGET
            go_upto_region 42 with (at_lookup; refine wpList_lookup_held _ rfl _ _ 78 rfl 3 84 lawI Try.underlying78 (zeroVersion _) M _ _ rfl HM3.out _ (.int .i64 id) rfl HKEY.out _ HAT1.out _ HHAS1.out ?_)
            have hg2 := (heap_alloc_old (w2.alloc (.cells #[.int .i64 i1, .slice na nn nc, .int .i64 t1, .int .i64 t2, .int .i64 t3, .int .i64 t4] 84)) (.cells #[.int .i64 i1, .slice pa pm pc, .int .i64 t1, .int .i64 t2, .int .i64 t3, .int .i64 t4] 84) (r := w2.heap.size) (by simp)).trans (heap_alloc_new w2 (.cells #[.int .i64 i1, .slice na nn nc, .int .i64 t1, .int .i64 t2, .int .i64 t3, .int .i64 t4] 84))
            have hg3 := heap_alloc_new (w2.alloc (.cells #[.int .i64 i1, .slice na nn nc, .int .i64 t1, .int .i64 t2, .int .i64 t3, .int .i64 t4] 84)) (.cells #[.int .i64 i1, .slice pa pm pc, .int .i64 t1, .int .i64 t2, .int .i64 t3, .int .i64 t4] 84)
            have hb3 : Below w2.heap.size w2 ((w2.alloc (.cells #[.int .i64 i1, .slice na nn nc, .int .i64 t1, .int .i64 t2, .int .i64 t3, .int .i64 t4] 84)).alloc (.cells #[.int .i64 i1, .slice pa pm pc, .int .i64 t1, .int .i64 t2, .int .i64 t3, .int .i64 t4] 84)) := below_lay (below_alloc w2 (.cells #[.int .i64 i1, .slice na nn nc, .int .i64 t1, .int .i64 t2, .int .i64 t3, .int .i64 t4] 84)) (.cells #[.int .i64 i1, .slice pa pm pc, .int .i64 t1, .int .i64 t2, .int .i64 t3, .int .i64 t4] 84)
            obtain ⟨W3', hW3'⟩ : ∃ W3' : World, W3' = (w2.alloc (.cells #[.int .i64 i1, .slice na nn nc, .int .i64 t1, .int .i64 t2, .int .i64 t3, .int .i64 t4] 84)).alloc (.cells #[.int .i64 i1, .slice pa pm pc, .int .i64 t1, .int .i64 t2, .int .i64 t3, .int .i64 t4] 84) := ⟨_, rfl⟩
            have hpq : (w2.alloc (.cells #[.int .i64 i1, .slice na nn nc, .int .i64 t1, .int .i64 t2, .int .i64 t3, .int .i64 t4] 84)).heap.size = w2.heap.size + 1 := by simp
            rw [hpq] at hg3
            try rw [hpq]
            rw [← hW3'] at hg2 hg3 hb3 ⊢
            have hg20 := sixes hg2
            obtain ⟨⟨cv0, cv1, cv2, cv3, cv4, cv5⟩, _⟩ := hg20
            have hg30 := sixes hg3
            obtain ⟨⟨co0, co1, co2, co3, co4, co5⟩, _⟩ := hg30
            have HB3 := Lib.hid (below_then HB2.out hb3)
            have HSV := Lib.hid (sverD_any i1 t1 t2 t3 t4 na pa nn nc pm pc r1 W3' (HR2.out.kept hb3) (HROW1.out.kept HB3.out) HOK1.out)
            have hnb : (ib != ib) = false := by simp
            clear hg2 hg3 hb3 hW3' hpq HM3 HR2 HROW1 HB2
            go_wp2_with fail
            refine HSV.out.mono ?_
            rintro e w5 ⟨rfl, hb5⟩
            have HI5 := Lib.hid (HIt.out.kept (below_then HB3.out hb5))
            clear hb5 cv0 cv1 cv2 cv3 cv4 cv5 co0 co1 co2 co3 co4 co5 HSV HB3 HIt hnb
            go_wp2_with fail
            refine (dids_is HI5.out.sto).mono ?_
            rintro e w6 ⟨rfl, hown6, hb6⟩
            obtain ⟨G, hG⟩ : ∃ G, G = w5.heap.size := ⟨_, rfl⟩
            rw [← hG] at hown6 ⊢
            have HO6 := Lib.hid hown6
            have HI6 := Lib.hid (HI5.out.kept hb6)
            clear hown6 hb6 HI5 hG
            have hn0 : (0 : Int) ≤ (n' : Int) := by omega
            have hnK : n' ≤ 1000 := Nat.le_trans HI6.out.sto.few hK2
            have hnn : ((n' : Int) == (n' : Int)) = true := by simp
            have hln : ∀ ty, (Builtin.len_ #[78] ty #[.map (some M)]).run Try.prog w6 = .ok (.int .i64 (n' : Int)) w6 := fun ty => by have h := HI6.out.map.own.len Try.underlying78 ty; rw [HI6.out.map.size, HI6.out.sto.len] at h; exact h
            go_upto_region 48 with (fail)
            clear hln hnn
            go_wp2_with fail
            go_loopw [169] (fun j wy => ∃ y : Nat, y ≤ n' ∧ j = .int .i64 (y : Int) ∧ Below w6.heap.size w6 wy) (fun j _ => n' - (intOf j).toNat)
            case atStart => exact ⟨0, Nat.zero_le _, rfl, Below.refl _ _⟩
            case round =>
              obtain ⟨y, hy, rfl, hby⟩ := hrel
              have HBY := Lib.hid hby
              clear hby
              by_cases hly : y < n'
              · have hdy : decide ((y : Int) < (n' : Int)) = true := by simp; omega
                obtain ⟨z, hz⟩ : ∃ z, vr'[y]? = some z := ⟨_, List.getElem?_eq_getElem (by rw [HI6.out.sto.len]; exact hly)⟩
                have hOy := own_kept HO6.out HBY.out
                have hcy : wr.cell? ⟨G, y, none⟩ = some (.int .i64 z.1.i) := by
                  rw [hOy.cellAt y (by omega), List.getElem?_map, vrS_at hz]
                  rfl
                have HIy := Lib.hid (HI6.out.kept HBY.out)
                have hmem := List.mem_of_getElem? hz
                obtain ⟨sl, hat2, hfr2⟩ := HIy.out.map.el z hmem
                obtain ⟨ya, yc, hsl⟩ := rdRow_shape hfr2.now
                subst hsl
                obtain ⟨zl, hzl⟩ : ∃ zl, zl = z.2.length := ⟨_, rfl⟩
                rw [← hzl] at hat2
                clear hfr2 hzl
                have HZ := Lib.hid hz
                have HWZ := Lib.hid (keyI (HIy.out.wf z hmem))
                have HHZ := Lib.hid (show Maps.has Dm' (.int .i64 z.1.i) = true from by rw [HIy.out.map.has]; exact hasV_of hmem)
                obtain ⟨⟨zi, zra, zrn, zrc, z1', z2', z3', z4'⟩, zr⟩ := z
                simp only at hcy hat2 HZ HWZ HHZ
                unfold aggR at hat2
                simp only at hat2
                have HATZ := Lib.hid (hat2 (.held ZV))
                have HMy := Lib.hid HIy.out.map.own
                clear hat2 hz hmem
                by_cases hy0 : y = 0
                · as_aux_lemma =>
                    subst hy0
                    have hd0 : decide ((0 : Int) < 0) = false := by decide
                    clear hOy
                    go_wp2_with (at_lookup; refine wpList_lookup_held _ rfl _ _ 78 rfl 3 84 lawI Try.underlying78 (zeroVersion _) M _ _ rfl HMy.out _ (.int .i64 zi) rfl HWZ.out _ HATZ.out _ HHZ.out ?_)
                    go_roundw
                    case rel => exact ⟨1, by omega, by go_num, below_lay HBY.out _⟩
                    case measure => simp [intOf]; omega
                · as_aux_lemma =>
                    obtain ⟨u, rfl⟩ : ∃ u, y = u + 1 := ⟨y - 1, by omega⟩
                    obtain ⟨zp, hzp⟩ : ∃ zp, vr'[u]? = some zp := ⟨_, List.getElem?_eq_getElem (by rw [HI6.out.sto.len]; omega)⟩
                    have hcu := hOy.cellAt u (by omega)
                    rw [List.getElem?_map, vrS_at hzp] at hcu
                    simp only [Option.map_some] at hcu
                    obtain ⟨pi, hpi⟩ : ∃ pi, pi = zp.1.i := ⟨_, rfl⟩
                    rw [← hpi] at hcu
                    have hpz : pi < zi := by
                      have h := HI6.out.sto.rise u (u + 1) _ _ (by omega) (vrS_at hzp) (vrS_at HZ.out)
                      rw [hpi]; exact h
                    have hpd : decide (pi ≥ zi) = false := by rw [decide_eq_false_iff_not]; omega
                    have hpd2 : decide (zi ≤ pi) = false := by rw [decide_eq_false_iff_not]; omega
                    have hu0 : decide ((u : Int) + 1 > 0) = true := by rw [decide_eq_true_iff]; omega
                    have hu1 : decide ((0 : Int) < (u : Int) + 1) = true := by rw [decide_eq_true_iff]; omega
                    have huw : IntKind.i64.wrap ((u : Int) + 1 - 1) = (u : Int) := by rw [IntWalk.i64_in _ (by omega)]; omega
                    have huw2 : IntKind.i64.wrap (u : Int) = (u : Int) := IntWalk.i64_in _ (by omega)
                    have hun : (u : Int) < (n' : Int) := by omega
                    have hu00 : (0 : Int) ≤ (u : Int) := by omega
                    have hca := fun o => Lib.cell?_alloc_some (W := wr) o hcu
                    have hcb := fun o => Lib.cell?_alloc_some (W := wr) o hcy
                    clear hOy hpz hpi hzp
                    go_wp2_with (at_lookup; refine wpList_lookup_held _ rfl _ _ 78 rfl 3 84 lawI Try.underlying78 (zeroVersion _) M _ _ rfl HMy.out _ (.int .i64 zi) rfl HWZ.out _ HATZ.out _ HHZ.out ?_)
                    go_roundw
                    case rel => exact ⟨u + 1 + 1, by omega, by go_num, below_lay HBY.out _⟩
                    case measure => simp [intOf]; omega
              · as_aux_lemma =>
                  have hyn : y = n' := by omega
                  have hdy : decide ((y : Int) < (n' : Int)) = false := by simp; omega
                  have HIy := Lib.hid (HI6.out.kept HBY.out)
                  clear hyn
                  go_wp2_with fail
                  go_roundw
                  case rel => exact ⟨q + 1, n', va', vc', vr', Dm', X', by omega, by go_num, HIy.out⟩
                  case measure => simp [intOf]; omega
      · have hfin : Below D w wr := HI.out.bel
        have HFIN := Lib.hid hfin
        have hsz : D ≤ wr.heap.size := Nat.le_of_lt HI.out.sto.ld
        clear hfin
        by_cases hl1 : q < len1
        · have hd1 : decide ((q : Int) < (len1 : Int)) = true := by simp; omega
          have hd2 : decide ((q : Int) < 100) = false := by simp; omega
          clear hlt
          go_wp2_with fail
          refine (awake12_any _).mono ?_
          rintro e W9 ⟨rfl, hb9⟩
          have HB9 := Lib.hid (HFIN.out.trans (hb9.mono hsz))
          clear hb9
          go_wp2_with fail
          go_ret
          exact ⟨rfl, HDD.out ▸ HB9.out⟩
        · have hd1 : decide ((q : Int) < (len1 : Int)) = false := by simp; omega
          clear hlt
          go_wp2_with fail
          refine (awake12_any _).mono ?_
          rintro e W9 ⟨rfl, hb9⟩
          have HB9 := Lib.hid (HFIN.out.trans (hb9.mono hsz))
          clear hb9
          go_wp2_with fail
          go_ret
          exact ⟨rfl, HDD.out ▸ HB9.out⟩

end Go.Proofs.Ytnfjdoeemnhkbaa
