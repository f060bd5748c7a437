/-
  Contracts of the reference: get: dictionaries.
-/
import Derived.Test.YtjcmekhamohbnaaGtbase
import Derived.Deep.CutBlock
import Derived.Deep.RegionHeld3
namespace Go.Proofs.Ytjcmekhamohbnaa.Bc
set_option linter.unusedVariables false
set_option linter.unusedSimpArgs false
open Go.RowKit

theorem rd_u64_cells4 {w : World} {ao : Option Addr} {len cap : Nat} {l : List Nat} (h : Rd w (.slice ao len cap) (l.map u64v)) : len = l.length ∧ (0 < len → ∃ b off, ao = some ⟨b, off, none⟩ ∧ ∀ i, i < len → w.cell? ⟨b, off + i, none⟩ = some (.int .u64 ((l.getD i 0 : Nat) : Int))) := by
  obtain ⟨ao', cap', hv, _, hc⟩ := h
  simp only [List.length_map, Value.slice.injEq] at hv hc
  obtain ⟨rfl, rfl, rfl⟩ := hv
  refine ⟨rfl, fun hp => ?_⟩
  obtain ⟨b, off, ha, hcell⟩ := hc hp
  refine ⟨b, off, ha, fun i hi => ?_⟩
  rw [hcell i hi, List.getD_eq_getElem?_getD, List.getElem?_map, List.getD_eq_getElem?_getD, List.getElem?_eq_getElem hi]
  rfl

set_option maxRecDepth 100000 in
set_option maxHeartbeats 8000000 in
theorem get_4 (nums : Bool) (rr : List Nat) (c : Nat) (bv : Value) (w : World) (hr : Rd w bv ((4 :: rr).map u8v)) (h256 : ∀ x ∈ rr, x < 256) (hbig : rr.length ≤ 900000) (hc : c ≤ 65535) :
    Calls Try.prog 29 #[bv, .int .i64 (c : Int), .bool nums] w fun e w' => RetGet w.heap.size nums 4 rr (c : Int) e w' ∧ Below w.heap.size w w' := by
  obtain ⟨ao, cap, rfl⟩ := rd_shape1 hr
  rw [List.length_map] at hr ⊢
  obtain ⟨m, hm⟩ : ∃ m, m = List.length (4 :: rr) := ⟨_, rfl⟩
  have hrl2 : rr.length = m - 1 := by rw [hm, List.length_cons]; omega
  have hm1 : 1 ≤ m := by rw [hm, List.length_cons]; omega
  rw [← hm] at hr ⊢
  have HRL := Lib.hid hrl2
  have HR := Lib.hid hr
  have H256 := Lib.hid h256
  have HBIG := Lib.hid hbig
  have HRM := Lib.hid (show m ≤ 900001 by omega)
  obtain ⟨b, off, rfl, hcell⟩ := (rd_cells hr).2 (by omega)
  have hx0 := hcell 0 (by omega)
  rw [Nat.add_zero] at hx0
  have HX0 := Lib.hid (show ∀ w', Below w.heap.size w w' → w'.cell? ⟨b, off, none⟩ = some (.int .u8 (4 : Int)) from fun w' h => (h.cell (World.block_lt_of_cell? _ _ hx0)).trans hx0)
  have hcapn := rd_cap HR.out
  have hnb : ((m : Int) == 0) = false := by rw [beq_eq_false_iff_ne]; omega
  have hnb2 : ¬ ((m : Int) = 0) := by omega
  have hnp : (0 : Int) < (m : Int) := by omega
  have hn1i : (1 : Int) ≤ (m : Int) := by omega
  have hc0 : decide ((c : Int) < 0) = false := decide_eq_false (by omega)
  have hc00 : ¬ (c : Int) < 0 := by omega
  have hc01 : (0 : Int) ≤ (c : Int) := by omega
  have hc1 : decide ((c : Int) > 65535) = false := decide_eq_false (by omega)
  have hc11 : ¬ (c : Int) > 65535 := by omega
  clear hr h256 hm hrl2 hcell hx0 hbig
  go_enter Try.func29, Try.ntmps29
  go_upto_region 3 with (fail)
  go_cut [8] (fun p wx => ∃ r, p = .pointer (some ⟨r, 0, none⟩) ∧ w.heap.size ≤ r ∧ r < wx.heap.size ∧ IsQB wx.heap.size wx r rr false ∧ Below w.heap.size w wx)
  case first =>
    by_cases hck : cap = 1
    · have hn2 : m = 1 := by omega
      subst hck
      subst hn2
      have HR4 := Lib.hid (show Rd w (.slice (some ⟨b, off, none⟩) 0 0) (rr.map u8v) from by
        have : rr = [] := List.length_eq_zero_iff.1 HRL.out
        rw [this]
        exact rd_empty w _ 0)
      go_wp2_with fail
      go_meet
      exact ⟨w.heap.size, rfl, Nat.le_refl _, by simp, newQ HR4.out, below_alloc w _⟩
    · have hck2 : ¬ 1 = cap := fun h => hck h.symm
      have HR4 := Lib.hid (show Rd w (.slice (some ⟨b, off + 1, none⟩) (m - 1) (cap - 1)) (rr.map u8v) from by
        have h := rd_drop HR.out (n := 1) (by omega)
        rw [← List.map_drop] at h
        exact h)
      go_wp2_with fail
      go_meet
      exact ⟨w.heap.size, rfl, Nat.le_refl _, by simp, newQ HR4.out, below_alloc w _⟩
  case rest =>
    obtain ⟨r, rfl, hrw, hrW, hq1, hb1⟩ := hcut
    have HQ1 := Lib.hid hq1
    have HB1 := Lib.hid hb1
    have hx0 := HX0.out wc hb1
    have hsz1 := hb1.size
    clear hq1 hb1
    obtain ⟨W1, rfl⟩ : ∃ W1 : World, W1 = wc := ⟨_, rfl⟩
    go_upto_block 0 with (fail)
    go_cut [9] (fun v wx => ∃ (q : Nat) (ps : Row) (left : List Nat) (bad : Bool) (ao : Option Addr) (ac : Nat), v = .slice ao q ac ∧ ps.length = q ∧ q ≤ 65535 ∧ (∀ x ∈ xs ps, OkT nums x) ∧ Far w.heap.size wx (.slice ao q ac) ps ∧ IsQB W1.heap.size wx r left bad ∧ Fin nums 4 rr (c : Int) (xs ps) bad ∧ Below w.heap.size w wx)
    case first =>
      have HNQ := Lib.hid (refNumQB_any W1.heap.size r rr false W1 HQ1.out H256.out (by have := HBIG.out; omega))
      have hnlt := numQ_lt rr false
      have hm4 := numQ_mem (bad := false) H256.out
      have hbl4 := numQ_len rr false
      obtain ⟨n, left0, bad0, hnq⟩ : ∃ N l1 b1, numQ rr false = (N, l1, b1) := ⟨_, _, _, rfl⟩
      rw [hnq] at HNQ hnlt hm4 hbl4
      simp only at hnlt hm4 hbl4
      have HM4 := Lib.hid hm4
      have HCS := Lib.hid (c4_start (nums := nums) (count := (c : Int)) hnq)
      have hbll : left0.length ≤ 900000 := by have := HBIG.out; omega
      clear hnq hm4 hbl4
      go_wp2_with fail
      refine HNQ.out.mono ?_
      rintro e w0 ⟨rfl, hqb0, hg0⟩
      have HQ0 := Lib.hid hqb0
      have HG0 := Lib.hid hg0
      clear hqb0 hg0 HNQ
      go_upto_block 9 with (fail)
      go_cut [10] (fun v wx => ∃ (q : Nat) (ws : Row) (left : List Nat) (bad : Bool) (ao : Option Addr) (ac : Nat), v = .slice ao q ac ∧ ws.length = q ∧ q ≤ 65535 ∧ (∀ x ∈ xs ws, OkT nums x) ∧ FarO W1.heap.size wx (.slice ao q ac) ws ∧ IsQB W1.heap.size wx r left bad ∧ (∀ x ∈ left, x < 256) ∧ left.length ≤ 900000 ∧ D4 nums rr (c : Int) (xs ws) left bad ∧ W1.grownBy wx (some r))
      case first =>
       as_aux_lemma =>
        go_wp2_with fail
        go_loopw [10, 19] (fun v i wr => ∃ (q : Nat) (ws : Row) (left : List Nat) (bad : Bool), q ≤ n ∧ q ≤ 65535 ∧ i = .int .u64 (q : Int) ∧ ws.length = q ∧ (∀ x ∈ xs ws, OkT nums x) ∧ FarO W1.heap.size wr v ws ∧ IsQB W1.heap.size wr r left bad ∧ (∀ x ∈ left, x < 256) ∧ left.length ≤ 900000 ∧ C4 nums rr (c : Int) n (xs ws) left bad q ∧ W1.grownBy wr (some r)) (fun _ i _ => 65535 - (intOf i).toNat)
        case atStart => exact ⟨0, [], left0, bad0, Nat.zero_le _, Nat.zero_le _, rfl, rfl, (fun x hx => by simp [xs] at hx), farO_nil _ _, HQ0.out, HM4.out, hbll, HCS.out, HG0.out⟩
        case round =>
          obtain ⟨q, ws, left, bad, hqn, hq6, rfl, hpl, hok, hfar, hqb, hm2, hbl, hC, hgr⟩ := hrel
          obtain ⟨ao, ac, rfl⟩ := hfar.row.shape
          rw [hpl] at hfar ⊢
          have HLEN := Lib.hid hpl
          have HOKW := Lib.hid hok
          have HO := Lib.hid hfar
          have HQT := Lib.hid hqb
          have HM2 := Lib.hid hm2
          have HC := Lib.hid hC
          have HG := Lib.hid hgr
          have hq0 : (0 : Int) ≤ (q : Int) := by omega
          have hszr : W1.heap.size ≤ wr.heap.size := hgr.size
          obtain ⟨vq, hvq, hrq, _⟩ := hqb
          have hrqk := hrq
          obtain ⟨al, cl, hvl, _⟩ := hrqk
          rw [List.length_map] at hvl
          subst hvl
          obtain ⟨ll, hll⟩ : ∃ ll, ll = left.length := ⟨_, rfl⟩
          rw [← hll] at hvq hrq
          have HLL := Lib.hid hll
          have HRL2 := Lib.hid hrq
          obtain ⟨hcl, hcb, _, _⟩ := isQ_cells hvq
          clear hpl hok hfar hm2 hC hgr hvq hrq hll
          by_cases hgo : q < n ∧ q < 65535 ∧ bad = false
          · obtain ⟨hlt, hlt6, hbf⟩ := hgo
            subst hbf
            have hlti : (q : Int) < (n : Int) := by omega
            have hlt6i : (q : Int) < 65535 := by omega
            have hqw : IntKind.u64.wrap ((q : Int) + 1) = ((q + 1 : Nat) : Int) := by rw [IntWalk.u64_in _ (by omega)]; omega
            have HST := Lib.hid (c4_step HC.out hlt)
            have HVQ := Lib.hid (refvalue_any nums W1.heap.size r left false wr HQT.out hrW HM2.out (by omega))
            have hok2 := valQ_ok nums (bad := false) HM2.out
            have hm3 := valQ_mem (nums := nums) (bad := false) HM2.out
            have hbl3 := valQ_len nums left false
            obtain ⟨x, hx⟩ : ∃ x, x = (valQ nums left false).1 := ⟨_, rfl⟩
            obtain ⟨left2, hl2⟩ : ∃ l, l = (valQ nums left false).2.1 := ⟨_, rfl⟩
            obtain ⟨bad2, hb2⟩ : ∃ b, b = (valQ nums left false).2.2 := ⟨_, rfl⟩
            rw [← hx, ← hl2, ← hb2] at HST HVQ
            rw [← hx] at hok2
            rw [← hl2] at hm3 hbl3
            have HOK2 := Lib.hid hok2
            have HM3 := Lib.hid hm3
            clear hx hl2 hb2 hok2 hm3 hcl
            go_wp2_with fail
            refine HVQ.out.mono ?_
            rintro e w2 ⟨u, rfl, hu, hqb2, hg2⟩
            have HU := Lib.hid (show OwnB W1.heap.size w2 u x from own_mono hu HG.out.size)
            have HOFF := Lib.hid (own_off (B := 0) HO.out.row hu)
            have HO2 := Lib.hid (HO.out.keptR hg2 hrW)
            have HQ2 := Lib.hid hqb2
            have HG2 := Lib.hid (grown_trans HG.out hg2)
            have hsz3 : W1.heap.size ≤ w2.heap.size := HG2.out.size
            obtain ⟨ua, uc, rfl⟩ := hu.shape
            clear hu hqb2 hg2 HVQ
            have HOA := Lib.hid (show (w2.alloc (.cells #[.slice ua (List.length x) uc] 24)).ownsRow W1.heap.size 24 1 (.slice ao q ac) q (vs ws) from by have h := World.ownsRow.alloc HO2.out.row (.cells #[.slice ua (List.length x) uc] 24); rw [HLEN.out] at h; exact h)
            have HLT := Lib.hid (rdS_lit w2 #[.slice ua (List.length x) uc] 24 1 rfl)
            have hszB : W1.heap.size ≤ (w2.alloc (.cells #[.slice ua (List.length x) uc] 24)).heap.size := le_alloc0 hsz3 _
            have HONE := Lib.hid (ones_one (.slice ua (List.length x) uc) rfl)
            go_wp2_with (at_builtin; go_must (refine wpList_append_k elmR rfl _ _ rfl W1.heap.size _ _ _ rfl HOA.out _ [[.slice ua (List.length x) uc]] rfl HLT.out HONE.out (by simp; omega) hszB (q + 1) rfl ?_); intro ao9 cap9 w9 hown9 hgrow9 hnew9; have HO9 := Lib.hid hown9; have HG9 := Lib.hid hgrow9; have HN9 := Lib.hid hnew9; clear hown9 hgrow9 hnew9)
            go_roundw
            case rel =>
              have hg9 : w2.grownBy w9 (Value.slice ao q ac).ownBlock := grown_trans (grownBy_any (World.grownBy_alloc w2 _ none)) HG9.out
              have hrow := ownR_base HO2.out.row
              refine ⟨q + 1, ws ++ [(.slice ua (List.length x) uc, x)], left2, bad2, by omega, by omega, by first | rfl | go_num, by rw [List.length_append, HLEN.out]; rfl, fun y hy => ?_, FarO.snoc HO2.out HU.out HOFF.out ?_ hg9 ?_, HQ2.out.own hg9 hrow hrW, HM3.out, by omega, by rw [xs_snoc]; exact HST.out, grown_own (base := 0) HG2.out hg9 hrow⟩
              · rw [xs_snoc] at hy
                rcases List.mem_append.1 hy with hy | hy
                · exact HOKW.out y hy
                · rw [List.mem_singleton.1 hy]; exact HOK2.out
              · rw [HLEN.out]
                have h := HO9.out
                simpa using h
              · intro k hk
                rcases HN9.out k hk with h | h
                · exact .inl h
                · right; rw [h]; simp
            case measure => simp [intOf]; omega
          · -- the words are read
            have HD4 := Lib.hid (c4_end HC.out hqn (by
              rcases (by omega : ¬ q < n ∨ ¬ q < 65535 ∨ (q < n ∧ q < 65535)) with h | h | ⟨h1, h2⟩
              · exact .inl (by omega)
              · exact .inr (.inl (by omega))
              · right; right
                cases bad with
                | true => rfl
                | false => exact absurd ⟨h1, h2, rfl⟩ hgo))
            have hex : (decide ((q : Int) < (n : Int)) = false ∧ bad = bad) ∨ (decide ((q : Int) < (n : Int)) = true ∧ decide ((q : Int) < 65535) = false) ∨ (decide ((q : Int) < (n : Int)) = true ∧ decide ((q : Int) < 65535) = true ∧ wr.cell? ⟨r, 1, none⟩ = some (.bool true)) := by
              rcases (by omega : ¬ q < n ∨ (q < n ∧ ¬ q < 65535) ∨ (q < n ∧ q < 65535)) with h | ⟨h1, h2⟩ | ⟨h1, h2⟩
              · exact .inl ⟨decide_eq_false (by omega), rfl⟩
              · exact .inr (.inl ⟨decide_eq_true (by omega), decide_eq_false (by omega)⟩)
              · refine .inr (.inr ⟨decide_eq_true (by omega), decide_eq_true (by omega), ?_⟩)
                have : bad = true := by
                  cases bad with
                  | true => rfl
                  | false => exact absurd ⟨h1, h2, rfl⟩ hgo
                rw [hcb, this]
            clear hgo hcb
            rcases hex with ⟨he1, _⟩ | ⟨he1, he2⟩ | ⟨he1, he2, he3⟩
            · have he1i : ¬ (q : Int) < (n : Int) := of_decide_eq_false he1
              go_wp2_with fail
              go_meet
              exact ⟨q, ws, left, bad, _, _, rfl, HLEN.out, hq6, HOKW.out, HO.out, HQT.out, HM2.out, hbl, HD4.out, HG.out⟩
            · have he1i : (q : Int) < (n : Int) := of_decide_eq_true he1
              have he2i : ¬ (q : Int) < 65535 := of_decide_eq_false he2
              go_wp2_with fail
              go_meet
              exact ⟨q, ws, left, bad, _, _, rfl, HLEN.out, hq6, HOKW.out, HO.out, HQT.out, HM2.out, hbl, HD4.out, HG.out⟩
            · have he1i : (q : Int) < (n : Int) := of_decide_eq_true he1
              have he2i : (q : Int) < 65535 := of_decide_eq_true he2
              go_wp2_with fail
              go_meet
              exact ⟨q, ws, left, bad, _, _, rfl, HLEN.out, hq6, HOKW.out, HO.out, HQT.out, HM2.out, hbl, HD4.out, HG.out⟩
      case rest =>
        obtain ⟨q, ws, left, bad, ao, ac, rfl, hpl, hq6, hok, hfar, hqb, hm2, hbl, hd4, hgr⟩ := hcut
        obtain ⟨wo, rfl⟩ : ∃ wo : World, wo = wc := ⟨_, rfl⟩
        have HLEN := Lib.hid hpl
        have HOKW := Lib.hid hok
        have HO := Lib.hid hfar
        have HQT := Lib.hid hqb
        have HM2 := Lib.hid hm2
        have HD4 := Lib.hid hd4
        have hq0 : (0 : Int) ≤ (q : Int) := by omega
        have HBR := Lib.hid (show Below w.heap.size w wo from HB1.out.grown hgr hsz1 (fun k e => by cases e; exact hrw))
        obtain ⟨vq, hvq, hrq, _⟩ := hqb
        have hrqk := hrq
        obtain ⟨al, cl, hvl, _⟩ := hrqk
        rw [List.length_map] at hvl
        subst hvl
        obtain ⟨ll, hll⟩ : ∃ ll, ll = left.length := ⟨_, rfl⟩
        rw [← hll] at hvq hrq
        have HRL2 := Lib.hid hrq
        obtain ⟨hcl, _, _, _⟩ := isQ_cells hvq
        clear hpl hok hfar hm2 hd4 hgr hvq hrq
        obtain ⟨M, hM⟩ : ∃ M : Nat, M = q - 1 := ⟨_, rfl⟩
        have hmx : (if (0 : Int) > (q : Int) - 1 then (0 : Int) else (q : Int) - 1) = (M : Int) := by split <;> omega
        have hmx2 : max ((q : Int) - 1) 0 = (M : Int) := by omega
        have hw1 : IntKind.i64.wrap ((q : Int) - 1) = (q : Int) - 1 := IntWalk.i64_in _ (by omega)
        have hw2 : IntKind.u64.wrap (M : Int) = (M : Int) := IntWalk.u64_in _ (by omega)
        have HPW := Lib.hid (fun w' => refWidth_any M w' (by omega))
        obtain ⟨wd, hwd⟩ : ∃ wd, wd = Lib.bitLen M := ⟨_, rfl⟩
        rw [← hwd] at HPW
        obtain ⟨o, ho⟩ : ∃ o, o = unpackB left (wd : Nat) (c : Int) := ⟨_, rfl⟩
        have HOE := Lib.hid (show unpackB left (Lib.bitLen ((xs ws).length - 1) : Nat) (c : Int) = o from by rw [len_xs, HLEN.out, ← hM, ← hwd, ho])
        have HUN := Lib.hid (show ∀ w', Below wo.heap.size wo w' → Calls Try.prog 61 #[.slice al ll cl, .int .i64 (wd : Int), .int .i64 (c : Int)] w' fun e w'' => ∃ z, e = .returned (.tuple #[z, .bool o.isSome]) ∧ Rd w'' z ((o.getD []).map u64v) ∧ Below w'.heap.size w' w'' from fun w' h => by
          rw [ho]
          exact refUnpack_any (.slice al ll cl) left (wd : Int) (c : Int) w' (HRL2.out.kept h) HM2.out (by omega))
        obtain ⟨us, hus⟩ : ∃ us, us = o.getD [] := ⟨_, rfl⟩
        obtain ⟨ob, hob⟩ : ∃ ob, ob = o.isSome := ⟨_, rfl⟩
        rw [← hus, ← hob] at HUN
        have HYES := Lib.hid (show ob = true → unpackB left (Lib.bitLen ((xs ws).length - 1) : Nat) (c : Int) = some us from fun h => by
          rw [HOE.out, hus]
          cases o with
          | none => rw [hob] at h; cases h
          | some l => rfl)
        have HNO := Lib.hid (show ob = false → unpackB left (Lib.bitLen ((xs ws).length - 1) : Nat) (c : Int) = none ∧ us = [] from fun h => by
          rw [HOE.out, hus]
          cases o with
          | none => exact ⟨rfl, rfl⟩
          | some l => rw [hob] at h; cases h)
        have hul : us.length ≤ 65535 := by
          rw [hus]
          cases o with
          | none => exact Nat.zero_le _
          | some l =>
            have h := (unpackB_len HOE.out).1
            rw [Int.toNat_natCast] at h
            show l.length ≤ 65535
            omega
        obtain ⟨n5, hn5⟩ : ∃ n5, n5 = us.length := ⟨_, rfl⟩
        have hn55 : n5 ≤ 65535 := by rw [hn5]; exact hul
        have HN5 := Lib.hid hn5
        have HMQ := Lib.hid hM
        clear hwd ho hn5 hM hus hob hul HOE hll
        go_upto_region 38 with (fail)
        go_cut [20, 21] (fun d k wx => ∃ ad cd, d = .slice ad n5 cd ∧ k = .bool ob ∧ Rd wx (.slice ad n5 cd) (us.map u64v) ∧ Below wo.heap.size wo wx)
        case first =>
          have HKP := Lib.hid fun w' (h : Below wo.heap.size wo w') => (show w'.cell? ⟨r, 0, none⟩ = some (.slice al ll cl) ∧ Below wo.heap.size wo w' from ⟨(h.cell (World.block_lt_of_cell? _ _ hcl)).trans hcl, h⟩)
          have hS := Below.refl wo.heap.size wo
          set_option maxRecDepth 1000000 in
          go_region_held3 (fun w' => w'.cell? ⟨r, 0, none⟩ = some (.slice al ll cl) ∧ Below wo.heap.size wo w') (first | assumption | exact HKP.out _ (by first | assumption | exact Below.trans (by assumption) (below_drw _ _)))
            (first
              | (go_at_call 61; refine (HUN.out _ (by first | assumption | exact Below.trans (by assumption) (below_drw _ _))).mono ?_; rintro e w5 ⟨va, rfl, hra, hb5⟩; have hS5 : Below wo.heap.size wo w5 := below_then (by first | assumption | exact Below.trans (by assumption) (below_drw _ _)) hb5; obtain ⟨ad, cd, rfl⟩ := rd_shape1 hra; rw [List.length_map, ← HN5.out] at hra ⊢)
              | (go_at_call 47; (try rw [← HMQ.out]); refine (HPW.out _).mono ?_; rintro e w4 ⟨rfl, rfl⟩))
          all_goals
            go_wp2_with fail
            go_meet
            exact ⟨_, _, rfl, rfl, hra, hS5⟩
        case rest =>
          obtain ⟨ad, cd, rfl, rfl, hrd, hb5⟩ := hcut
          have HB5 := Lib.hid (show Below w.heap.size w wc from HBR.out.trans (hb5.mono HBR.out.size))
          have HRD := Lib.hid hrd
          have HW5 := Lib.hid (HO.out.keptB hb5)
          have HQ5 := Lib.hid (HQT.out.kept hb5 hrW)
          have hsz5 : w.heap.size ≤ wc.heap.size := HB5.out.size
          clear hrd hb5 hcl
          cases ob with
          | false =>
           as_aux_lemma =>
            have HFIN := Lib.hid (fin_not (X := xs []) (bad := bad) (d4_none HD4.out (HNO.out rfl).1))
            go_wp2_with fail
            go_loopw [9, 22] (fun v i wr => v = .slice none 0 0 ∧ i = .int .i64 0 ∧ wc = wr) (fun _ _ _ => 0)
            case atStart => exact ⟨rfl, rfl, rfl⟩
            case round =>
              obtain ⟨rfl, rfl, rfl⟩ := hrel
              go_wp2_with fail
              go_meet
              exact ⟨0, [], left, bad, _, _, rfl, rfl, by omega, (fun x hx => by simp [xs] at hx), far_nil _ _, HQ5.out, HFIN.out, HB5.out⟩
          | true =>
           as_aux_lemma =>
            have HU := Lib.hid (HYES.out rfl)
            go_wp2_with fail
            go_loopw [9, 22] (fun v i wr => ∃ (p : Nat) (ps : Row), p ≤ n5 ∧ i = .int .i64 (p : Int) ∧ ps.length = p ∧ xs ps = (us.take p).map (fun t => (xs ws).getD t []) ∧ (∀ x ∈ xs ps, OkT nums x) ∧ Far wc.heap.size wr v ps ∧ Below wc.heap.size wc wr) (fun _ i _ => n5 - (intOf i).toNat)
            case atStart => exact ⟨0, [], Nat.zero_le _, rfl, rfl, rfl, (fun x hx => by simp [xs] at hx), far_nil _ _, Below.refl _ _⟩
            case round =>
              obtain ⟨p, ps, hp, rfl, hplp, hxs, hokp, hfar, hbel⟩ := hrel
              obtain ⟨aq, aqc, rfl⟩ := hfar.row.shape
              rw [hplp] at hfar ⊢
              have HLENP := Lib.hid hplp
              have HXS := Lib.hid hxs
              have HOK := Lib.hid hokp
              have HOP := Lib.hid hfar
              have HBL := Lib.hid hbel
              have hp0 : (0 : Int) ≤ (p : Int) := by omega
              clear hplp hxs hokp hfar hbel
              by_cases hlt : p < n5
              · have hlti : (p : Int) < (n5 : Int) := by omega
                obtain ⟨b6, off6, rfl, hc6⟩ := (rd_u64_cells4 (HRD.out.kept HBL.out)).2 (by omega)
                have hx6 := hc6 p hlt
                obtain ⟨t, ht⟩ : ∃ t, t = us.getD p 0 := ⟨_, rfl⟩
                have hat : us[p]? = some t := by
                  have hlu : us.length = n5 := HN5.out.symm
                  rw [ht, List.getD_eq_getElem?_getD, List.getElem?_eq_getElem (by rw [hlu]; exact hlt)]
                  rfl
                have hx7 : wr.cell? ⟨b6, off6 + p, none⟩ = some (.int .u64 (t : Int)) := by rw [ht]; exact hx6
                have hqw2 : IntKind.u64.wrap (q : Int) = (q : Int) := IntWalk.u64_in _ (by omega)
                have HAT := Lib.hid hat
                clear hc6 hx6 ht hat
                by_cases htq : q ≤ t
                · have htqi : (q : Int) ≤ (t : Int) := by omega
                  have htqb : decide ((q : Int) ≤ (t : Int)) = true := decide_eq_true htqi
                  have htqb2 : decide ((t : Int) < (q : Int)) = false := decide_eq_false (by omega)
                  have HNT := Lib.hid (d4_far HD4.out HU.out HAT.out (by rw [len_xs, HLEN.out]; exact htq))
                  have HBZ := Lib.hid (show Below w.heap.size w wr from HB5.out.trans (HBL.out.mono hsz5))
                  go_wp2_with fail
                  go_ret2
                  exact ⟨.inr ⟨HNT.out, rfl⟩, HBZ.out⟩
                · have htqi : ¬ (q : Int) ≤ (t : Int) := by omega
                  have htqj : (t : Int) < (q : Int) := by omega
                  have htqb : decide ((q : Int) ≤ (t : Int)) = false := decide_eq_false htqi
                  have htqb2 : decide ((t : Int) < (q : Int)) = true := decide_eq_true htqj
                  have ht0 : (0 : Int) ≤ (t : Int) := by omega
                  have HWR := Lib.hid (HW5.out.keptB HBL.out)
                  obtain ⟨b7, off7, rfl, hc7⟩ := (rdv_cells HWR.out.row.rd).2 (by omega)
                  obtain ⟨ua, uc, x, hux, hue⟩ := row_at (w := wc) (ps := ws) (fun p hp => (HW5.out.els p hp).rd) (q := t) (by rw [HLEN.out]; omega)
                  have hx8 : wr.cell? ⟨b7, off7 + t, none⟩ = some (.slice ua (List.length x) uc) := hc7 t _ hux
                  have HUX := Lib.hid (xs_at hux)
                  have HUE := Lib.hid hue
                  have hsz3 : wc.heap.size ≤ wr.heap.size := HBL.out.size
                  clear hc7 hux hue
                  have HOA := Lib.hid (show (wr.alloc (.cells #[.slice ua (List.length x) uc] 24)).ownsRow wc.heap.size 24 1 (.slice aq p aqc) p (vs ps) from by have h := World.ownsRow.alloc HOP.out.row (.cells #[.slice ua (List.length x) uc] 24); rw [HLENP.out] at h; exact h)
                  have HLT := Lib.hid (rdS_lit wr #[.slice ua (List.length x) uc] 24 1 rfl)
                  have hszB : wc.heap.size ≤ (wr.alloc (.cells #[.slice ua (List.length x) uc] 24)).heap.size := le_alloc0 hsz3 _
                  have HONE := Lib.hid (ones_one (.slice ua (List.length x) uc) rfl)
                  go_wp2_with (at_builtin; go_must (refine wpList_append_k elmR rfl _ _ rfl wc.heap.size _ _ _ rfl HOA.out _ [[.slice ua (List.length x) uc]] rfl HLT.out HONE.out (by simp; omega) hszB (p + 1) rfl ?_); intro ao9 cap9 w9 hown9 hgrow9 hnew9; have HO9 := Lib.hid hown9; have HG9 := Lib.hid hgrow9; have HN9 := Lib.hid hnew9; clear hown9 hgrow9 hnew9)
                  go_roundw
                  case rel =>
                    have hg9 : wr.grownBy w9 (Value.slice aq p aqc).ownBlock := grown_trans (grownBy_any (World.grownBy_alloc wr _ none)) HG9.out
                    have hrow := ownR_base HOP.out.row
                    refine ⟨p + 1, ps ++ [(.slice ua (List.length x) uc, x)], by omega, by go_num, by rw [List.length_append, HLENP.out]; rfl, ?_, fun y hy => ?_, Far.snoc HOP.out (Below.refl _ _) (far_old (g := 0) (v := undef) HBL.out HUE.out hrow) ?_ hg9 ?_, below_ownB HBL.out hsz3 hg9 hrow⟩
                    · have e : (xs ws).getD t [] = x := by rw [List.getD_eq_getElem?_getD, HUX.out]; rfl
                      rw [xs_snoc, HXS.out, List.take_add_one, HAT.out]
                      simp only [Option.toList_some, List.map_append, List.map_cons, List.map_nil, e]
                    · rw [xs_snoc] at hy
                      rcases List.mem_append.1 hy with hy | hy
                      · exact HOK.out y hy
                      · rw [List.mem_singleton.1 hy]; exact HOKW.out _ (List.mem_of_getElem? HUX.out)
                    · rw [HLENP.out]
                      have h := HO9.out
                      simpa using h
                    · intro k hk
                      rcases HN9.out k hk with h | h
                      · exact .inl h
                      · right; rw [h]; simp
                  case measure => simp [intOf]; omega
              · have hpn : p = n5 := by omega
                have hlti : ¬ (p : Int) < (n5 : Int) := by omega
                have HFIN := Lib.hid (show Fin nums 4 rr (c : Int) (xs ps) bad from by
                  have h := d4_end HD4.out HU.out
                  rw [HXS.out, List.take_of_length_le (by rw [← HN5.out]; omega)]
                  exact h)
                have HQZ := Lib.hid (HQ5.out.kept HBL.out hrW)
                have HFZ := Lib.hid (far_mono HOP.out hsz5)
                have HBZ := Lib.hid (show Below w.heap.size w wr from HB5.out.trans (HBL.out.mono hsz5))
                clear hpn
                go_wp2_with fail
                go_meet
                exact ⟨p, ps, left, bad, _, _, rfl, HLENP.out, by omega, HOK.out, HFZ.out, HQZ.out, HFIN.out, HBZ.out⟩
    case rest =>
      obtain ⟨q, ps, left, bad, ao, ac, rfl, hlen, hq65, hok, hfar, hqb, hfin, hbw⟩ := hcut
      have HLEN := Lib.hid hlen
      have HOK := Lib.hid hok
      have HO := Lib.hid hfar
      have HQT := Lib.hid hqb
      have HFIN := Lib.hid hfin
      have HBX := Lib.hid hbw
      have hq0 : (0 : Int) ≤ (q : Int) := by omega
      have hrw1 := hrw
      clear hlen hok hfar hqb hfin hbw hx0
      as_aux_lemma =>
        have HF := Lib.hid (far_mono HO.out (show w.heap.size ≤ w.heap.size from Nat.le_refl _))
        have HBW := Lib.hid (show Below w.heap.size w wc from HBX.out)
        have HTL := Lib.hid (rtell_any nums 4 ps (.slice ao q ac) wc HOK.out HF.out.row.rd HF.out.els)
        obtain ⟨o, ho⟩ : ∃ o, o = gTell nums ((4 : Nat) : Int) (xs ps) := ⟨_, rfl⟩
        have HTL2 : Hid (Calls Try.prog 24 #[.int .i64 4, .slice ao q ac, .bool nums] wc fun e w' => RetTell wc.heap.size o e w' ∧ Below wc.heap.size wc w') := Lib.hid (by rw [ho]; exact HTL.out)
        have HOE := Lib.hid ho.symm
        have hx0 := HX0.out wc HBW.out
        clear ho HTL
        go_wp2_with fail
        refine HTL2.out.mono ?_
        rintro e w3 ⟨hret, hb3⟩
        have HB3 := Lib.hid (show Below w.heap.size w w3 from HBW.out.trans (hb3.mono HBW.out.size))
        have HF3 := Lib.hid (HF.out.kept hb3)
        obtain ⟨vq3, hvq3, _⟩ := HQT.out.kept hb3 hrW
        obtain ⟨_, hcb3, _, _⟩ := isQ_cells hvq3
        clear hvq3 hx0 HTL2
        try clear hcb
        cases o with
        | none =>
          obtain rfl : e = _ := hret
          have HNT := Lib.hid (fin_none HFIN.out HOE.out)
          clear hb3
          cases bad with
          | true =>
            go_wp2_with fail
            go_ret2
            exact ⟨.inr ⟨HNT.out, rfl⟩, HB3.out⟩
          | false =>
            go_wp2_with fail
            go_ret2
            exact ⟨.inr ⟨HNT.out, rfl⟩, HB3.out⟩
        | some bs =>
          obtain ⟨vt, rfl, hown3⟩ := hret
          cases bad with
          | true =>
            have HNT := Lib.hid (fin_bad HFIN.out rfl)
            clear hb3 hown3
            go_wp2_with fail
            go_ret2
            exact ⟨.inr ⟨HNT.out, rfl⟩, HB3.out⟩
          | false =>
            by_cases hqc2 : (q : Int) = (c : Int)
            · have hqcb : ((q : Int) == (c : Int)) = true := beq_iff_eq.2 hqc2
              have hqcn : ((q : Int) != (c : Int)) = false := by unfold bne; rw [hqcb]; rfl
              have h8 := gTell_lt HOE.out HOK.out
              obtain ⟨at3, ct3, rfl⟩ := hown3.shape
              have hrt := OwnB.rd hown3
              obtain ⟨m3, hm3⟩ : ∃ m3, m3 = bs.length := ⟨_, rfl⟩
              rw [← hm3] at hrt hown3 ⊢
              have hcv := run_str (P := Try.prog) w3 24 9 5 Try.underlying24 Try.underlying5 Try.underlying9 hrt (lt256 _ h8)
              have hrb := HR.out.kept HB3.out
              have hk8 : ∀ x ∈ 4 :: rr, x < 256 := fun x hx => by
                rcases List.mem_cons.1 hx with rfl | hx
                · first | decide | omega
                · exact H256.out x hx
              have hcw := run_str (P := Try.prog) w3 24 9 5 Try.underlying24 Try.underlying5 Try.underlying9 hrb (lt256 _ hk8)
              have HLQ := Lib.hid (show ((xs ps).length : Int) = (c : Int) from by rw [len_xs, HLEN.out]; exact hqc2)
              clear hqc2
              by_cases heq : bs = 4 :: rr
              · have hcm : ((strOf bs).toList == (strOf (4 :: rr)).toList) = true := by rw [heq]; exact beq_self_eq_true _
                have hcm2 : ((strOf bs).toList != (strOf (4 :: rr)).toList) = false := by unfold bne; rw [hcm]; rfl
                have HT := Lib.hid (fin_yes HOE.out HLQ.out HOK.out heq)
                have HSH := Lib.hid (refshort_any ps (.slice ao q ac) w3 (by rw [HLEN.out]; omega) HF3.out.row.rd HF3.out.els)
                have hall : ((xs ps).all fun x => decide (x.length ≤ 64)) = true := by
                  rw [List.all_eq_true]
                  intro x hx
                  rw [decide_eq_true_iff]
                  exact (HOK.out x hx).2.1
                rw [hall] at HSH
                clear hb3 hown3 hrt hrb hk8 h8 heq hm3 hall
                cases nums with
                | true =>
                  go_wp2_with fail
                  go_ret2
                  exact ⟨.inl ⟨_, HT.out, _, ps, rfl, HF3.out, rfl⟩, HB3.out⟩
                | false =>
                  go_wp2_with fail
                  refine HSH.out.mono ?_
                  rintro e w4 ⟨rfl, rfl⟩
                  go_wp2_with fail
                  go_ret2
                  exact ⟨.inl ⟨_, HT.out, _, ps, rfl, HF3.out, rfl⟩, HB3.out⟩
              · have hcm := strOf_inj h8 hk8 heq
                have hcm2 : (!((strOf bs).toList == (strOf (4 :: rr)).toList)) = true := by rw [hcm]; rfl
                have hcm3 : ((strOf bs).toList != (strOf (4 :: rr)).toList) = true := hcm2
                have HNT := Lib.hid (fin_un HFIN.out HOE.out heq)
                clear hb3 hown3 hrt hrb hk8 h8 heq hm3
                go_wp2_with fail
                go_ret2
                exact ⟨.inr ⟨HNT.out, rfl⟩, HB3.out⟩
            · have hqcb : ((q : Int) == (c : Int)) = false := beq_eq_false_iff_ne.2 hqc2
              have hqcn : ((q : Int) != (c : Int)) = true := by unfold bne; rw [hqcb]; rfl
              have HNT := Lib.hid (fin_len HFIN.out (by rw [len_xs, HLEN.out]; exact hqc2))
              clear hb3 hown3 hqc2
              go_wp2_with fail
              go_ret2
              exact ⟨.inr ⟨HNT.out, rfl⟩, HB3.out⟩


end Go.Proofs.Ytjcmekhamohbnaa.Bc
