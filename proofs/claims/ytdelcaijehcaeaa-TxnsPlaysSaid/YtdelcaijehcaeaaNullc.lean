/-
  Contract of null's decodeMixed.
-/
import Derived.Test.YtdelcaijehcaeaaNullb
import Derived.OwnWalk
import Derived.BigRegion
namespace Go.Proofs.Ytdelcaijehcaeaa
set_option linter.unusedVariables false
open Go.RowKit

/-- The call hands back bools and what stands behind them, or none. -/
def RetDec (o : Option (List Bool × List Nat)) (w : World) (e : Ending) (w' : World) : Prop :=
  (o = none ∧ e = .returned (.tuple #[.slice none 0 0, .slice none 0 0, .bool false]) ∧ Below w.heap.size w w') ∨
  ∃ l r ao len cap ao2 len2 cap2, o = some (l, r) ∧ e = .returned (.tuple #[.slice ao len cap, .slice ao2 len2 cap2, .bool true]) ∧ Rd w' (.slice ao len cap) (l.map boolv) ∧ Rd w' (.slice ao2 len2 cap2) (r.map u8v) ∧ Below w.heap.size w w'

/-- What stands behind the first q. -/
theorem rd_behind {w : World} {ao : Option Addr} {len cap q : Nat} {xs : List Value} (h : Rd w (.slice ao len cap) xs) (hq : q ≤ len) :
    Rd w (.slice (if cap = q then ao else Option.map (fun x => x.add q) ao) (len - q) (cap - q)) (xs.drop q) := by
  have hcl := rd_cap h
  by_cases hc : cap = q
  · rw [if_pos hc]
    have hl : len = q := by omega
    obtain ⟨ao', cap', hv, _, _⟩ := h
    simp only [Value.slice.injEq] at hv
    have hd : xs.drop q = [] := List.drop_of_length_le (by omega)
    rw [hd, show len - q = 0 by omega, show cap - q = 0 by omega]
    exact ⟨ao, 0, rfl, ⟨fun _ => rfl, by simp⟩, fun hp => by simp at hp⟩
  · rw [if_neg hc]
    have h' := h
    obtain ⟨ao', cap', hv, hcap, hcell⟩ := h
    simp only [Value.slice.injEq] at hv
    obtain ⟨rfl, hl, rfl⟩ := hv
    rcases ao with _ | a
    · have := hcap.1 rfl; omega
    · have hl2 : (xs.drop q).length = len - q := by rw [List.length_drop, hl]
      refine ⟨_, _, by rw [hl2], ⟨(fun h => by cases h), by rw [hl2]; omega⟩, fun hp => ?_⟩
      rw [hl2] at hp
      obtain ⟨b, off, ha, _⟩ := hcell (by omega)
      cases ha
      have h2 := rd_drop h' hq
      obtain ⟨a2, c2, hv2, _, hc2⟩ := h2
      simp only [Value.slice.injEq] at hv2
      obtain ⟨rfl, _, _⟩ := hv2
      obtain ⟨b2, off2, ha2, hc3⟩ := hc2 (by rw [hl2]; exact hp)
      cases ha2
      exact ⟨b, off + q, by simp [Addr.add], hc3⟩

theorem rd_drewN {w : World} {v : Value} {xs : List Value} (h : Rd w v xs) (k : Nat) : Rd (w.drewN k) v xs := h

set_option maxRecDepth 100000 in
set_option maxHeartbeats 2000000 in
theorem mixed_any (v : Value) (bs : List Nat) (C : Nat) (w : World) (hr : Rd w v (bs.map u8v)) (h256 : ∀ x ∈ bs, x < 256) (hbig : bs.length ≤ 17592186044416) (hC : C ≤ 65535) :
    Calls Try.prog 67 #[v, .int .i64 (C : Int)] w (RetDec (decK C 2 bs) w) := by
  have hr2 := hr
  obtain ⟨ao, cap, hv, hcap, _⟩ := hr2
  rw [List.length_map] at hv
  subst hv
  obtain ⟨len, hlen⟩ : ∃ len, len = bs.length := ⟨_, rfl⟩
  rw [← hlen] at hr ⊢
  have HL := Lib.hid hlen
  have HR := Lib.hid hr
  have HBIG := Lib.hid hbig
  obtain ⟨q, hq⟩ : ∃ q, q = (C + 7) / 8 := ⟨_, rfl⟩
  have hqi : ((C : Int) + 7).tdiv 8 = (q : Int) := by rw [Int.tdiv_eq_ediv_of_nonneg (by omega)]; omega
  have hq1 : q ≤ 8192 := by omega
  have HQ := Lib.hid hq
  clear hr hlen hbig hcap hq
  by_cases hlq : len < q
  · have hlq' : decide ((len : Int) < (q : Int)) = true := by simp; omega
    go_enter Try.func67, Try.ntmps67
    go_wp2_with fail
    go_ret3
    exact .inl ⟨decK_short C bs (by rw [← HL.out, ← HQ.out]; exact hlq), rfl, Below.refl _ _⟩
  · have hlq' : decide ((len : Int) < (q : Int)) = false := by simp; omega
    have HQB := Lib.hid (show (C + 7) / 8 ≤ bs.length by rw [← HL.out, ← HQ.out]; omega)
    have HT := Lib.hid (show Rd w (.slice ao q cap) ((bs.take q).map u8v) by rw [List.map_take]; exact rd_take HR.out (by omega))
    have HT256 := Lib.hid (show ∀ x ∈ bs.take q, x < 256 from fun x hx => h256 x (List.mem_of_mem_take hx))
    have HTL := Lib.hid (show (bs.take q).length ≤ 17592186044416 by have := HBIG.out; rw [List.length_take]; omega)
    have hcq : q ≤ cap := by have := rd_cap HR.out; omega
    clear h256
    rcases hu : unpackB (bs.take q) 1 (C : Int) with _ | us
    · have HU := Lib.hid hu
      clear hu
      go_enter Try.func67, Try.ntmps67
      go_wp2_with fail
      refine (unpack_lit_no HT.out HT256.out HTL.out HU.out).mono ?_
      rintro e w2 ⟨rfl, hb⟩
      have HB := Lib.hid hb
      clear hb
      go_wp2_with fail
      go_ret3
      exact .inl ⟨decK_none C bs HQB.out (by rw [← HQ.out]; exact HU.out), rfl, HB.out⟩
    · have hul : us.length = C := by
        unfold unpackB at hu
        split at hu
        · simp only [Option.some.injEq] at hu
          rw [← hu]; simp
        · cases hu
      have HU := Lib.hid hu
      have HUL := Lib.hid hul
      have HDK := Lib.hid (decK_some C bs us HQB.out (by rw [← HQ.out]; exact hu))
      clear hu hul
      obtain ⟨i0, hi, hz0, hz1, hz2⟩ := info_parts infob
      go_enter Try.func67, Try.ntmps67
      go_wp2_with fail
      refine (unpack_lit HT.out HT256.out HTL.out (by omega) HU.out).mono ?_
      rintro e w2 ⟨ao2, cap2, rfl, hown, hb⟩
      have HR2 := Lib.hid (rd_own_map hown)
      rw [HUL.out] at HR2
      simp only [List.length_map, HUL.out]
      have HB := Lib.hid hb
      clear hown hb
      go_wp2_with (at_make; refine wpList_make_full _ rfl _ _ 65 rfl w.heap.size 4 i0 (.bool false) 1 Try.underlying65 hi hz0 hz1 .i64 .i64 _ _ C rfl rfl rfl rfl (by rw [hz2]; omega) (by unfold maxLen; omega) HB.out.size ?_; intro w3 hown1 hgrow1)
      clear hi hz0 hz1 hz2
      obtain ⟨xs, hxs⟩ : ∃ xs, xs = us.map (· == 1) := ⟨_, rfl⟩
      have hxl : xs.length = C := by rw [hxs, List.length_map, HUL.out]
      have HXL := Lib.hid hxl
      have HXS := Lib.hid hxs
      rw [← hxs] at HDK
      clear hxs hxl
      have hown2 : w3.ownsRow w.heap.size 4 1 (.slice (some ⟨w2.heap.size, 0, none⟩) C C) C ((setTo xs (List.replicate C false) 0).map boolv) := by
        have : setTo xs (List.replicate C false) 0 = List.replicate C false := by simp [setTo]
        rw [this, ← madeb]; exact hown1
      have HO := Lib.hid hown2
      have HB3 := Lib.hid (HB.out.grown hgrow1 HB.out.size (fun k e => by cases e))
      have hb23 : Below w2.heap.size w2 w3 := (Below.refl _ w2).grown hgrow1 (Nat.le_refl _) (fun k e => by cases e)
      have HB23 := Lib.hid hb23
      clear hown1 hgrow1 hown2 hb23
      go_loopw [35] (fun i wr => ∃ k : Nat, k ≤ C ∧ i = .int .i64 (k : Int) ∧ wr.ownsRow w.heap.size 4 1 (.slice (some ⟨w2.heap.size, 0, none⟩) C C) C ((setTo xs (List.replicate C false) k).map boolv) ∧ Below w2.heap.size w2 wr) (fun i _ => C - (intOf i).toNat)
      case atStart => exact ⟨0, Nat.zero_le _, rfl, HO.out, HB23.out⟩
      case round =>
        obtain ⟨k, hk, rfl, hown, hbel⟩ := hrel
        have HBW := Lib.hid hbel
        have HW := Lib.hid hown
        clear hbel hown HO HB23
        by_cases hlt : k < C
        · obtain ⟨o, off, rfl, hcell⟩ := (rd64_cells (HR2.out.kept HBW.out)).2 (by omega)
          have hx := hcell k hlt
          obtain ⟨x, hxe⟩ : ∃ x, x = us.getD k 0 := ⟨_, rfl⟩
          rw [← hxe] at hx
          have hget : xs[k]? = some (x == 1) := by
            rw [HXS.out, List.getElem?_map, hxe, List.getD_eq_getElem?_getD, List.getElem?_eq_getElem (by rw [HUL.out]; exact hlt)]; rfl
          have HG := Lib.hid hget
          have hfz := HW.out.frozenAt k
          obtain ⟨y, hy⟩ : ∃ y, wr.cell? ⟨w2.heap.size, k, none⟩ = some y := by
            have hcx := HW.out.cellAt k (by omega)
            rw [hcx, List.getElem?_eq_getElem (by rw [List.length_map, setTo_length _ _ _ (by rw [HXL.out, List.length_replicate]) (by rw [HXL.out]; exact hk), HXL.out]; exact hlt)]; exact ⟨_, rfl⟩
          clear hxe hcell hget
          have hstep : ∀ b : Bool, (x == 1) = b → (wr.setCell ⟨w2.heap.size, k, none⟩ (.bool b)).ownsRow w.heap.size 4 1 (.slice (some ⟨w2.heap.size, 0, none⟩) C C) C ((setTo xs (List.replicate C false) (k + 1)).map boolv) := by
            intro b hb
            have h2 := HG.out
            rw [hb] at h2
            rw [← setTo_step _ _ k b h2 (by rw [List.length_replicate]; exact hlt), List.map_set]
            exact (HW.out.stored k (boolv b)).1
          have HST := Lib.hid hstep
          clear hstep
          by_cases hx1 : x = 1
          · subst hx1
            go_wp2_with fail
            go_roundw
            case rel => exact ⟨k + 1, by omega, by go_num, HST.out true rfl, HBW.out.trans ((Below.refl _ _).setCell (p := ⟨w2.heap.size, k, none⟩) (Nat.le_refl _) _)⟩
            case measure => simp [intOf]; omega
          · have hx1' : ((x : Int) == 1) = false := by rw [beq_eq_false_iff_ne]; omega
            have hx2 : (x == 1) = false := by rw [beq_eq_false_iff_ne]; exact hx1
            go_wp2_with fail
            go_roundw
            case rel => exact ⟨k + 1, by omega, by go_num, HST.out false hx2, HBW.out.trans ((Below.refl _ _).setCell (p := ⟨w2.heap.size, k, none⟩) (Nat.le_refl _) _)⟩
            case measure => simp [intOf]; omega
        · obtain rfl : k = C := by omega
          have hst : setTo xs (List.replicate k false) k = xs := by unfold setTo; rw [List.drop_of_length_le (by simp), List.append_nil, ← HXL.out, List.take_length]
          rw [hst] at HW
          have hrx : Rd wr (.slice (some ⟨w2.heap.size, 0, none⟩) k k) (xs.map boolv) := Rd.of_owns HW.out
          have HRX := Lib.hid hrx
          obtain ⟨c, hc⟩ : ∃ c, c = countB xs := ⟨_, rfl⟩
          have HCC := Lib.hid hc
          have HBB := Lib.hid (below_then HB.out HBW.out)
          clear hst hrx hc
          go_wp2_with fail
          refine (count_any _ xs _ HRX.out (by rw [HXL.out]; omega)).mono ?_
          rw [← HCC.out]
          rintro e w5 ⟨rfl, rfl⟩
          rw [← HCC.out] at HDK
          by_cases h0 : c = 0
          · subst h0
            go_wp2_with fail
            go_ret3
            exact .inl ⟨by rw [HDK.out]; simp, rfl, HBB.out⟩
          · have h0i : ((c : Int) == 0) = false := by rw [beq_eq_false_iff_ne]; omega
            by_cases h1 : c = k
            · subst h1
              go_wp2_with fail
              go_ret3
              exact .inl ⟨by rw [HDK.out]; simp, rfl, HBB.out⟩
            · have h1i : ((c : Int) == (k : Int)) = false := by rw [beq_eq_false_iff_ne]; omega
              go_wp2_with fail
              have hrb := rd_behind (HR.out.kept HBB.out) (show q ≤ len by omega)
              go_quiet (fail)
              obtain ⟨aq, haq⟩ : ∃ aq, aq = (if cap = q then ao else Option.map (fun x => x.add q) ao) := ⟨_, rfl⟩
              rw [← haq] at hrb ⊢
              rw [← List.map_drop] at hrb
              have HRB := Lib.hid hrb
              clear haq hrb
              go_wp2_with fail
              go_ret3
              refine .inr ⟨xs, bs.drop q, _, _, _, _, _, _, ?_, rfl, rd_drewN HRX.out _, rd_drewN HRB.out _, below_draws HBB.out _⟩
              rw [HDK.out, if_neg (by omega), HQ.out]

end Go.Proofs.Ytdelcaijehcaeaa
