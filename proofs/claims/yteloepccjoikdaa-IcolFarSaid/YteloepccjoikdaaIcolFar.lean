/-
  The walk of IcolFar.
-/
import Derived.Test.YteloepccjoikdaaIcolu
import Derived.Test.YteloepccjoikdaaAwake4
namespace Go.Proofs.Yteloepccjoikdaa
set_option linter.unusedVariables false
set_option linter.unusedSimpArgs false
open Go.RowKit

def sixL : List Int := [(-9223372036854775808), (9223372036854775807), (0), (-1), (1), (-9223372036854775807)]
theorem six_at (w : World) (r : Nat) (hr : r < 6) : (w.alloc (.cells #[.int .i64 (-9223372036854775808), .int .i64 (9223372036854775807), .int .i64 (0), .int .i64 (-1), .int .i64 (1), .int .i64 (-9223372036854775807)] 2)).cell? ⟨w.heap.size, r, none⟩ = some (.int .i64 (sixL.getD r 0)) := by
  rw [cell_of_row _ w.heap.size r _ _ _ (heap_alloc_new w _)]
  rcases (by omega : r = 0 ∨ r = 1 ∨ r = 2 ∨ r = 3 ∨ r = 4 ∨ r = 5) with rfl | rfl | rfl | rfl | rfl | rfl <;> rfl
theorem six_i64 (r : Nat) (hr : r < 6) : I64 (sixL.getD r 0) := by
  unfold I64
  rcases (by omega : r = 0 ∨ r = 1 ∨ r = 2 ∨ r = 3 ∨ r = 4 ∨ r = 5) with rfl | rfl | rfl | rfl | rfl | rfl <;> decide
theorem four_at (w w' : World) (hb : Below (w.heap.size + 1) (w.alloc (.cells #[.int .i64 1, .int .i64 2, .int .i64 3, .int .i64 4] 3)) w') (q : Nat) (hq : q < 4) : w'.cell? ⟨w.heap.size, q, none⟩ = some (.int .i64 ((q : Int) + 1)) := by
  have h := (hb.block w.heap.size (by omega)).trans (heap_alloc_new w _)
  rw [cell_of_row _ w.heap.size q _ _ _ h]
  rcases (by omega : q = 0 ∨ q = 1 ∨ q = 2 ∨ q = 3) with rfl | rfl | rfl | rfl <;> rfl

set_option maxRecDepth 100000 in
set_option maxHeartbeats 8000000 in
theorem walk_IcolFar (a0 : Option Addr) (len0 cap0 : Nat) (z0 : List Int) (w : World) (w0 : IsRow .i64 w a0 len0 cap0 z0) :
    Calls Try.prog 6 #[.slice a0 len0 cap0] w fun e w' => e = .returned (.bool true) ∧ Below w.heap.size w w' := by
  obtain ⟨la, hla, h1, _⟩ := isRow_rd w0
  have HLA := Lib.hid hla
  have HR := Lib.hid h1
  have b255 : ∀ x, bits .and .i64 x 255 = x % 256 := fun x => and_lowI x 8 (by decide) 255 rfl
  clear hla h1 w0
  go_enter Try.func6, Try.ntmps6
  go_wp2_with fail
  go_loopw [3, 4] (fun v k wr => ∃ (q : Nat) (xs : List Int), q ≤ len0 ∧ q ≤ 40 ∧ k = .int .i64 (q : Int) ∧ xs.length = q ∧ (∀ z ∈ xs, I64 z) ∧ OwnI w.heap.size wr v xs ∧ Below w.heap.size w wr) (fun _ k _ => 40 - (intOf k).toNat)
  case atStart => exact ⟨0, [], Nat.zero_le _, Nat.zero_le _, rfl, rfl, (fun z hz => by cases hz), ownI_nil _ _, Below.refl _ _⟩
  case round =>
    obtain ⟨q, xs, hq, hq4, rfl, hxl, hxI, hown, hbel⟩ := hrel
    obtain ⟨ao, cap, rfl⟩ := hown.shape
    rw [hxl] at hown ⊢
    have HXL := Lib.hid hxl
    have HXI := Lib.hid hxI
    have HO := Lib.hid (show wr.ownsRow w.heap.size 2 1 (.slice ao q cap) q (xs.map (.int .i64)) from by subst hxl; exact hown)
    have HBL := Lib.hid hbel
    clear hxl hxI hown hbel
    by_cases hlt : q < len0 ∧ q < 40
    · obtain ⟨hl1, hl2⟩ := hlt
      have hl1i : (q : Int) < (len0 : Int) := by omega
      have hl2i : (q : Int) < 40 := by omega
      have hq0 : (0 : Int) ≤ (q : Int) := by omega
      have hlp : 0 < la.length := by rw [HLA.out]; omega
      have hcp := (rd_i64_cells (HR.out.kept (HBL.out.trans (below_alloc wr (.cells #[.int .i64 (-9223372036854775808), .int .i64 (9223372036854775807), .int .i64 (0), .int .i64 (-1), .int .i64 (1), .int .i64 (-9223372036854775807)] 2) |>.mono HBL.out.size)))).2 (by omega)
      obtain ⟨b, off, rfl, hcell⟩ := hcp
      have hx := hcell q (by omega)
      obtain ⟨z, hz⟩ : ∃ z, z = la.getD q 0 := ⟨_, rfl⟩
      rw [← hz] at hx
      obtain ⟨r, hr⟩ : ∃ r : Nat, (r : Int) = z % 256 % 6 := ⟨(z % 256 % 6).toNat, by omega⟩
      have hr6 : r < 6 := by omega
      have hr0 : (0 : Int) ≤ (r : Int) := by omega
      have hr6i : (r : Int) < 6 := by omega
      have hrem : Int.tmod (z % 256) 6 = (r : Int) := by rw [Int.tmod_eq_emod_of_nonneg (by omega)]; exact hr.symm
      have hs := six_at wr r hr6
      obtain ⟨u, hu⟩ : ∃ u, u = sixL.getD r 0 := ⟨_, rfl⟩
      have HU := Lib.hid (show I64 u from by rw [hu]; exact six_i64 r hr6)
      rw [← hu] at hs
      have HOA := Lib.hid (show ((wr.alloc (.cells #[.int .i64 (-9223372036854775808), .int .i64 (9223372036854775807), .int .i64 (0), .int .i64 (-1), .int .i64 (1), .int .i64 (-9223372036854775807)] 2)).alloc (.cells #[.int .i64 u] 2)).ownsRow w.heap.size 2 1 (.slice ao q cap) q (xs.map (.int .i64)) from World.ownsRow.alloc (World.ownsRow.alloc HO.out _) _)
      have HLT := Lib.hid (show RdS ((wr.alloc (.cells #[.int .i64 (-9223372036854775808), .int .i64 (9223372036854775807), .int .i64 (0), .int .i64 (-1), .int .i64 (1), .int .i64 (-9223372036854775807)] 2)).alloc (.cells #[.int .i64 u] 2)) 1 (.slice (some ⟨wr.heap.size + 1, 0, none⟩) 1 1) [[Value.int .i64 u]] from by
        have h := rdS_lit (wr.alloc (.cells #[.int .i64 (-9223372036854775808), .int .i64 (9223372036854775807), .int .i64 (0), .int .i64 (-1), .int .i64 (1), .int .i64 (-9223372036854775807)] 2)) #[.int .i64 u] 2 1 rfl
        rw [show (wr.alloc (.cells #[.int .i64 (-9223372036854775808), .int .i64 (9223372036854775807), .int .i64 (0), .int .i64 (-1), .int .i64 (1), .int .i64 (-9223372036854775807)] 2)).heap.size = wr.heap.size + 1 by simp] at h
        exact h)
      have hba : Below w.heap.size w ((wr.alloc (.cells #[.int .i64 (-9223372036854775808), .int .i64 (9223372036854775807), .int .i64 (0), .int .i64 (-1), .int .i64 (1), .int .i64 (-9223372036854775807)] 2)).alloc (.cells #[.int .i64 u] 2)) := (HBL.out.trans (below_alloc wr _ |>.mono HBL.out.size)).trans ((below_alloc _ _).mono (by have := HBL.out.size; simp; omega))
      have HBA := Lib.hid hba
      have hszB := hba.size
      have HONE := Lib.hid (show Ones 1 [[Value.int .i64 u]] from fun t ht => by rw [List.mem_singleton.1 ht]; exact ⟨rfl, fun u hu => by rw [List.mem_singleton.1 hu]; rfl⟩)
      clear hcell hz hr hu hba hlp
      go_wp2_with (at_builtin; go_must (refine wpList_append_k elmI64 rfl _ _ rfl w.heap.size _ _ _ rfl HOA.out _ [[Value.int .i64 u]] rfl HLT.out HONE.out (by simp; omega) hszB (q + 1) rfl ?_); intro ao4 cap4 w4 hown4 hgrow4 hnew4; have HO4 := Lib.hid hown4; have HG4 := Lib.hid hgrow4; clear hown4 hgrow4 hnew4)
      go_roundw
      case rel =>
        refine ⟨q + 1, xs ++ [u], by omega, by omega, by go_num, by rw [List.length_append, HXL.out]; rfl, fun y hy => ?_, ?_, ?_⟩
        · rcases List.mem_append.1 hy with h | h
          · exact HXI.out y h
          · rw [List.mem_singleton.1 h]; exact HU.out
        · have h := HO4.out
          exact OwnI.of (n := q + 1) (by rw [List.map_append]; exact h)
        · exact below_ownB HBA.out HBA.out.size HG4.out (own_base HOA.out)
      case measure => simp [intOf]; omega
    · obtain ⟨wx, hwx⟩ : ∃ wx : World, wx = wr := ⟨_, rfl⟩
      rw [← hwx] at HO HBL ⊢
      clear hwx b255
      obtain ⟨W6, hW6⟩ : ∃ W6 : World, W6 = wx.alloc (.cells #[.int .i64 1, .int .i64 2, .int .i64 3, .int .i64 4] 3) := ⟨_, rfl⟩
      have hsz6 : W6.heap.size = wx.heap.size + 1 := by rw [hW6]; simp
      have HF := Lib.hid (show ∀ w', Below W6.heap.size W6 w' → ∀ p, p < 4 → w'.cell? ⟨wx.heap.size, p, none⟩ = some (.int .i64 ((p : Int) + 1)) from fun w' h p hp => four_at wx w' (by rw [hsz6, hW6] at h; exact h) p hp)
      have HB6 := Lib.hid (show Below w.heap.size w W6 from by rw [hW6]; exact HBL.out.trans (below_alloc wx _ |>.mono HBL.out.size))
      have HRX := Lib.hid (show Rd W6 (.slice ao q cap) (xs.map (.int .i64)) from by rw [hW6]; exact (Rd.of_owns HO.out).kept (below_alloc wx _))
      have HW6 := Lib.hid hW6
      clear hW6 HO HBL
      rcases (by omega : (q < len0 ∧ q = 40) ∨ ¬ q < len0) with ⟨c1, c2⟩ | c1
      · have hl1i : (q : Int) < (len0 : Int) := by omega
        have hl2i : ¬ (q : Int) < 40 := by omega
        clear hlt c2
        go_wp2_with fail
        go_loopw [35] (fun i wr => ∃ p : Nat, p ≤ 4 ∧ i = .int .i64 (p : Int) ∧ Below W6.heap.size W6 wr) (fun i _ => 4 - (intOf i).toNat)
        case atStart => exact ⟨0, by omega, rfl, by rw [← HW6.out]; exact Below.refl _ _⟩
        case round =>
          obtain ⟨p, hp, rfl, hbel⟩ := hrel
          have HBL := Lib.hid hbel
          clear hbel
          by_cases hp4 : p < 4
          · have hp4i : (p : Int) < 4 := by omega
            have hp0 : (0 : Int) ≤ (p : Int) := by omega
            have hcell := HF.out wr HBL.out p hp4
            obtain ⟨K, hK⟩ : ∃ K : Int, K = (p : Int) + 1 := ⟨_, rfl⟩
            rw [← hK] at hcell
            have hk14 : 1 ≤ K ∧ K ≤ 4 := by omega
            have hTE := tell_any K xs (.slice ao q cap) wr HXI.out (by rw [HXL.out]; omega) (HRX.out.kept HBL.out)
            rw [tell_some K hk14 xs (by rw [HXL.out]; omega)] at hTE
            have hlt2 := told_lt K hk14 xs HXI.out (by rw [HXL.out]; omega)
            have hdt := dec_tell K hk14 xs (by rw [HXL.out]; omega) HXI.out
            obtain ⟨bs, hbs⟩ : ∃ bs, bs = K.toNat :: kindT K xs := ⟨_, rfl⟩
            rw [← hbs] at hTE hlt2 hdt
            rw [HXL.out] at hdt
            have HTE := Lib.hid hTE
            have HDT := Lib.hid hdt
            have HL2 := Lib.hid hlt2
            clear hbs hTE hdt hlt2 hK hk14
            go_wp2_with fail
            refine HTE.out.mono ?_
            rintro e w2 ⟨⟨v2, rfl, hown2⟩, hb2⟩
            have HB2 := Lib.hid (below_then HBL.out hb2)
            have hDE := decode_i bs v2 (q : Int) w2 (OwnB.rd hown2) HL2.out.1 (by have := HL2.out.2; omega)
            rw [HDT.out] at hDE
            have HDE := Lib.hid hDE
            clear hown2 hb2 hDE hcell HTE
            go_wp2_with fail
            refine HDE.out.mono ?_
            rintro e w3 ⟨⟨v3, rfl, hown3⟩, hb3⟩
            have HB3 := Lib.hid (below_then HB2.out hb3)
            have HSI := Lib.hid (sameints_any xs (.slice ao q cap) v3 w3 (by rw [HXL.out]; omega) (HRX.out.kept HB3.out) (OwnI.rd hown3))
            clear hown3 hb3 HDE
            go_wp2_with fail
            refine HSI.out.mono ?_
            rintro e w4 ⟨rfl, hb4⟩
            have HB4 := Lib.hid (below_then HB3.out hb4)
            clear hb4 HSI
            go_wp2_with fail
            go_roundw
            case rel => exact ⟨p + 1, by omega, by go_num, HB4.out⟩
            case measure => simp [intOf]; omega
          · have hp4e : p = 4 := by omega
            subst hp4e
            have HAW := Lib.hid (awake4_any wr)
            go_wp2_with fail
            refine HAW.out.mono ?_
            rintro e w2 ⟨rfl, hb2⟩
            have HB2 := Lib.hid (below_then HBL.out hb2)
            clear hb2
            go_wp2_with fail
            go_ret
            exact ⟨rfl, HB6.out.trans (HB2.out.mono HB6.out.size)⟩
      · have hl1i : ¬ (q : Int) < (len0 : Int) := by omega
        clear hlt
        go_wp2_with fail
        go_loopw [35] (fun i wr => ∃ p : Nat, p ≤ 4 ∧ i = .int .i64 (p : Int) ∧ Below W6.heap.size W6 wr) (fun i _ => 4 - (intOf i).toNat)
        case atStart => exact ⟨0, by omega, rfl, by rw [← HW6.out]; exact Below.refl _ _⟩
        case round =>
          obtain ⟨p, hp, rfl, hbel⟩ := hrel
          have HBL := Lib.hid hbel
          clear hbel
          by_cases hp4 : p < 4
          · have hp4i : (p : Int) < 4 := by omega
            have hp0 : (0 : Int) ≤ (p : Int) := by omega
            have hcell := HF.out wr HBL.out p hp4
            obtain ⟨K, hK⟩ : ∃ K : Int, K = (p : Int) + 1 := ⟨_, rfl⟩
            rw [← hK] at hcell
            have hk14 : 1 ≤ K ∧ K ≤ 4 := by omega
            have hTE := tell_any K xs (.slice ao q cap) wr HXI.out (by rw [HXL.out]; omega) (HRX.out.kept HBL.out)
            rw [tell_some K hk14 xs (by rw [HXL.out]; omega)] at hTE
            have hlt2 := told_lt K hk14 xs HXI.out (by rw [HXL.out]; omega)
            have hdt := dec_tell K hk14 xs (by rw [HXL.out]; omega) HXI.out
            obtain ⟨bs, hbs⟩ : ∃ bs, bs = K.toNat :: kindT K xs := ⟨_, rfl⟩
            rw [← hbs] at hTE hlt2 hdt
            rw [HXL.out] at hdt
            have HTE := Lib.hid hTE
            have HDT := Lib.hid hdt
            have HL2 := Lib.hid hlt2
            clear hbs hTE hdt hlt2 hK hk14
            go_wp2_with fail
            refine HTE.out.mono ?_
            rintro e w2 ⟨⟨v2, rfl, hown2⟩, hb2⟩
            have HB2 := Lib.hid (below_then HBL.out hb2)
            have hDE := decode_i bs v2 (q : Int) w2 (OwnB.rd hown2) HL2.out.1 (by have := HL2.out.2; omega)
            rw [HDT.out] at hDE
            have HDE := Lib.hid hDE
            clear hown2 hb2 hDE hcell HTE
            go_wp2_with fail
            refine HDE.out.mono ?_
            rintro e w3 ⟨⟨v3, rfl, hown3⟩, hb3⟩
            have HB3 := Lib.hid (below_then HB2.out hb3)
            have HSI := Lib.hid (sameints_any xs (.slice ao q cap) v3 w3 (by rw [HXL.out]; omega) (HRX.out.kept HB3.out) (OwnI.rd hown3))
            clear hown3 hb3 HDE
            go_wp2_with fail
            refine HSI.out.mono ?_
            rintro e w4 ⟨rfl, hb4⟩
            have HB4 := Lib.hid (below_then HB3.out hb4)
            clear hb4 HSI
            go_wp2_with fail
            go_roundw
            case rel => exact ⟨p + 1, by omega, by go_num, HB4.out⟩
            case measure => simp [intOf]; omega
          · have hp4e : p = 4 := by omega
            subst hp4e
            have HAW := Lib.hid (awake4_any wr)
            go_wp2_with fail
            refine HAW.out.mono ?_
            rintro e w2 ⟨rfl, hb2⟩
            have HB2 := Lib.hid (below_then HBL.out hb2)
            clear hb2
            go_wp2_with fail
            go_ret
            exact ⟨rfl, HB6.out.trans (HB2.out.mono HB6.out.size)⟩


end Go.Proofs.Yteloepccjoikdaa
