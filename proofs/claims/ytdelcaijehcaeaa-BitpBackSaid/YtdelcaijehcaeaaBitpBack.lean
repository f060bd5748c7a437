/-
  The walk of BitpBack.
-/
import Derived.Test.YtdelcaijehcaeaaAwaka
import Derived.Test.YtdelcaijehcaeaaIsRow
import Derived.Test.YtdelcaijehcaeaaBitpm
import Derived.Deep.DeepCutAuto
namespace Go.Proofs.Ytdelcaijehcaeaa
set_option linter.unusedVariables false
open Go.RowKit

theorem bound_step {us : List Nat} {k m L x : Nat} (hm : ∀ y ∈ us.take k, y < 2 ^ m) (hx : us[k]? = some x) (hL : x < 2 ^ L) (M : Nat) (h1 : m ≤ M) (h2 : L ≤ M) : ∀ y ∈ us.take (k + 1), y < 2 ^ M := by
  intro y hy
  rw [List.take_add_one, hx, List.mem_append] at hy
  rcases hy with hy | hy
  · exact Nat.lt_of_lt_of_le (hm y hy) (Nat.pow_le_pow_right (by decide) h1)
  · simp at hy; subst hy
    exact Nat.lt_of_lt_of_le hL (Nat.pow_le_pow_right (by decide) h2)

set_option maxHeartbeats 1000000 in
theorem walk_BitpBack (a0 : Option Addr) (len0 cap0 : Nat) (z0 : List Int) (a1 : Bool) (w : World) (w0 : IsRow .u64 w a0 len0 cap0 z0) :
    Calls Try.prog 4 #[.slice a0 len0 cap0, .bool a1] w fun e w' => e = .returned (.bool true) ∧ Below w.heap.size w w' := by
  obtain ⟨us, hl, hr, h64⟩ := isRow_u64 w0
  clear w0
  subst hl
  have HR := Lib.hid hr
  have H64 := Lib.hid h64
  have hc := (rd64_cells hr).2
  clear hr h64
  by_cases hbig : us.length ≤ 60
  · have hbig' : decide ((60 : Int) < (us.length : Int)) = false := by simp; omega
    obtain ⟨len, hlen⟩ : ∃ len, len = us.length := ⟨_, rfl⟩
    rw [← hlen] at hbig hbig' hc ⊢
    have HLEN := Lib.hid hlen
    rw [← hlen] at HR
    clear hlen
    go_enter Try.func4, Try.ntmps4
    go_wp2_with fail
    go_loop [5, 20] (fun n i => ∃ k m : Nat, k ≤ len ∧ i = .int .i64 (k : Int) ∧ n = .int .i64 (m : Int) ∧ m ≤ 64 ∧ ∀ y ∈ us.take k, y < 2 ^ m) (fun _ i => len - (intOf i).toNat)
    case atStart => exact ⟨0, 0, Nat.zero_le _, rfl, rfl, by omega, by simp⟩
    case round =>
      obtain ⟨k, m, hk, rfl, rfl, hm, hall⟩ := hrel
      have HALL := Lib.hid hall
      clear hall
      by_cases hlt : k < len
      · obtain ⟨b, off, rfl, hcell⟩ := hc (by omega)
        have hx := hcell k hlt
        obtain ⟨x, hxe⟩ : ∃ x, x = us.getD k 0 := ⟨_, rfl⟩
        rw [← hxe] at hx
        have hget : us[k]? = some x := by
          rw [hxe, List.getD_eq_getElem?_getD, List.getElem?_eq_getElem (by rw [← HLEN.out]; exact hlt)]; rfl
        have hx2 : x < 18446744073709551616 := H64.out x (List.mem_of_getElem? hget)
        obtain ⟨c1, c2, _⟩ := bitLen_spec x hx2
        obtain ⟨L, hL⟩ : ∃ L, L = Lib.bitLen x := ⟨_, rfl⟩
        rw [← hL] at c1 c2
        have HL := Lib.hid hL
        have HG := Lib.hid hget
        have HX := Lib.hid hxe
        have HC2 := Lib.hid c2
        clear hcell hc hxe hget hL c2
        by_cases hmx : m ≤ L
        · go_wp2_with (go_at_call 15; refine (width_lit (U := x) rfl hx2 HL.out.symm).mono ?_; rintro e w6 ⟨rfl, rfl⟩)
          all_goals
            go_round
            case rel => first | exact ⟨k + 1, L, by omega, by go_num, by go_num, c1, bound_step HALL.out HG.out HC2.out L hmx (Nat.le_refl _)⟩ | exact ⟨k + 1, m, by omega, by go_num, by go_num, hm, bound_step HALL.out HG.out HC2.out m (Nat.le_refl _) (by omega)⟩
            case measure => simp [intOf]; omega
        · go_wp2_with (go_at_call 15; refine (width_lit (U := x) rfl hx2 HL.out.symm).mono ?_; rintro e w6 ⟨rfl, rfl⟩)
          all_goals
            go_round
            case rel => exact ⟨k + 1, m, by omega, by go_num, by go_num, hm, bound_step HALL.out HG.out HC2.out m (Nat.le_refl _) (by omega)⟩
            case measure => simp [intOf]; omega
      · have hkl : k = len := by omega
        subst hkl
        have hbd : ∀ y ∈ us, y < 2 ^ m := by have := HALL.out; rwa [HLEN.out, List.take_length] at this
        have HBD := Lib.hid hbd
        clear hbd hlt
        go_upto_if 29 with (fail)
        go_cut [5] (fun s5 wx => ∃ N : Nat, s5 = .int .i64 (N : Int) ∧ N ≤ 64 ∧ (∀ y ∈ us, y < 2 ^ N) ∧ w = wx)
        case first =>
          cases a1
          · go_wp2_with fail
            go_meet
            exact ⟨m, rfl, hm, HBD.out, rfl⟩
          · go_wp2_with fail
            all_goals
              go_meet
              exact ⟨min (m + 1) 64, by go_num, by omega, fun y hy => Nat.lt_of_lt_of_le (HBD.out y hy) (Nat.pow_le_pow_right (by decide) (by omega)), rfl⟩
        case rest =>
          obtain ⟨N, rfl, hN, hbd, rfl⟩ := hcut
          obtain ⟨bs, hbs⟩ : ∃ bs, bs = packB (heldN (N : Int)) us := ⟨_, rfl⟩
          have hbs' : bs = packB N us := by rw [hbs, heldN_id N hN]
          have hlu : us.length ≤ 65535 := by rw [← HLEN.out]; omega
          have HM := Lib.hid (show ∀ x ∈ bs, x < 256 by rw [hbs]; exact packB_mem _ _)
          have hbl : bs.length = (N * k + 7) / 8 := by rw [hbs', packB_length, HLEN.out]
          have HBL := Lib.hid hbl
          have hNk : N * k ≤ 64 * 60 := Nat.mul_le_mul hN hbig
          have HB44 := Lib.hid (show bs.length ≤ 17592186044416 by omega)
          have HUP := Lib.hid (show unpackB bs (N : Int) (k : Int) = some us by rw [hbs', HLEN.out]; exact unpack_pack N us hN hlu hbd)
          have HAT := Lib.hid (show ∀ j, j < k → atB bs (N : Int) (j : Int) = some (us.getD j 0) by
            intro j hj
            rw [hbs', at_pack N us j hN (by rw [← HLEN.out]; exact hj) (by omega)]
            rw [List.getD_eq_getElem?_getD, List.getElem?_eq_getElem (by rw [← HLEN.out]; exact hj)]
            simp only [Option.getD_some]
            rw [Nat.mod_eq_of_lt (hbd _ (List.getElem_mem _))])
          have hm0 : (0 : Int) ≤ (N : Int) * (k : Int) := by have : ((N : Int) * (k : Int)) = ((N * k : Nat) : Int) := by simp
                                                             omega
          have hm1 : (N : Int) * (k : Int) ≤ 3840 := by have : ((N : Int) * (k : Int)) = ((N * k : Nat) : Int) := by simp
                                                        omega
          have hlq : ((bs.length : Int) != ((N : Int) * (k : Int) + 7) / 8) = false := by
            rw [hbl]; simp
          have HBS := Lib.hid hbs.symm
          have HC := Lib.hid hc
          clear hbs hbs' hbl hbd hNk hc
          go_wp2_with fail
          refine (pack_lit HR.out H64.out (by rw [← HLEN.out]; omega) HBS.out).mono ?_
          rintro e w2 ⟨ao, cap, rfl, hown, hb⟩
          have HR2 := Lib.hid (rd_own_map hown)
          have HB2 := Lib.hid hb
          have HRL := Lib.hid (HR.out.kept hb)
          clear hown hb
          simp only [List.length_map]
          go_wp2_with fail
          refine (unpack_lit HR2.out HM.out HB44.out (by omega) HUP.out).mono ?_
          rintro e w3 ⟨ao3, cap3, rfl, hown, hb⟩
          have HR3 := Lib.hid (rd_own_map hown)
          have HR2' := Lib.hid (HR2.out.kept hb)
          have HRL' := Lib.hid (HRL.out.kept hb)
          have HB3 := Lib.hid (below_then HB2.out hb)
          clear hown hb HR2 HRL HB2
          simp only [List.length_map]
          have hsame : (us == us) = true := beq_self_eq_true us
          have HSM := Lib.hid hsame
          have HUL := Lib.hid (show us.length ≤ 17592186044416 by omega)
          clear hsame
          go_wp2_with fail
          refine (same_lit HR3.out HRL'.out HUL.out HSM.out).mono ?_
          rintro e w4 ⟨rfl, hb⟩
          have HR2 := Lib.hid (HR2'.out.kept hb)
          have HRL := Lib.hid (HRL'.out.kept hb)
          have HB4 := Lib.hid (below_then HB3.out hb)
          clear hb HR2' HRL' HB3 HR3
          go_wp2_with fail
          go_loopw [65] (fun i wr => ∃ j : Nat, j ≤ k ∧ i = .int .i64 (j : Int) ∧ Rd wr (.slice ao bs.length cap) (bs.map u8v) ∧ Rd wr (.slice a0 k cap0) (us.map u64v) ∧ Below w.heap.size w wr) (fun i _ => k - (intOf i).toNat)
          case atStart => exact ⟨0, Nat.zero_le _, rfl, HR2.out, HRL.out, HB4.out⟩
          case round =>
            obtain ⟨j, hj, rfl, hrb, hrl, hbel⟩ := hrel
            have hcl := (rd64_cells hrl).2
            have HRB := Lib.hid hrb
            have HRLL := Lib.hid hrl
            have HBB := Lib.hid hbel
            clear hrb hrl hbel HR2 HRL HB4
            by_cases hjl : j < k
            · obtain ⟨b, off, rfl, hcell⟩ := hcl (by omega)
              have hx0 := hcell j hjl
              have HAJ := Lib.hid (HAT.out j hjl)
              obtain ⟨x, hxe⟩ : ∃ x, x = us.getD j 0 := ⟨_, rfl⟩
              rw [← hxe] at hx0 HAJ
              have hne : ((x : Int) != (x : Int)) = false := by simp
              have HX0 := Lib.hid hx0
              clear hcl hcell hxe hx0
              go_wp2_with fail
              refine (at_lit HRB.out HM.out HB44.out HAJ.out).mono ?_
              rintro e w5 ⟨rfl, hb⟩
              have hx : w5.cell? ⟨b, off + j, none⟩ = some (.int .u64 (x : Nat)) := (hb.cell (p := ⟨b, off + j, none⟩) (World.block_lt_of_cell? _ _ HX0.out)).trans HX0.out
              have HBN := Lib.hid (below_then HBB.out hb)
              have HR1 := Lib.hid (HRB.out.kept hb)
              have HR2 := Lib.hid (HRLL.out.kept hb)
              clear hb
              go_wp2_with fail
              go_roundw
              case rel => exact ⟨j + 1, by omega, by go_num, HR1.out, HR2.out, HBN.out⟩
              case measure => simp [intOf]; omega
            · clear hcl
              go_wp2_with fail
              refine (awake1_any _).mono ?_
              rintro e w6 ⟨rfl, hb⟩
              have HB6 := Lib.hid (below_then HBB.out hb)
              clear hb
              go_wp2_with fail
              go_ret
              exact ⟨rfl, HB6.out⟩
  · have hbig' : decide ((60 : Int) < (us.length : Int)) = true := by simp; omega
    clear hc
    go_enter Try.func4, Try.ntmps4
    go_wp2_with fail
    refine (awake1_any _).mono ?_
    rintro e w6 ⟨rfl, hb⟩
    have HB6 := Lib.hid hb
    clear hb
    go_wp2_with fail
    go_ret
    exact ⟨rfl, HB6.out⟩

end Go.Proofs.Ytdelcaijehcaeaa
