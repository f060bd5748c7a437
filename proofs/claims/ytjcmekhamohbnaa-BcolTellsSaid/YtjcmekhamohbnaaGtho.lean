/-
  Contracts of the reference: get: kinds that there are not.
  Contracts of the reference: get of any bytes; Decode.
-/
import Derived.Test.YtjcmekhamohbnaaGtbase
import Derived.Test.YtjcmekhamohbnaaGtde
import Derived.Test.YtjcmekhamohbnaaGtf
import Derived.Test.YtjcmekhamohbnaaGtg
import Derived.Test.YtjcmekhamohbnaaGtij
namespace Go.Proofs.Ytjcmekhamohbnaa.Bc
set_option linter.unusedVariables false
set_option linter.unusedSimpArgs false
open Go.RowKit

set_option maxRecDepth 100000 in
set_option maxHeartbeats 8000000 in
theorem get_odd (k : Nat) (nums : Bool) (rr : List Nat) (c : Nat) (bv : Value) (w : World) (hr : Rd w bv ((k :: rr).map u8v)) (h256 : ∀ x ∈ rr, x < 256) (hbig : rr.length ≤ 900000) (hc : c ≤ 65535) (hk : k < 1 ∨ 4 < k) (hk256 : k < 256) :
    Calls Try.prog 29 #[bv, .int .i64 (c : Int), .bool nums] w fun e w' => RetGet w.heap.size nums k rr (c : Int) e w' ∧ Below w.heap.size w w' := by
  obtain ⟨ao, cap, rfl⟩ := rd_shape1 hr
  rw [List.length_map] at hr ⊢
  obtain ⟨m, hm⟩ : ∃ m, m = List.length (k :: rr) := ⟨_, rfl⟩
  have hrl2 : rr.length = m - 1 := by rw [hm, List.length_cons]; omega
  have hm1 : 1 ≤ m := by rw [hm, List.length_cons]; omega
  rw [← hm] at hr ⊢
  have HRL := Lib.hid hrl2
  have HR := Lib.hid hr
  have H256 := Lib.hid h256
  have HBIG := Lib.hid hbig
  have HRM := Lib.hid (show m ≤ 900001 by omega)
  obtain ⟨b, off, rfl, hcell⟩ := (rd_cells hr).2 (by omega)
  have hx0 := hcell 0 (by omega)
  rw [Nat.add_zero] at hx0
  have HX0 := Lib.hid (show ∀ w', Below w.heap.size w w' → w'.cell? ⟨b, off, none⟩ = some (.int .u8 (k : Int)) from fun w' h => (h.cell (World.block_lt_of_cell? _ _ hx0)).trans hx0)
  have hcapn := rd_cap HR.out
  have hnb : ((m : Int) == 0) = false := by rw [beq_eq_false_iff_ne]; omega
  have hnb2 : ¬ ((m : Int) = 0) := by omega
  have hnp : (0 : Int) < (m : Int) := by omega
  have hn1i : (1 : Int) ≤ (m : Int) := by omega
  have hc0 : decide ((c : Int) < 0) = false := decide_eq_false (by omega)
  have hc00 : ¬ (c : Int) < 0 := by omega
  have hc01 : (0 : Int) ≤ (c : Int) := by omega
  have hc1 : decide ((c : Int) > 65535) = false := decide_eq_false (by omega)
  have hc11 : ¬ (c : Int) > 65535 := by omega
  clear hr h256 hm hrl2 hcell hx0 hbig
  go_enter Try.func29, Try.ntmps29
  go_upto_region 3 with (fail)
  go_cut [8] (fun p wx => ∃ r, p = .pointer (some ⟨r, 0, none⟩) ∧ w.heap.size ≤ r ∧ r < wx.heap.size ∧ IsQB wx.heap.size wx r rr false ∧ Below w.heap.size w wx)
  case first =>
    by_cases hck : cap = 1
    · have hn2 : m = 1 := by omega
      subst hck
      subst hn2
      have HR4 := Lib.hid (show Rd w (.slice (some ⟨b, off, none⟩) 0 0) (rr.map u8v) from by
        have : rr = [] := List.length_eq_zero_iff.1 HRL.out
        rw [this]
        exact rd_empty w _ 0)
      go_wp2_with fail
      go_meet
      exact ⟨w.heap.size, rfl, Nat.le_refl _, by simp, newQ HR4.out, below_alloc w _⟩
    · have hck2 : ¬ 1 = cap := fun h => hck h.symm
      have HR4 := Lib.hid (show Rd w (.slice (some ⟨b, off + 1, none⟩) (m - 1) (cap - 1)) (rr.map u8v) from by
        have h := rd_drop HR.out (n := 1) (by omega)
        rw [← List.map_drop] at h
        exact h)
      go_wp2_with fail
      go_meet
      exact ⟨w.heap.size, rfl, Nat.le_refl _, by simp, newQ HR4.out, below_alloc w _⟩
  case rest =>
    obtain ⟨r, rfl, hrw, hrW, hq1, hb1⟩ := hcut
    have HQ1 := Lib.hid hq1
    have HB1 := Lib.hid hb1
    have hx0 := HX0.out wc hb1
    have hsz1 := hb1.size
    clear hq1 hb1
    have hk1 : ((k : Int) == 1) = false := by rw [beq_eq_false_iff_ne]; omega
    have hk2 : ((k : Int) == 2) = false := by rw [beq_eq_false_iff_ne]; omega
    have hk3 : ((k : Int) == 3) = false := by rw [beq_eq_false_iff_ne]; omega
    have hk4 : ((k : Int) == 4) = false := by rw [beq_eq_false_iff_ne]; omega
    have hm1 : ¬ (k : Int) = 1 := by omega
    have hm2 : ¬ (k : Int) = 2 := by omega
    have hm3 : ¬ (k : Int) = 3 := by omega
    have hm4 : ¬ (k : Int) = 4 := by omega
    have hkw : IntKind.i64.wrap (k : Int) = (k : Int) := IntWalk.i64_in _ (by omega)
    obtain ⟨ps, hps⟩ : ∃ ps : Row, ps = [] := ⟨_, rfl⟩
    have HFIN := Lib.hid (fin_odd (nums := nums) (r := rr) (count := (c : Int)) (X := xs ps) (bad := false) hk)
    have HOK := Lib.hid (show ∀ x ∈ xs ps, OkT nums x from fun x hx => by rw [hps] at hx; simp [xs] at hx)
    have HLEN := Lib.hid (show ps.length = 0 from by rw [hps]; rfl)
    have HQT := Lib.hid HQ1.out
    have HO := Lib.hid (show Far wc.heap.size wc (.slice none 0 0) ps from by rw [hps]; exact far_nil _ _)
    clear hps hk
    have HF := Lib.hid (far_mono HO.out (show w.heap.size ≤ wc.heap.size from hsz1))
    have HBW := Lib.hid (show Below w.heap.size w wc from HB1.out)
    have HTL := Lib.hid (rtell_any nums k ps (.slice none 0 0) wc HOK.out HF.out.row.rd HF.out.els)
    obtain ⟨o, ho⟩ : ∃ o, o = gTell nums ((k : Nat) : Int) (xs ps) := ⟨_, rfl⟩
    have HTL2 : Hid (Calls Try.prog 24 #[.int .i64 k, .slice none 0 0, .bool nums] wc fun e w' => RetTell wc.heap.size o e w' ∧ Below wc.heap.size wc w') := Lib.hid (by rw [ho]; exact HTL.out)
    have HOE := Lib.hid ho.symm
    have hx0 := HX0.out wc HBW.out
    clear ho HTL
    go_wp2_with fail
    refine HTL2.out.mono ?_
    rintro e w3 ⟨hret, hb3⟩
    have HB3 := Lib.hid (show Below w.heap.size w w3 from HBW.out.trans (hb3.mono HBW.out.size))
    have HF3 := Lib.hid (HF.out.kept hb3)
    obtain ⟨vq3, hvq3, _⟩ := HQT.out.kept hb3 hrW
    obtain ⟨_, hcb3, _, _⟩ := isQ_cells hvq3
    clear hvq3 hx0 HTL2
    try clear hcb
    cases o with
    | none =>
      obtain rfl : e = _ := hret
      have HNT := Lib.hid (fin_none HFIN.out HOE.out)
      clear hb3
      go_wp2_with fail
      go_ret2
      exact ⟨.inr ⟨HNT.out, rfl⟩, HB3.out⟩
    | some bs =>
      obtain ⟨vt, rfl, hown3⟩ := hret
      by_cases hqc2 : (0 : Int) = (c : Int)
      · have hqcb : ((0 : Int) == (c : Int)) = true := beq_iff_eq.2 hqc2
        have hqcn : ((0 : Int) != (c : Int)) = false := by unfold bne; rw [hqcb]; rfl
        have h8 := gTell_lt HOE.out HOK.out
        obtain ⟨at3, ct3, rfl⟩ := hown3.shape
        have hrt := OwnB.rd hown3
        obtain ⟨m3, hm3⟩ : ∃ m3, m3 = bs.length := ⟨_, rfl⟩
        rw [← hm3] at hrt hown3 ⊢
        have hcv := run_str (P := Try.prog) w3 24 9 5 Try.underlying24 Try.underlying5 Try.underlying9 hrt (lt256 _ h8)
        have hrb := HR.out.kept HB3.out
        have hk8 : ∀ x ∈ k :: rr, x < 256 := fun x hx => by
          rcases List.mem_cons.1 hx with rfl | hx
          · first | decide | omega
          · exact H256.out x hx
        have hcw := run_str (P := Try.prog) w3 24 9 5 Try.underlying24 Try.underlying5 Try.underlying9 hrb (lt256 _ hk8)
        have HLQ := Lib.hid (show ((xs ps).length : Int) = (c : Int) from by rw [len_xs, HLEN.out]; exact hqc2)
        clear hqc2
        by_cases heq : bs = k :: rr
        · have hcm : ((strOf bs).toList == (strOf (k :: rr)).toList) = true := by rw [heq]; exact beq_self_eq_true _
          have hcm2 : ((strOf bs).toList != (strOf (k :: rr)).toList) = false := by unfold bne; rw [hcm]; rfl
          have HT := Lib.hid (fin_yes HOE.out HLQ.out HOK.out heq)
          have HSH := Lib.hid (refshort_any ps (.slice none 0 0) w3 (by rw [HLEN.out]; omega) HF3.out.row.rd HF3.out.els)
          have hall : ((xs ps).all fun x => decide (x.length ≤ 64)) = true := by
            rw [List.all_eq_true]
            intro x hx
            rw [decide_eq_true_iff]
            exact (HOK.out x hx).2.1
          rw [hall] at HSH
          clear hb3 hown3 hrt hrb hk8 h8 heq hm3 hall
          cases nums with
          | true =>
            go_wp2_with fail
            go_ret2
            exact ⟨.inl ⟨_, HT.out, _, ps, rfl, HF3.out, rfl⟩, HB3.out⟩
          | false =>
            go_wp2_with fail
            refine HSH.out.mono ?_
            rintro e w4 ⟨rfl, rfl⟩
            go_wp2_with fail
            go_ret2
            exact ⟨.inl ⟨_, HT.out, _, ps, rfl, HF3.out, rfl⟩, HB3.out⟩
        · have hcm := strOf_inj h8 hk8 heq
          have hcm2 : (!((strOf bs).toList == (strOf (k :: rr)).toList)) = true := by rw [hcm]; rfl
          have hcm3 : ((strOf bs).toList != (strOf (k :: rr)).toList) = true := hcm2
          have HNT := Lib.hid (fin_un HFIN.out HOE.out heq)
          clear hb3 hown3 hrt hrb hk8 h8 heq hm3
          go_wp2_with fail
          go_ret2
          exact ⟨.inr ⟨HNT.out, rfl⟩, HB3.out⟩
      · have hqcb : ((0 : Int) == (c : Int)) = false := beq_eq_false_iff_ne.2 hqc2
        have hqcn : ((0 : Int) != (c : Int)) = true := by unfold bne; rw [hqcb]; rfl
        have HNT := Lib.hid (fin_len HFIN.out (by rw [len_xs, HLEN.out]; exact hqc2))
        clear hb3 hown3 hqc2
        go_wp2_with fail
        go_ret2
        exact ⟨.inr ⟨HNT.out, rfl⟩, HB3.out⟩


end Go.Proofs.Ytjcmekhamohbnaa.Bc

namespace Go.Proofs.Ytjcmekhamohbnaa.Bc
set_option linter.unusedVariables false
set_option linter.unusedSimpArgs false
open Go.RowKit

def RetGetB (base : Nat) (nums : Bool) (bs : List Nat) (count : Int) (e : Ending) (w' : World) : Prop := match bs with
  | [] => e = .returned (.tuple #[.slice none 0 0, .bool false])
  | k :: r => RetGet base nums k r count e w'

set_option maxRecDepth 100000 in
set_option maxHeartbeats 8000000 in
theorem get_nil (nums : Bool) (count : Int) (bv : Value) (w : World) (hr : Rd w bv (([] : List Nat).map u8v)) :
    Calls Try.prog 29 #[bv, .int .i64 count, .bool nums] w fun e w' => RetGetB w.heap.size nums [] count e w' ∧ Below w.heap.size w w' := by
  obtain ⟨ao, cap, rfl⟩ := rd_shape1 hr
  have e0 : (([] : List Nat).map u8v).length = 0 := rfl
  rw [e0]
  clear hr e0
  go_enter Try.func29, Try.ntmps29
  go_wp2_with fail
  go_ret2
  exact ⟨rfl, Below.refl _ _⟩

set_option maxRecDepth 100000 in
set_option maxHeartbeats 8000000 in
theorem get_far (nums : Bool) (k : Nat) (rr : List Nat) (count : Int) (bv : Value) (w : World) (hr : Rd w bv ((k :: rr).map u8v)) (hbig : rr.length ≤ 900000) (hc : count < 0 ∨ 65535 < count) :
    Calls Try.prog 29 #[bv, .int .i64 count, .bool nums] w fun e w' => RetGet w.heap.size nums k rr count e w' ∧ Below w.heap.size w w' := by
  have HNT := Lib.hid (not_count (nums := nums) (k := k) (r := rr) hc)
  obtain ⟨ao, cap, rfl⟩ := rd_shape1 hr
  rw [List.length_map] at hr ⊢
  obtain ⟨m, hm⟩ : ∃ m, m = List.length (k :: rr) := ⟨_, rfl⟩
  have hm1 : 1 ≤ m := by rw [hm, List.length_cons]; omega
  have hm2 : m ≤ 900001 := by rw [hm, List.length_cons]; omega
  rw [← hm] at hr ⊢
  have hnb : ((m : Int) == 0) = false := by rw [beq_eq_false_iff_ne]; omega
  have hnb2 : ¬ ((m : Int) = 0) := by omega
  clear hr hm hbig
  by_cases hneg : count < 0
  · have h1 : decide (count < 0) = true := decide_eq_true hneg
    clear hc
    go_enter Try.func29, Try.ntmps29
    go_wp2_with fail
    go_ret2
    exact ⟨.inr ⟨HNT.out, rfl⟩, Below.refl _ _⟩
  · have h1 : decide (count < 0) = false := decide_eq_false hneg
    have hb : 65535 < count := by omega
    have h2 : decide (count > 65535) = true := decide_eq_true hb
    clear hc
    go_enter Try.func29, Try.ntmps29
    go_wp2_with fail
    go_ret2
    exact ⟨.inr ⟨HNT.out, rfl⟩, Below.refl _ _⟩

theorem get_any (nums : Bool) (bs : List Nat) (count : Int) (bv : Value) (w : World) (hr : Rd w bv (bs.map u8v)) (h256 : ∀ x ∈ bs, x < 256) (hbig : bs.length ≤ 900000) :
    Calls Try.prog 29 #[bv, .int .i64 count, .bool nums] w fun e w' => RetGetB w.heap.size nums bs count e w' ∧ Below w.heap.size w w' := by
  cases bs with
  | nil => exact get_nil nums count bv w hr
  | cons k rr =>
    have h256r : ∀ x ∈ rr, x < 256 := fun x hx => h256 x (List.mem_cons_of_mem _ hx)
    have hk256 : k < 256 := h256 k List.mem_cons_self
    rw [List.length_cons] at hbig
    by_cases hc : count < 0 ∨ 65535 < count
    · exact get_far nums k rr count bv w hr (by omega) hc
    · obtain ⟨c, rfl⟩ : ∃ c : Nat, count = (c : Int) := ⟨count.toNat, by omega⟩
      rcases (by omega : k = 1 ∨ k = 2 ∨ k = 3 ∨ k = 4 ∨ (k < 1 ∨ 4 < k)) with rfl | rfl | rfl | rfl | hk
      · exact get_1 nums rr c bv w hr h256r (by omega) (by omega)
      · exact get_2 nums rr c bv w hr h256r (by omega) (by omega)
      · exact get_3 nums rr c bv w hr h256r (by omega) (by omega)
      · exact get_4 nums rr c bv w hr h256r (by omega) (by omega)
      · exact get_odd k nums rr c bv w hr h256r (by omega) (by omega) hk hk256

end Go.Proofs.Ytjcmekhamohbnaa.Bc
