/-
  Layer 5: the reference's SameRows; At, of a place that there is.
-/
import Derived.Test.YteloepccjoikdaaBcolp
namespace Go.Proofs.Yteloepccjoikdaa.Bc
set_option linter.unusedVariables false
set_option linter.unusedSimpArgs false
open Go.RowKit

theorem lt256 (bs : List Nat) (h : ∀ x ∈ bs, x < 256) : ∀ i, bs.getD i 0 < 256 := getD_256 h
theorem strOf_inj {a b : List Nat} (ha : ∀ x ∈ a, x < 256) (hb : ∀ x ∈ b, x < 256) (h : a ≠ b) : ((strOf a).toList == (strOf b).toList) = false := by
  rw [beq_eq_false_iff_ne, strOf_toList, strOf_toList]
  intro e
  apply h
  have key : ∀ (c d : List Nat), (∀ x ∈ c, x < 256) → (∀ x ∈ d, x < 256) → c.map UInt8.ofNat = d.map UInt8.ofNat → c = d := by
    intro c
    induction c with
    | nil => intro d _ _ hm; cases d with
      | nil => rfl
      | cons y t => simp at hm
    | cons x r ih =>
      intro d hc hd hm
      cases d with
      | nil => simp at hm
      | cons y t =>
        rw [List.map_cons, List.map_cons, List.cons.injEq] at hm
        have h1 : x % 256 = y % 256 := by
          have := congrArg UInt8.toNat hm.1
          rwa [UInt8.toNat_ofNat', UInt8.toNat_ofNat'] at this
        have h2 := hc x List.mem_cons_self
        have h3 := hd y List.mem_cons_self
        rw [show x = y by omega, ih t (fun z hz => hc z (List.mem_cons_of_mem _ hz)) (fun z hz => hd z (List.mem_cons_of_mem _ hz)) hm.2]
  exact key a b ha hb e

set_option maxRecDepth 100000 in
set_option maxHeartbeats 8000000 in
theorem samerows_any (pa pb : Row) (av bv : Value) (w : World) (hl : pa.length ≤ 1000000) (hl2 : pb.length ≤ 1000000) (ha : Rd w av (vs pa)) (hea : Els w pa) (h8a : ∀ y ∈ xs pa, ∀ a ∈ y, a < 256) (hb : Rd w bv (vs pb)) (heb : Els w pb) (h8b : ∀ y ∈ xs pb, ∀ a ∈ y, a < 256) :
    Calls Try.prog 42 #[av, bv] w fun e w' => e = .returned (.bool (xs pa == xs pb)) ∧ Below w.heap.size w w' := by
  obtain ⟨ao, ac, rfl⟩ := rd_shape1 ha
  obtain ⟨bo, bc, rfl⟩ := rd_shape1 hb
  obtain ⟨n, hn⟩ : ∃ n, n = pa.length := ⟨_, rfl⟩
  obtain ⟨m, hm⟩ : ∃ m, m = pb.length := ⟨_, rfl⟩
  rw [len_vs, ← hn] at ha
  rw [len_vs, ← hm] at hb
  rw [len_vs, len_vs, ← hn, ← hm]
  rw [← hn] at hl
  rw [← hm] at hl2
  have HA := Lib.hid ha
  have HB := Lib.hid hb
  have HEA := Lib.hid hea
  have HEB := Lib.hid heb
  have H8A := Lib.hid h8a
  have H8B := Lib.hid h8b
  have HN := Lib.hid hn
  have HM := Lib.hid hm
  clear ha hb hn hm hea heb h8a h8b
  by_cases hnm : n = m
  · obtain rfl := hnm
    go_enter Try.func42, Try.ntmps42
    go_wp2_with fail
    go_loopw [5] (fun i wr => ∃ q : Nat, q ≤ n ∧ i = .int .i64 (q : Int) ∧ (xs pa).take q = (xs pb).take q ∧ Below w.heap.size w wr) (fun i _ => n - (intOf i).toNat)
    case atStart => exact ⟨0, Nat.zero_le _, rfl, rfl, Below.refl _ _⟩
    case round =>
      obtain ⟨q, hq, rfl, heq, hbel⟩ := hrel
      have HBL := Lib.hid hbel
      have HEQ := Lib.hid heq
      clear heq
      by_cases hlt : q < n
      · have hlti : (q : Int) < (n : Int) := by omega
        have hq0 : (0 : Int) ≤ (q : Int) := by omega
        obtain ⟨b1, o1, rfl, hc1⟩ := (rdv_cells (HA.out.kept hbel)).2 (by omega)
        obtain ⟨b2, o2, rfl, hc2⟩ := (rdv_cells (HB.out.kept hbel)).2 (by omega)
        obtain ⟨ya, yc, y, hy, hye⟩ := row_at HEA.out (q := q) (by rw [← HN.out]; exact hlt)
        obtain ⟨za, zc, z, hz, hze⟩ := row_at HEB.out (q := q) (by rw [← HM.out]; exact hlt)
        have hx1 : wr.cell? ⟨b1, o1 + q, none⟩ = some (.slice ya (List.length y) yc) := hc1 q _ hy
        have hx2 : wr.cell? ⟨b2, o2 + q, none⟩ = some (.slice za (List.length z) zc) := hc2 q _ hz
        have h8y := H8A.out y (List.mem_of_getElem? (xs_at hy))
        have h8z := H8B.out z (List.mem_of_getElem? (xs_at hz))
        have hyw := hye.kept hbel
        have hzw := hze.kept hbel
        have hcv := fun nq : Nat => run_str (P := Try.prog) (wr.drewN nq) 38 9 5 Try.underlying38 Try.underlying5 Try.underlying9 (hyw.kept (below_draws (Below.refl _ _) nq)) (lt256 _ h8y)
        have hcw := fun nq : Nat => run_str (P := Try.prog) (wr.drewN nq) 38 9 5 Try.underlying38 Try.underlying5 Try.underlying9 (hzw.kept (below_draws (Below.refl _ _) nq)) (lt256 _ h8z)
        have HTY := Lib.hid (take_xs hy)
        have HTZ := Lib.hid (take_xs hz)
        have HYA := Lib.hid (xs_at hy)
        have HZA := Lib.hid (xs_at hz)
        by_cases hyz : y = z
        · have HYZ := Lib.hid hyz
          have hcm : ((strOf y).toList == (strOf z).toList) = true := by rw [hyz]; exact beq_self_eq_true _
          have hcm1 : ((strOf y).toList != (strOf z).toList) = false := by unfold bne; rw [hcm]; rfl
          clear hbel hc1 hc2 hy hz hye hze h8y h8z hyw hzw hyz
          go_wp2_with fail
          go_quiet (fail)
          go_wp2_with fail
          go_roundw
          case rel => exact ⟨q + 1, by omega, by go_num, by rw [HTY.out, HTZ.out, HEQ.out, HYZ.out], below_draws2 HBL.out _⟩
          case measure => simp [intOf]; omega
        · have HYZ := Lib.hid hyz
          have hcm := strOf_inj h8y h8z hyz
          have hcm2 : (!((strOf y).toList == (strOf z).toList)) = true := by rw [hcm]; rfl
          have hcm3 : ((strOf y).toList != (strOf z).toList) = true := hcm2
          have HNE := Lib.hid (show (xs pa == xs pb) = false from by
            rw [beq_eq_false_iff_ne]
            intro e
            have h := HYA.out
            rw [e, HZA.out] at h
            exact HYZ.out (Option.some.inj h).symm)
          clear hbel hc1 hc2 hy hz hye hze h8y h8z hyw hzw hyz
          go_wp2_with fail
          go_quiet (fail)
          go_wp2_with fail
          go_ret
          exact ⟨by rw [HNE.out]; rfl, below_draws2 HBL.out _⟩
      · have hqn : q = n := by omega
        subst hqn
        have hlti : ¬ (q : Int) < (q : Int) := by omega
        have HYES := Lib.hid (show (xs pa == xs pb) = true from by
          have h := HEQ.out
          rw [List.take_of_length_le (by rw [len_xs, ← HN.out]; exact Nat.le_refl _), List.take_of_length_le (by rw [len_xs, ← HM.out]; exact Nat.le_refl _)] at h
          rw [h]; exact beq_self_eq_true _)
        clear hbel
        go_wp2_with fail
        go_ret
        exact ⟨by rw [HYES.out]; rfl, HBL.out⟩
  · have hne : ¬ ((n : Int) = (m : Int)) := by omega
    have hneb : ((n : Int) == (m : Int)) = false := beq_eq_false_iff_ne.2 hne
    have hnec : ((n : Int) != (m : Int)) = true := by unfold bne; rw [hneb]; rfl
    have HNE := Lib.hid (show (xs pa == xs pb) = false from by
      rw [beq_eq_false_iff_ne]
      intro e
      have h := congrArg List.length e
      rw [len_xs, len_xs, ← HN.out, ← HM.out] at h
      exact hnm h)
    clear hnm
    go_enter Try.func42, Try.ntmps42
    go_wp2_with fail
    go_ret
    exact ⟨by rw [HNE.out]; rfl, Below.refl _ _⟩

set_option maxRecDepth 100000 in
set_option maxHeartbeats 8000000 in
theorem at_any (l : List By) (bs : List Nat) (bv : Value) (i : Nat) (x : By) (w : World) (hd : decT bs (l.length : Int) = some l) (hx : l[i]? = some x) (hr : Rd w bv (bs.map u8v)) (h256 : ∀ x ∈ bs, x < 256) (hbig : bs.length ≤ 1000000) :
    Calls Try.prog 41 #[bv, .int .i64 (l.length : Int), .int .i64 (i : Int)] w fun e w' => ∃ v, e = .returned (.tuple #[v, .bool true]) ∧ OwnB w.heap.size w' v x ∧ Below w.heap.size w w' := by
  obtain ⟨ao, cap, rfl⟩ := rd_shape1 hr
  rw [List.length_map] at hr ⊢
  have hD := decode_b bs (.slice ao bs.length cap) (l.length : Int) w hr h256 hbig
  rw [hd] at hD
  have hil := (List.getElem?_eq_some_iff.1 hx).1
  obtain ⟨n, hn⟩ : ∃ n, n = l.length := ⟨_, rfl⟩
  rw [← hn] at hD hil ⊢
  obtain ⟨m, hm⟩ : ∃ m, m = bs.length := ⟨_, rfl⟩
  rw [← hm] at hD ⊢
  have HD := Lib.hid hD
  have HN := Lib.hid hn
  have HX := Lib.hid hx
  have hi0 : (0 : Int) ≤ (i : Int) := by omega
  have hin : (i : Int) < (n : Int) := by omega
  have hi1 : ¬ (i : Int) < 0 := by omega
  have hi2 : ¬ (n : Int) ≤ (i : Int) := by omega
  clear hd hr h256 hbig hD hx hm hn
  go_enter Try.func41, Try.ntmps41
  go_wp2_with fail
  refine HD.out.mono ?_
  rintro e w2 ⟨⟨v, ps, rfl, hown, hxs⟩, hb⟩
  have HB := Lib.hid hb
  have hpl : ps.length = n := by rw [← len_xs, hxs, HN.out]
  obtain ⟨ao2, k2, rfl⟩ := hown.row.shape
  rw [hpl] at hown ⊢
  obtain ⟨b4, o4, rfl, hc4⟩ := (rdv_cells hown.row.rd).2 (by omega)
  obtain ⟨p, hp⟩ : ∃ p, ps[i]? = some p := ⟨_, List.getElem?_eq_getElem (by rw [hpl]; exact hil)⟩
  have hpx := xs_at hp
  rw [hxs, HX.out] at hpx
  obtain ⟨v, y⟩ := p
  obtain rfl : x = y := Option.some.inj hpx
  have hO := hown.els _ (List.mem_of_getElem? hp)
  obtain ⟨va, vc, hv⟩ := OwnB.shape hO
  have hv2 : v = .slice va (List.length x) vc := hv
  clear hv
  subst hv2
  have hy : w2.cell? ⟨b4, o4 + i, none⟩ = some (.slice va (List.length x) vc) := hc4 i _ hp
  have HO := Lib.hid hO
  clear hb hown hc4 HD hp hpx hO hxs hpl
  go_wp2_with fail
  go_ret2
  exact ⟨_, rfl, HO.out, HB.out⟩


end Go.Proofs.Yteloepccjoikdaa.Bc
