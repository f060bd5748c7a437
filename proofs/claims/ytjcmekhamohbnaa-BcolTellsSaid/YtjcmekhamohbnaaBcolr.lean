/-
  Layer 5: the reference's SameRows; At, of a place that there is.
  Layer 5: the law's Column.
  Layer 5: of a row of one's own, one of its things turned, or laid anew.
-/
import Derived.Test.YtjcmekhamohbnaaBcolp
import Derived.BigRegion
namespace Go.Proofs.Ytjcmekhamohbnaa.Bc
set_option linter.unusedVariables false
set_option linter.unusedSimpArgs false
open Go.RowKit

theorem lt256 (bs : List Nat) (h : ∀ x ∈ bs, x < 256) : ∀ i, bs.getD i 0 < 256 := getD_256 h
theorem strOf_inj {a b : List Nat} (ha : ∀ x ∈ a, x < 256) (hb : ∀ x ∈ b, x < 256) (h : a ≠ b) : ((strOf a).toList == (strOf b).toList) = false := by
  rw [beq_eq_false_iff_ne, strOf_toList, strOf_toList]
  intro e
  apply h
  have key : ∀ (c d : List Nat), (∀ x ∈ c, x < 256) → (∀ x ∈ d, x < 256) → c.map UInt8.ofNat = d.map UInt8.ofNat → c = d := by
    intro c
    induction c with
    | nil => intro d _ _ hm; cases d with
      | nil => rfl
      | cons y t => simp at hm
    | cons x r ih =>
      intro d hc hd hm
      cases d with
      | nil => simp at hm
      | cons y t =>
        rw [List.map_cons, List.map_cons, List.cons.injEq] at hm
        have h1 : x % 256 = y % 256 := by
          have := congrArg UInt8.toNat hm.1
          rwa [UInt8.toNat_ofNat', UInt8.toNat_ofNat'] at this
        have h2 := hc x List.mem_cons_self
        have h3 := hd y List.mem_cons_self
        rw [show x = y by omega, ih t (fun z hz => hc z (List.mem_cons_of_mem _ hz)) (fun z hz => hd z (List.mem_cons_of_mem _ hz)) hm.2]
  exact key a b ha hb e

set_option maxRecDepth 100000 in
set_option maxHeartbeats 8000000 in
theorem samerows_any (pa pb : Row) (av bv : Value) (w : World) (hl : pa.length ≤ 1000000) (hl2 : pb.length ≤ 1000000) (ha : Rd w av (vs pa)) (hea : Els w pa) (h8a : ∀ y ∈ xs pa, ∀ a ∈ y, a < 256) (hb : Rd w bv (vs pb)) (heb : Els w pb) (h8b : ∀ y ∈ xs pb, ∀ a ∈ y, a < 256) :
    Calls Try.prog 12 #[av, bv] w fun e w' => e = .returned (.bool (xs pa == xs pb)) ∧ Below w.heap.size w w' := by
  obtain ⟨ao, ac, rfl⟩ := rd_shape1 ha
  obtain ⟨bo, bc, rfl⟩ := rd_shape1 hb
  obtain ⟨n, hn⟩ : ∃ n, n = pa.length := ⟨_, rfl⟩
  obtain ⟨m, hm⟩ : ∃ m, m = pb.length := ⟨_, rfl⟩
  rw [len_vs, ← hn] at ha
  rw [len_vs, ← hm] at hb
  rw [len_vs, len_vs, ← hn, ← hm]
  rw [← hn] at hl
  rw [← hm] at hl2
  have HA := Lib.hid ha
  have HB := Lib.hid hb
  have HEA := Lib.hid hea
  have HEB := Lib.hid heb
  have H8A := Lib.hid h8a
  have H8B := Lib.hid h8b
  have HN := Lib.hid hn
  have HM := Lib.hid hm
  clear ha hb hn hm hea heb h8a h8b
  by_cases hnm : n = m
  · obtain rfl := hnm
    go_enter Try.func12, Try.ntmps12
    go_wp2_with fail
    go_loopw [5] (fun i wr => ∃ q : Nat, q ≤ n ∧ i = .int .i64 (q : Int) ∧ (xs pa).take q = (xs pb).take q ∧ Below w.heap.size w wr) (fun i _ => n - (intOf i).toNat)
    case atStart => exact ⟨0, Nat.zero_le _, rfl, rfl, Below.refl _ _⟩
    case round =>
      obtain ⟨q, hq, rfl, heq, hbel⟩ := hrel
      have HBL := Lib.hid hbel
      have HEQ := Lib.hid heq
      clear heq
      by_cases hlt : q < n
      · have hlti : (q : Int) < (n : Int) := by omega
        have hq0 : (0 : Int) ≤ (q : Int) := by omega
        obtain ⟨b1, o1, rfl, hc1⟩ := (rdv_cells (HA.out.kept hbel)).2 (by omega)
        obtain ⟨b2, o2, rfl, hc2⟩ := (rdv_cells (HB.out.kept hbel)).2 (by omega)
        obtain ⟨ya, yc, y, hy, hye⟩ := row_at HEA.out (q := q) (by rw [← HN.out]; exact hlt)
        obtain ⟨za, zc, z, hz, hze⟩ := row_at HEB.out (q := q) (by rw [← HM.out]; exact hlt)
        have hx1 : wr.cell? ⟨b1, o1 + q, none⟩ = some (.slice ya (List.length y) yc) := hc1 q _ hy
        have hx2 : wr.cell? ⟨b2, o2 + q, none⟩ = some (.slice za (List.length z) zc) := hc2 q _ hz
        have h8y := H8A.out y (List.mem_of_getElem? (xs_at hy))
        have h8z := H8B.out z (List.mem_of_getElem? (xs_at hz))
        have hyw := hye.kept hbel
        have hzw := hze.kept hbel
        have hcv := fun nq : Nat => run_str (P := Try.prog) (wr.drewN nq) 24 9 5 Try.underlying24 Try.underlying5 Try.underlying9 (hyw.kept (below_draws (Below.refl _ _) nq)) (lt256 _ h8y)
        have hcw := fun nq : Nat => run_str (P := Try.prog) (wr.drewN nq) 24 9 5 Try.underlying24 Try.underlying5 Try.underlying9 (hzw.kept (below_draws (Below.refl _ _) nq)) (lt256 _ h8z)
        have HTY := Lib.hid (take_xs hy)
        have HTZ := Lib.hid (take_xs hz)
        have HYA := Lib.hid (xs_at hy)
        have HZA := Lib.hid (xs_at hz)
        by_cases hyz : y = z
        · have HYZ := Lib.hid hyz
          have hcm : ((strOf y).toList == (strOf z).toList) = true := by rw [hyz]; exact beq_self_eq_true _
          have hcm1 : ((strOf y).toList != (strOf z).toList) = false := by unfold bne; rw [hcm]; rfl
          clear hbel hc1 hc2 hy hz hye hze h8y h8z hyw hzw hyz
          go_wp2_with fail
          go_quiet (fail)
          go_wp2_with fail
          go_roundw
          case rel => exact ⟨q + 1, by omega, by go_num, by rw [HTY.out, HTZ.out, HEQ.out, HYZ.out], below_draws2 HBL.out _⟩
          case measure => simp [intOf]; omega
        · have HYZ := Lib.hid hyz
          have hcm := strOf_inj h8y h8z hyz
          have hcm2 : (!((strOf y).toList == (strOf z).toList)) = true := by rw [hcm]; rfl
          have hcm3 : ((strOf y).toList != (strOf z).toList) = true := hcm2
          have HNE := Lib.hid (show (xs pa == xs pb) = false from by
            rw [beq_eq_false_iff_ne]
            intro e
            have h := HYA.out
            rw [e, HZA.out] at h
            exact HYZ.out (Option.some.inj h).symm)
          clear hbel hc1 hc2 hy hz hye hze h8y h8z hyw hzw hyz
          go_wp2_with fail
          go_quiet (fail)
          go_wp2_with fail
          go_ret
          exact ⟨by rw [HNE.out]; rfl, below_draws2 HBL.out _⟩
      · have hqn : q = n := by omega
        subst hqn
        have hlti : ¬ (q : Int) < (q : Int) := by omega
        have HYES := Lib.hid (show (xs pa == xs pb) = true from by
          have h := HEQ.out
          rw [List.take_of_length_le (by rw [len_xs, ← HN.out]; exact Nat.le_refl _), List.take_of_length_le (by rw [len_xs, ← HM.out]; exact Nat.le_refl _)] at h
          rw [h]; exact beq_self_eq_true _)
        clear hbel
        go_wp2_with fail
        go_ret
        exact ⟨by rw [HYES.out]; rfl, HBL.out⟩
  · have hne : ¬ ((n : Int) = (m : Int)) := by omega
    have hneb : ((n : Int) == (m : Int)) = false := beq_eq_false_iff_ne.2 hne
    have hnec : ((n : Int) != (m : Int)) = true := by unfold bne; rw [hneb]; rfl
    have HNE := Lib.hid (show (xs pa == xs pb) = false from by
      rw [beq_eq_false_iff_ne]
      intro e
      have h := congrArg List.length e
      rw [len_xs, len_xs, ← HN.out, ← HM.out] at h
      exact hnm h)
    clear hnm
    go_enter Try.func12, Try.ntmps12
    go_wp2_with fail
    go_ret
    exact ⟨by rw [HNE.out]; rfl, Below.refl _ _⟩

end Go.Proofs.Ytjcmekhamohbnaa.Bc

namespace Go.Proofs.Ytjcmekhamohbnaa.Bc
set_option linter.unusedVariables false
set_option linter.unusedSimpArgs false
open Go.RowKit

theorem lit_rd (w : World) (bs : By) (cs : Array Value) (n : Nat) (hc : cs.toList = bs.map u8v) (hn : n = bs.length) (hm : n ≤ 100) : Rd (w.alloc (.cells cs 5)) (.slice (some ⟨w.heap.size, 0, none⟩) n n) (bs.map u8v) := rd_lit w cs 5 n (bs.map u8v) hc (by rw [List.length_map]; exact hn) (by unfold maxLen; omega)
theorem new_far {base n c g m : Nat} {w w2 : World} {v : Value} {ps : Row} {ys : List Value} (hrow : w.ownsRow base 24 1 v m (vs ps)) (hg : g = w.heap.size) (hr : Rd w2 (.slice (some ⟨g, 0, none⟩) n c) ys) : ∀ w'', w2.grownBy w'' v.ownBlock → Rd w'' (.slice (some ⟨g, 0, none⟩) n c) ys := fun w'' hgw => by
  refine rd_row (B := 0) hr (fun b off n c he _ e => ?_) hgw
  simp only [Value.slice.injEq, Option.some.injEq, Addr.mk.injEq] at he
  obtain ⟨⟨rfl, _⟩, _⟩ := he
  have := own_lt hrow e.symm
  omega

set_option maxRecDepth 100000 in
set_option maxHeartbeats 8000000 in
theorem column_any (pr : Row) (a0 : Option Addr) (len0 cap0 : Nat) (la : List Int) (a1 : Option Addr) (len1 cap1 : Nat) (how : Int) (w : World) (hpl : pr.length = len0) (hpr : Rd w (.slice a0 len0 cap0) (vs pr)) (hpe : Els w pr) (hp8 : ∀ y ∈ xs pr, ∀ a ∈ y, a < 256) (hla : la.length = len1) (hr : Rd w (.slice a1 len1 cap1) (la.map (.int .i64))) :
    Calls Try.prog 5 #[.slice a0 len0 cap0, .slice a1 len1 cap1, .int .i64 how] w fun e w' => ∃ v, e = .returned v ∧ ∃ ps, Far w.heap.size w' v ps ∧ ps.length ≤ 60 ∧ (∀ y ∈ xs ps, ∀ a ∈ y, a < 256) ∧ Below w.heap.size w w' := by
  have HLA := Lib.hid hla
  have HR := Lib.hid hr
  have HPL := Lib.hid hpl
  have HPR := Lib.hid hpr
  have HPE := Lib.hid hpe
  have HP8 := Lib.hid hp8
  have b255 : ∀ x, bits .and .i64 x 255 = x % 256 := fun x => and_lowI x 8 (by decide) 255 rfl
  have b3 : ∀ x, bits .and .i64 x 3 = x % 4 := fun x => and_lowI x 2 (by decide) 3 rfl
  have b1 : ∀ x, bits .and .i64 x 1 = x % 2 := fun x => and_lowI x 1 (by decide) 1 rfl
  clear hla hr hpl hpr hpe hp8
  go_enter Try.func5, Try.ntmps5
  go_wp2_with fail
  go_loopw [7, 8] (fun v k wr => ∃ (q : Nat) (ps : Row), q ≤ len1 ∧ q ≤ 60 ∧ k = .int .i64 (q : Int) ∧ ps.length = q ∧ (∀ y ∈ xs ps, ∀ a ∈ y, a < 256) ∧ Far w.heap.size wr v ps ∧ Below w.heap.size w wr) (fun _ k _ => 60 - (intOf k).toNat)
  case atStart => exact ⟨0, [], Nat.zero_le _, Nat.zero_le _, rfl, rfl, (fun y hy => by simp [xs] at hy), far_nil _ _, Below.refl _ _⟩
  case round =>
    obtain ⟨q, ps, hq, hq4, rfl, hpl, hin, hfar, hbel⟩ := hrel
    obtain ⟨ao, cap, rfl⟩ := hfar.row.shape
    rw [hpl] at hfar ⊢
    have HLEN := Lib.hid hpl
    have HIN := Lib.hid hin
    have HO := Lib.hid hfar
    have HBL := Lib.hid hbel
    clear hpl hin hfar hbel
    by_cases hlt : q < len1 ∧ q < 60
    · obtain ⟨hl1, hl2⟩ := hlt
      have hl1i : (q : Int) < (len1 : Int) := by omega
      have hl2i : (q : Int) < 60 := by omega
      have hq0 : (0 : Int) ≤ (q : Int) := by omega
      obtain ⟨b, off, rfl, hcell⟩ := (rd_i64_cells (HR.out.kept HBL.out)).2 (by omega)
      have hx := hcell q (by omega)
      obtain ⟨z, hz⟩ : ∃ z, z = la.getD q 0 := ⟨_, rfl⟩
      rw [← hz] at hx
      obtain ⟨A, hA⟩ : ∃ A : Nat, 97 + z % 4 = (A : Int) := ⟨(97 + z % 4).toNat, by omega⟩
      have hA2 : A < 256 := by omega
      have hA3 : IntKind.i64.wrap (A : Int) = (A : Int) := IntWalk.i64_in _ (by omega)
      have hA4 : IntKind.u8.wrap (A : Int) = (A : Int) := by rw [IntKind.wrap_u8]; omega
      obtain ⟨B, hB⟩ : ∃ B : Nat, 97 + z / 4 % 2 = (B : Int) := ⟨(97 + z / 4 % 2).toNat, by omega⟩
      have hB2 : B < 256 := by omega
      have hB3 : IntKind.i64.wrap (B : Int) = (B : Int) := IntWalk.i64_in _ (by omega)
      have hB4 : IntKind.u8.wrap (B : Int) = (B : Int) := by rw [IntKind.wrap_u8]; omega
      clear hcell hz
      go_wp2_with fail
      go_region
      obtain ⟨W2, hW2⟩ : ∃ W2 : World, W2 = (wr.alloc (.cells #[.int .u8 (A : Int), .int .u8 (B : Int)] 5)).drew := ⟨_, rfl⟩
      obtain ⟨g, hg⟩ : ∃ g, g = wr.heap.size := ⟨_, rfl⟩
      rw [← hW2, ← hg]
      have HBW := Lib.hid (show Below wr.heap.size wr W2 from by rw [hW2]; exact below_drw2 (below_alloc wr _))
      have hr2 : Rd W2 (.slice (some ⟨g, 0, none⟩) 2 2) (([A, B] : By).map u8v) := by
        rw [hW2, hg]
        exact (lit_rd wr [A, B] _ 2 rfl rfl (by decide)).kept (below_drw _ _)
      have HU2 := Lib.hid (new_far (w2 := W2) HO.out.row hg hr2)
      have H82 := Lib.hid (show ∀ a ∈ ([A, B] : By), a < 256 from fun a ha => by
        rcases List.mem_cons.1 ha with rfl | ha
        · exact hA2
        · rcases List.mem_cons.1 ha with rfl | ha
          · exact hB2
          · simp at ha)
      have HO2 := Lib.hid (HO.out.kept HBW.out)
      have hsz2 : w.heap.size ≤ W2.heap.size := Nat.le_trans HBL.out.size HBW.out.size
      have HX2 := Lib.hid (show W2.cell? ⟨b, off + q, none⟩ = some (.int .i64 z) from (HBW.out.cell (World.block_lt_of_cell? _ _ hx)).trans hx)
      clear hW2 hg hr2 hx hA hB
      rcases (by omega : how % 4 = 0 ∨ how % 4 = 1 ∨ how % 4 = 2 ∨ how % 4 = 3) with hm | hm | hm | hm
      · obtain ⟨D, hD⟩ : ∃ D : Nat, (q : Int) / 7 = (D : Int) := ⟨((q : Int) / 7).toNat, by omega⟩
        have hd1 : Int.tdiv (q : Int) 7 = (D : Int) := by rw [Int.tdiv_eq_ediv_of_nonneg (by omega), hD]
        have hd2 : IntKind.i64.wrap (D : Int) = (D : Int) := IntWalk.i64_in _ (by omega)
        obtain ⟨C, hC⟩ : ∃ C : Nat, 97 + (D : Int) = (C : Int) := ⟨97 + D, by omega⟩
        have hC2 : C < 256 := by omega
        have hC3 : IntKind.i64.wrap (C : Int) = (C : Int) := IntWalk.i64_in _ (by omega)
        have hC4 : IntKind.u8.wrap (C : Int) = (C : Int) := by rw [IntKind.wrap_u8]; omega
        go_upto_region 12 with (fail)
        obtain ⟨W3, hW3⟩ : ∃ W3 : World, W3 = W2.alloc (.cells #[.int .u8 (C : Int)] 5) := ⟨_, rfl⟩
        obtain ⟨g3, hg3⟩ : ∃ g3, g3 = W2.heap.size := ⟨_, rfl⟩
        rw [← hW3, ← hg3]
        have HB3 := Lib.hid (show Below wr.heap.size wr W3 from by rw [hW3]; exact below_then HBW.out (below_alloc W2 _))
        have HU3 := Lib.hid (new_far (w2 := W3) HO2.out.row hg3 (show Rd W3 (.slice (some ⟨g3, 0, none⟩) 1 1) (([C] : By).map u8v) from by rw [hW3, hg3]; exact lit_rd W2 [C] #[.int .u8 (C : Int)] 1 rfl rfl (by decide)))
        have H83 := Lib.hid (show ∀ a ∈ ([C] : By), a < 256 from fun a ha => by rw [List.mem_singleton.1 ha]; exact hC2)
        have HO3 := Lib.hid (HO.out.kept HB3.out)
        have hsz3 : w.heap.size ≤ W3.heap.size := Nat.le_trans HBL.out.size HB3.out.size
        clear hW3 hg3 hC
        have HOA := Lib.hid (show (W3.alloc (.cells #[.slice (some ⟨g3, 0, none⟩) 1 1] 24)).ownsRow w.heap.size 24 1 (.slice ao q cap) q (vs ps) from by have h := World.ownsRow.alloc HO3.out.row (.cells #[.slice (some ⟨g3, 0, none⟩) 1 1] 24); rw [HLEN.out] at h; exact h)
        have HLT := Lib.hid (rdS_lit W3 #[.slice (some ⟨g3, 0, none⟩) 1 1] 24 1 rfl)
        have hszB : w.heap.size ≤ (W3.alloc (.cells #[.slice (some ⟨g3, 0, none⟩) 1 1] 24)).heap.size := le_alloc0 hsz3 _
        have HONE := Lib.hid (ones_one (.slice (some ⟨g3, 0, none⟩) 1 1) rfl)
        go_wp2_with (at_builtin; go_must (refine wpList_append_k elmR rfl _ _ rfl w.heap.size _ _ _ rfl HOA.out _ [[.slice (some ⟨g3, 0, none⟩) 1 1]] rfl HLT.out HONE.out (by simp; omega) hszB (q + 1) rfl ?_); intro ao9 cap9 w9 hown9 hgrow9 hnew9; have HO9 := Lib.hid hown9; have HG9 := Lib.hid hgrow9; have HN9 := Lib.hid hnew9; clear hown9 hgrow9 hnew9)
        go_roundw
        case rel =>
          have hg9 : (W3).grownBy w9 (Value.slice ao q cap).ownBlock := grown_trans (grownBy_any (World.grownBy_alloc (W3) _ none)) HG9.out
          refine ⟨q + 1, ps ++ [(.slice (some ⟨g3, 0, none⟩) 1 1, [C])], by omega, by omega, by go_num, by rw [List.length_append, HLEN.out]; rfl, fun y hy => ?_, HO.out.snoc HB3.out HU3.out ?_ hg9 ?_, below_ownB (HBL.out.trans (HB3.out.mono HBL.out.size)) hsz3 hg9 (ownR_base HO.out.row)⟩
          · rw [xs_snoc] at hy
            rcases List.mem_append.1 hy with h | h
            · exact HIN.out y h
            · rw [List.mem_singleton.1 h]; exact H83.out
          · rw [HLEN.out]
            have h := HO9.out
            simpa using h
          · intro k hk
            rcases HN9.out k hk with h | h
            · exact .inl h
            · right; rw [h]; simp
        case measure => simp [intOf]; omega
      · by_cases hl0 : 0 < len0
        · have hl0i : (0 : Int) < (len0 : Int) := by omega
          have hl0b : decide ((len0 : Int) > 0) = true := decide_eq_true hl0i
          obtain ⟨M, hM⟩ : ∃ M : Nat, z % 256 = (M : Int) := ⟨(z % 256).toNat, by omega⟩
          obtain ⟨J, hJ⟩ : ∃ J : Nat, J = M % len0 := ⟨_, rfl⟩
          have hJ1 : Int.tmod (M : Int) (len0 : Int) = (J : Int) := by rw [Int.tmod_eq_emod_of_nonneg (by omega), hJ]; omega
          have hJl : J < len0 := by rw [hJ]; exact Nat.mod_lt _ hl0
          have hJi : (J : Int) < (len0 : Int) := by omega
          have hJ0 : (0 : Int) ≤ (J : Int) := by omega
          have hM0 : ¬ ((len0 : Int) = 0) := by omega
          have hM1 : ((len0 : Int) == 0) = false := beq_eq_false_iff_ne.2 hM0
          have hbw2 : Below w.heap.size w W2 := HBL.out.trans (HBW.out.mono HBL.out.size)
          obtain ⟨b3, off3, rfl, hcell3⟩ := (rdv_cells (HPR.out.kept hbw2)).2 hl0
          obtain ⟨ya, yc, y, hy, hye⟩ := row_at HPE.out (q := J) (by rw [HPL.out]; exact hJl)
          have hx3 : W2.cell? ⟨b3, off3 + J, none⟩ = some (.slice ya (List.length y) yc) := hcell3 J _ hy
          have hxz := HX2.out
          have HU3 := Lib.hid (far_old (v := .slice none 0 0) (g := 0) hbw2 hye (row := (Value.slice ao q cap).ownBlock) (fun g hg => ownR_base HO2.out.row g hg))
          have H83 := Lib.hid (HP8.out y (List.mem_of_getElem? (xs_at hy)))
          clear hcell3 hy hye hJ hbw2
          have HOA := Lib.hid (show (W2.alloc (.cells #[.slice ya (List.length y) yc] 24)).ownsRow w.heap.size 24 1 (.slice ao q cap) q (vs ps) from by have h := World.ownsRow.alloc HO2.out.row (.cells #[.slice ya (List.length y) yc] 24); rw [HLEN.out] at h; exact h)
          have HLT := Lib.hid (rdS_lit W2 #[.slice ya (List.length y) yc] 24 1 rfl)
          have hszB : w.heap.size ≤ (W2.alloc (.cells #[.slice ya (List.length y) yc] 24)).heap.size := le_alloc0 hsz2 _
          have HONE := Lib.hid (ones_one (.slice ya (List.length y) yc) rfl)
          go_wp2_with (at_builtin; go_must (refine wpList_append_k elmR rfl _ _ rfl w.heap.size _ _ _ rfl HOA.out _ [[.slice ya (List.length y) yc]] rfl HLT.out HONE.out (by simp; omega) hszB (q + 1) rfl ?_); intro ao9 cap9 w9 hown9 hgrow9 hnew9; have HO9 := Lib.hid hown9; have HG9 := Lib.hid hgrow9; have HN9 := Lib.hid hnew9; clear hown9 hgrow9 hnew9)
          go_roundw
          case rel =>
            have hg9 : (W2).grownBy w9 (Value.slice ao q cap).ownBlock := grown_trans (grownBy_any (World.grownBy_alloc (W2) _ none)) HG9.out
            refine ⟨q + 1, ps ++ [(.slice ya (List.length y) yc, y)], by omega, by omega, by go_num, by rw [List.length_append, HLEN.out]; rfl, fun y hy => ?_, HO.out.snoc HBW.out HU3.out ?_ hg9 ?_, below_ownB (HBL.out.trans (HBW.out.mono HBL.out.size)) hsz2 hg9 (ownR_base HO.out.row)⟩
            · rw [xs_snoc] at hy
              rcases List.mem_append.1 hy with h | h
              · exact HIN.out y h
              · rw [List.mem_singleton.1 h]; exact H83.out
            · rw [HLEN.out]
              have h := HO9.out
              simpa using h
            · intro k hk
              rcases HN9.out k hk with h | h
              · exact .inl h
              · right; rw [h]; simp
          case measure => simp [intOf]; omega
        · have hl0i : ¬ (0 : Int) < (len0 : Int) := by omega
          have hl0b : decide ((len0 : Int) > 0) = false := decide_eq_false hl0i
          have HOA := Lib.hid (show (W2.alloc (.cells #[.slice (some ⟨g, 0, none⟩) 2 2] 24)).ownsRow w.heap.size 24 1 (.slice ao q cap) q (vs ps) from by have h := World.ownsRow.alloc HO2.out.row (.cells #[.slice (some ⟨g, 0, none⟩) 2 2] 24); rw [HLEN.out] at h; exact h)
          have HLT := Lib.hid (rdS_lit W2 #[.slice (some ⟨g, 0, none⟩) 2 2] 24 1 rfl)
          have hszB : w.heap.size ≤ (W2.alloc (.cells #[.slice (some ⟨g, 0, none⟩) 2 2] 24)).heap.size := le_alloc0 hsz2 _
          have HONE := Lib.hid (ones_one (.slice (some ⟨g, 0, none⟩) 2 2) rfl)
          go_wp2_with (at_builtin; go_must (refine wpList_append_k elmR rfl _ _ rfl w.heap.size _ _ _ rfl HOA.out _ [[.slice (some ⟨g, 0, none⟩) 2 2]] rfl HLT.out HONE.out (by simp; omega) hszB (q + 1) rfl ?_); intro ao9 cap9 w9 hown9 hgrow9 hnew9; have HO9 := Lib.hid hown9; have HG9 := Lib.hid hgrow9; have HN9 := Lib.hid hnew9; clear hown9 hgrow9 hnew9)
          go_roundw
          case rel =>
            have hg9 : (W2).grownBy w9 (Value.slice ao q cap).ownBlock := grown_trans (grownBy_any (World.grownBy_alloc (W2) _ none)) HG9.out
            refine ⟨q + 1, ps ++ [(.slice (some ⟨g, 0, none⟩) 2 2, [A, B])], by omega, by omega, by go_num, by rw [List.length_append, HLEN.out]; rfl, fun y hy => ?_, HO.out.snoc HBW.out HU2.out ?_ hg9 ?_, below_ownB (HBL.out.trans (HBW.out.mono HBL.out.size)) hsz2 hg9 (ownR_base HO.out.row)⟩
            · rw [xs_snoc] at hy
              rcases List.mem_append.1 hy with h | h
              · exact HIN.out y h
              · rw [List.mem_singleton.1 h]; exact H82.out
            · rw [HLEN.out]
              have h := HO9.out
              simpa using h
            · intro k hk
              rcases HN9.out k hk with h | h
              · exact .inl h
              · right; rw [h]; simp
          case measure => simp [intOf]; omega
      · have HOA := Lib.hid (show (W2.alloc (.cells #[.slice (some ⟨g, 0, none⟩) 2 2] 24)).ownsRow w.heap.size 24 1 (.slice ao q cap) q (vs ps) from by have h := World.ownsRow.alloc HO2.out.row (.cells #[.slice (some ⟨g, 0, none⟩) 2 2] 24); rw [HLEN.out] at h; exact h)
        have HLT := Lib.hid (rdS_lit W2 #[.slice (some ⟨g, 0, none⟩) 2 2] 24 1 rfl)
        have hszB : w.heap.size ≤ (W2.alloc (.cells #[.slice (some ⟨g, 0, none⟩) 2 2] 24)).heap.size := le_alloc0 hsz2 _
        have HONE := Lib.hid (ones_one (.slice (some ⟨g, 0, none⟩) 2 2) rfl)
        go_wp2_with (at_builtin; go_must (refine wpList_append_k elmR rfl _ _ rfl w.heap.size _ _ _ rfl HOA.out _ [[.slice (some ⟨g, 0, none⟩) 2 2]] rfl HLT.out HONE.out (by simp; omega) hszB (q + 1) rfl ?_); intro ao9 cap9 w9 hown9 hgrow9 hnew9; have HO9 := Lib.hid hown9; have HG9 := Lib.hid hgrow9; have HN9 := Lib.hid hnew9; clear hown9 hgrow9 hnew9)
        go_roundw
        case rel =>
          have hg9 : (W2).grownBy w9 (Value.slice ao q cap).ownBlock := grown_trans (grownBy_any (World.grownBy_alloc (W2) _ none)) HG9.out
          refine ⟨q + 1, ps ++ [(.slice (some ⟨g, 0, none⟩) 2 2, [A, B])], by omega, by omega, by go_num, by rw [List.length_append, HLEN.out]; rfl, fun y hy => ?_, HO.out.snoc HBW.out HU2.out ?_ hg9 ?_, below_ownB (HBL.out.trans (HBW.out.mono HBL.out.size)) hsz2 hg9 (ownR_base HO.out.row)⟩
          · rw [xs_snoc] at hy
            rcases List.mem_append.1 hy with h | h
            · exact HIN.out y h
            · rw [List.mem_singleton.1 h]; exact H82.out
          · rw [HLEN.out]
            have h := HO9.out
            simpa using h
          · intro k hk
            rcases HN9.out k hk with h | h
            · exact .inl h
            · right; rw [h]; simp
        case measure => simp [intOf]; omega
      · have HOA := Lib.hid (show (W2.alloc (.cells #[.slice (some ⟨g, 0, none⟩) 2 2] 24)).ownsRow w.heap.size 24 1 (.slice ao q cap) q (vs ps) from by have h := World.ownsRow.alloc HO2.out.row (.cells #[.slice (some ⟨g, 0, none⟩) 2 2] 24); rw [HLEN.out] at h; exact h)
        have HLT := Lib.hid (rdS_lit W2 #[.slice (some ⟨g, 0, none⟩) 2 2] 24 1 rfl)
        have hszB : w.heap.size ≤ (W2.alloc (.cells #[.slice (some ⟨g, 0, none⟩) 2 2] 24)).heap.size := le_alloc0 hsz2 _
        have HONE := Lib.hid (ones_one (.slice (some ⟨g, 0, none⟩) 2 2) rfl)
        go_wp2_with (at_builtin; go_must (refine wpList_append_k elmR rfl _ _ rfl w.heap.size _ _ _ rfl HOA.out _ [[.slice (some ⟨g, 0, none⟩) 2 2]] rfl HLT.out HONE.out (by simp; omega) hszB (q + 1) rfl ?_); intro ao9 cap9 w9 hown9 hgrow9 hnew9; have HO9 := Lib.hid hown9; have HG9 := Lib.hid hgrow9; have HN9 := Lib.hid hnew9; clear hown9 hgrow9 hnew9)
        go_roundw
        case rel =>
          have hg9 : (W2).grownBy w9 (Value.slice ao q cap).ownBlock := grown_trans (grownBy_any (World.grownBy_alloc (W2) _ none)) HG9.out
          refine ⟨q + 1, ps ++ [(.slice (some ⟨g, 0, none⟩) 2 2, [A, B])], by omega, by omega, by go_num, by rw [List.length_append, HLEN.out]; rfl, fun y hy => ?_, HO.out.snoc HBW.out HU2.out ?_ hg9 ?_, below_ownB (HBL.out.trans (HBW.out.mono HBL.out.size)) hsz2 hg9 (ownR_base HO.out.row)⟩
          · rw [xs_snoc] at hy
            rcases List.mem_append.1 hy with h | h
            · exact HIN.out y h
            · rw [List.mem_singleton.1 h]; exact H82.out
          · rw [HLEN.out]
            have h := HO9.out
            simpa using h
          · intro k hk
            rcases HN9.out k hk with h | h
            · exact .inl h
            · right; rw [h]; simp
        case measure => simp [intOf]; omega
    · rcases (by omega : (¬ (q : Int) < (len1 : Int)) ∨ ((q : Int) < (len1 : Int) ∧ ¬ (q : Int) < 60)) with he1 | ⟨he1, he2⟩
      · go_wp2_with fail
        go_ret
        exact ⟨_, rfl, ps, HO.out, by rw [HLEN.out]; exact hq4, HIN.out, HBL.out⟩
      · go_wp2_with fail
        go_ret
        exact ⟨_, rfl, ps, HO.out, by rw [HLEN.out]; exact hq4, HIN.out, HBL.out⟩


end Go.Proofs.Ytjcmekhamohbnaa.Bc

namespace Go.Proofs.Ytjcmekhamohbnaa.Bc
set_option linter.unusedVariables false
set_option linter.unusedSimpArgs false
open Go.RowKit

theorem OwnE.at {base : Nat} {w : World} {v u : Value} {ps : Row} {x : By} {i : Nat} (h : OwnE base w v ps) (hi : ps[i]? = some (u, x)) : (v :: vs ps)[i + 1]? = some u := by
  rw [List.getElem?_cons_succ]
  unfold vs
  rw [List.getElem?_map, hi]
  rfl
theorem OwnE.unlike {base : Nat} {w : World} {v u : Value} {ps : Row} {x : By} {i : Nat} (h : OwnE base w v ps) (hi : ps[i]? = some (u, x)) : v.ownBlock = none ∨ v.ownBlock ≠ u.ownBlock := by
  cases e : v.ownBlock with
  | none => exact .inl rfl
  | some g =>
    right
    intro e2
    have := h.apart 0 (i + 1) v u g rfl (h.at hi) e e2.symm
    omega
end Go.Proofs.Ytjcmekhamohbnaa.Bc
