/-
  Contract of the reference's Key.
-/
import Derived.Test.YtfmkalnnpddefaaWaye
import Derived.Test.YtfmkalnnpddefaaNkey
namespace Go.Proofs.Ytfmkalnnpddefaa
set_option linter.unusedVariables false
set_option linter.unusedSimpArgs false
open Go.RowKit


set_option maxRecDepth 100000 in
set_option maxHeartbeats 8000000 in
theorem refKey_any (p : Pt) (hg : goodP p) (cs : List Value) (w : World) (hr : RdT1 w p cs) :
    Calls Try.prog 29 #[.agg cs.toArray] w fun e w' => e = .returned (.tuple #[.int .i64 (keyNV p), .bool (keyNB p)]) ∧ Below w.heap.size w w' := by
  have HNM := Lib.hid fun w' (h : RdT1 w' p cs) => refNorm_any p hg cs w' h
  obtain ⟨r, hrr⟩ : ∃ r, r = nrm p false := ⟨_, rfl⟩
  have hnt : normT p = r.map fun a => .mk 5 0 0 zeroV (a.map fun x => .mk 4 0 0 zeroV x) := by rw [hrr]; rfl
  have hkt : keyT p = match r with | some [x] => (x.find? isKeyT).map valN | _ => none := by rw [hrr]; rfl
  have HSM := Lib.hid (show ∀ a, r = some a → SmallN a from fun a ha => nrm_small p false (hrr ▸ ha))
  have HKV := Lib.hid (show keyNV p = (match r with | some [x] => (x.find? isKeyT).map valN | _ => none).getD 0 by unfold keyNV; rw [hkt])
  have HKB := Lib.hid (show keyNB p = (match r with | some [x] => (x.find? isKeyT).map valN | _ => none).isSome by unfold keyNB; rw [hkt])
  have HRD := Lib.hid hr
  obtain ⟨k, c, o, v, l⟩ := p
  unfold RdT1 at hr
  obtain ⟨s, ls, css, rfl, hok, hls, hts⟩ := hr
  obtain ⟨sa, sc, hes⟩ := rd_shape8 hok.1
  obtain ⟨ea, ec, hel⟩ := rdS_shape hls
  simp only at hes
  subst hes hel
  obtain ⟨vu, vk, vn, vb⟩ := v
  unfold cellsP at HNM HRD ⊢
  simp only at HNM HRD ⊢
  have HCALL := Lib.hid (HNM.out (w.alloc (.cells #[.int .i64 k, .int .i64 c, .int .i64 o, .bool vu, .int .i64 vk, .int .i64 vn, .slice sa vb.length sc, .slice ea css.length ec] 31)) (RdT1.kept (below_alloc w _) _ HRD.out))
  have HB0 := Lib.hid (below_alloc w (.cells #[.int .i64 k, .int .i64 c, .int .i64 o, .bool vu, .int .i64 vk, .int .i64 vn, .slice sa vb.length sc, .slice ea css.length ec] 31))
  rw [hnt] at HCALL
  clear hok hls hts hg hnt hkt hrr HNM
  go_enter Try.func29, Try.ntmps29
  go_wp2_with fail
  refine HCALL.out.mono ?_
  rintro e w3 ⟨hret, hb3⟩
  have HB3 := Lib.hid (below_then HB0.out hb3)
  clear hb3
  cases r with
  | none =>
    have hk1 := HKV.out
    have hk2 := HKB.out
    simp only [Option.getD_none, Option.isSome_none] at hk1 hk2
    have HK1 := Lib.hid hk1
    have HK2 := Lib.hid hk2
    obtain rfl : e = .returned (.tuple #[.agg #[.int .i64 0, .int .i64 0, .int .i64 0, .bool false, .int .i64 0, .int .i64 0, .slice none 0 0, .slice none 0 0], .bool false]) := hret
    have HF := fun o => Lib.hid (below_lay HB3.out o)
    clear hk1 hk2
    go_wp2_with fail
    go_ret2
    exact ⟨by rw [HK1.out, HK2.out] <;> rfl, (HF _).out⟩
  | some a =>
    obtain ⟨cs', rfl, ha⟩ : ∃ cs' : List Value, e = .returned (.tuple #[.agg cs'.toArray, .bool true]) ∧ RdT1 w3 (.mk 5 0 0 zeroV (a.map fun x => .mk 4 0 0 zeroV x)) cs' := hret
    unfold RdT1 at ha
    obtain ⟨s1, ls1, css1, rfl, ho1, hs1, hr1⟩ := ha
    obtain ⟨sa1, sc1, hes1⟩ := rd_shape8 ho1.1
    obtain ⟨ea1, ec1, hel1⟩ := rdS_shape hs1
    simp only at hes1
    subst hes1 hel1
    have hl1 := rdTs_len hr1
    rw [List.length_map] at hl1
    rw [hl1] at hs1 ⊢
    clear ho1
    by_cases h1 : a.length = 1
    · obtain ⟨x, rfl⟩ : ∃ x, a = [x] := by
        match a, h1 with
        | [x], _ => exact ⟨x, rfl⟩
      have hk1 := HKV.out
      have hk2 := HKB.out
      simp only at hk1 hk2
      obtain ⟨cs0, hc0, hrx⟩ := rdTs_at hr1 (k := 0) (q := .mk 4 0 0 zeroV x) rfl
      have hat := hs1.at hc0
      have hlen1 : ([x] : List (List Pt)).length = 1 := rfl
      rw [hlen1]
      unfold cellsP
      unfold RdT1 at hrx
      obtain ⟨s0, ls0, css0, rfl, hok0, hls0, hts0⟩ := hrx
      obtain ⟨sa0, sc0, hes0⟩ := rd_shape8 hok0.1
      obtain ⟨ea0, ec0, hel0⟩ := rdS_shape hls0
      simp only at hes0
      subst hes0 hel0
      have hx32 : x.length ≤ 32 := (HSM.out [x] rfl).2 x List.mem_cons_self
      have hcl0 := rdTs_len hts0
      obtain ⟨n0, hn0⟩ : ∃ n0, n0 = css0.length := ⟨_, rfl⟩
      rw [← hn0] at hls0 hat hcl0
      rw [← hcl0] at hx32
      obtain ⟨b, off, rfl, hcell⟩ := hat
      have k7 : w3.cell? ⟨b, off + 0 * 8 + 7, none⟩ = some (.slice ea0 n0 ec0) := hcell 7 _ rfl
      simp only [Nat.zero_mul, Nat.add_zero] at k7
      obtain ⟨OBJ, hOBJ⟩ : ∃ OBJ, OBJ = Obj.cells #[.int .i64 5, .int .i64 0, .int .i64 0, .bool zeroV.u, .int .i64 zeroV.k, .int .i64 zeroV.n, .slice sa1 zeroV.b.length sc1, .slice (some ⟨b, off, none⟩) 1 ec1] 31 := ⟨_, rfl⟩
      have k7a := Lib.cell?_alloc_some (W := w3) OBJ k7
      have HLS0 := Lib.hid (hls0.kept (below_alloc w3 OBJ))
      have HTS0 := Lib.hid (RdTs.kept (below_alloc w3 OBJ) _ hts0)
      have HF := Lib.hid (below_lay HB3.out OBJ)
      rw [hOBJ] at HLS0 HTS0 HF k7a
      have HCL0 := Lib.hid hcl0
      have HX := Lib.hid hx32
      clear hcell hc0 hok0 hls0 hts0 hr1 hs1 h1 hlen1 hx32 hn0 hcl0 k7 hl1 hOBJ
      have HK1 := Lib.hid hk1
      have HK2 := Lib.hid hk2
      clear hk1 hk2
      go_wp2_with fail
      obtain ⟨W, hW⟩ : ∃ W : World, W = w3.alloc (.cells #[.int .i64 5, .int .i64 0, .int .i64 0, .bool zeroV.u, .int .i64 zeroV.k, .int .i64 zeroV.n, .slice sa1 zeroV.b.length sc1, .slice (some ⟨b, off, none⟩) 1 ec1] 31) := ⟨_, rfl⟩
      rw [← hW] at HLS0 HTS0 HF k7a ⊢
      clear hW k7a
      go_loopw [7] (fun i wr => ∃ q : Nat, q ≤ n0 ∧ i = .int .i64 (q : Int) ∧ (∀ y ∈ x.take q, isKeyT y = false) ∧ Below W.heap.size W wr) (fun i _ => n0 - (intOf i).toNat)
      case atStart => exact ⟨0, Nat.zero_le _, rfl, by simp, Below.refl _ _⟩
      case round =>
        obtain ⟨q, hq, rfl, hno, hb⟩ := hrel
        have HNO := Lib.hid hno
        have HB := Lib.hid hb
        have HFR := Lib.hid (show Below w.heap.size w wr from below_then HF.out hb)
        have hn32 := HX.out
        clear hno hb
        by_cases hlt : q < n0
        · obtain ⟨t, ht⟩ : ∃ t, x[q]? = some t := ⟨_, List.getElem?_eq_getElem (by have := HCL0.out; omega)⟩
          have HT := Lib.hid ht
          obtain ⟨ct, hct, hrt⟩ := rdTs_at HTS0.out ht
          obtain ⟨tk, tc, to_, tv, tl⟩ := t
          unfold RdT1 at hrt
          obtain ⟨ts, tls, tcss, rfl, _, _, _⟩ := hrt
          obtain ⟨b2, off2, rfl, hcell2⟩ := (HLS0.out.kept HB.out).at hct
          have k0 : wr.cell? ⟨b2, off2 + q * 8 + 0, none⟩ = some (.int .i64 tk) := hcell2 0 _ rfl
          have k1 : wr.cell? ⟨b2, off2 + q * 8 + 1, none⟩ = some (.int .i64 tc) := hcell2 1 _ rfl
          have k2 : wr.cell? ⟨b2, off2 + q * 8 + 2, none⟩ = some (.int .i64 to_) := hcell2 2 _ rfl
          have k5 : wr.cell? ⟨b2, off2 + q * 8 + 5, none⟩ = some (.int .i64 tv.n) := hcell2 5 _ rfl
          simp only [Nat.add_zero] at k0
          clear ht hct hcell2
          by_cases hkey : isKeyT (.mk tk tc to_ tv tl) = true
          · have hfd : x.find? isKeyT = some (.mk tk tc to_ tv tl) := by
              rcases idxT_cases x with ⟨hi, hf⟩ | ⟨i, t, hi, hit, hf⟩
              · have := List.find?_eq_none.1 hf _ (List.mem_of_getElem? HT.out)
                exact absurd hkey this
              · have h2 := idxT_found HT.out hkey HNO.out
                rw [hi] at h2
                have h3 : i = q := by omega
                subst h3
                rw [HT.out] at hit
                cases hit
                exact hf
            have HV1 := Lib.hid (show keyNV (.mk k c o ⟨vu, vk, vn, vb⟩ l) = tv.n by rw [HK1.out, hfd]; rfl)
            have HV2 := Lib.hid (show keyNB (.mk k c o ⟨vu, vk, vn, vb⟩ l) = true by rw [HK2.out, hfd]; rfl)
            have hkk : tk = 2 ∧ tc = 0 ∧ to_ = 1 := by
              unfold isKeyT at hkey
              simp at hkey
              omega
            obtain ⟨rfl, rfl, rfl⟩ := hkk
            obtain ⟨X, hX⟩ : ∃ X, X = tv.n := ⟨_, rfl⟩
            rw [← hX] at k5 HV1
            clear hkey hfd hX
            go_wp2_with fail
            go_ret2
            exact ⟨by rw [HV1.out, HV2.out] <;> rfl, HFR.out⟩
          · have HNO2 := Lib.hid (show ∀ y ∈ x.take (q + 1), isKeyT y = false from fun y hy => by
              rw [List.take_add_one, HT.out] at hy
              rcases List.mem_append.1 hy with h | h
              · exact HNO.out y h
              · simp at h; rw [h]; exact Bool.not_eq_true _ ▸ hkey)
            have hk3 : ¬ (tk = 2 ∧ tc = 0 ∧ to_ = 1) := by
              unfold isKeyT at hkey
              simpa [and_assoc] using hkey
            clear hkey k5
            by_cases h2 : tk = 2
            · subst h2
              by_cases h3 : tc = 0
              · subst h3
                have qq : (to_ == 1) = false := by rw [beq_eq_false_iff_ne]; exact fun h => hk3 ⟨rfl, rfl, h⟩
                clear hk3
                go_wp2_with fail
                go_roundw
                case rel => exact ⟨q + 1, by omega, by go_num, HNO2.out, HB.out⟩
                case measure => simp [intOf]; omega
              · have qq : (tc == 0) = false := by rw [beq_eq_false_iff_ne]; exact h3
                clear hk3 h3
                go_wp2_with fail
                go_roundw
                case rel => exact ⟨q + 1, by omega, by go_num, HNO2.out, HB.out⟩
                case measure => simp [intOf]; omega
            · have qq : (tk == 2) = false := by rw [beq_eq_false_iff_ne]; exact h2
              clear hk3 h2
              go_wp2_with fail
              go_roundw
              case rel => exact ⟨q + 1, by omega, by go_num, HNO2.out, HB.out⟩
              case measure => simp [intOf]; omega
        · have hqn : q = n0 := by omega
          have htk : x.take q = x := List.take_of_length_le (by have := HCL0.out; omega)
          have hfd : x.find? isKeyT = none := List.find?_eq_none.2 fun y hy => by
            have := HNO.out y (by rw [htk]; exact hy)
            rw [this]; exact Bool.false_ne_true
          have HV1 := Lib.hid (show keyNV (.mk k c o ⟨vu, vk, vn, vb⟩ l) = 0 by rw [HK1.out, hfd]; rfl)
          have HV2 := Lib.hid (show keyNB (.mk k c o ⟨vu, vk, vn, vb⟩ l) = false by rw [HK2.out, hfd]; rfl)
          clear hqn htk hfd
          go_wp2_with fail
          go_ret2
          exact ⟨by rw [HV1.out, HV2.out] <;> rfl, HFR.out⟩
    · have hk1 : keyNV (.mk k c o ⟨vu, vk, vn, vb⟩ l) = 0 := by
        rw [HKV.out]
        match a, h1 with
        | [], _ => rfl
        | [x], h1 => exact absurd rfl h1
        | x :: y :: r, _ => rfl
      have hk2 : keyNB (.mk k c o ⟨vu, vk, vn, vb⟩ l) = false := by
        rw [HKB.out]
        match a, h1 with
        | [], _ => rfl
        | [x], h1 => exact absurd rfl h1
        | x :: y :: r, _ => rfl
      have HK1 := Lib.hid hk1
      have HK2 := Lib.hid hk2
      have HF := fun o => Lib.hid (below_lay HB3.out o)
      obtain ⟨n1, hn1⟩ : ∃ n1, n1 = a.length := ⟨_, rfl⟩
      rw [← hn1] at h1 ⊢
      have q : ((n1 : Int) != 1) = true := by rw [bne_iff_ne]; omega
      clear hk1 hk2 hn1 hs1 hr1 h1 hl1
      unfold cellsP
      go_wp2_with fail
      go_ret2
      exact ⟨by rw [HK1.out, HK2.out] <;> rfl, (HF _).out⟩

end Go.Proofs.Ytfmkalnnpddefaa
