import Derived.Test.YtmpgnjhgegbdkaaGreatSgt
import Derived.Test.YtmpgnjhgegbdkaaGreatSgr
import Derived.Test.YtmpgnjhgegbdkaaGreatRefeh
import Derived.Test.YtmpgnjhgegbdkaaGreatZig
set_option linter.unusedVariables false
set_option linter.unusedSimpArgs false
set_option maxRecDepth 100000
set_option maxHeartbeats 40000000
open Go.Lib (hid)
namespace Go.Proofs.YtmpgnjhgegbdkaaGreat
open Go.RowKit
open _root_.List renaming getElem_toArray -> Qa, getElem_cons_succ -> Qb, getElem_cons_zero -> Qc, setIfInBounds_toArray -> Qd, set_cons_zero -> Qe, set_cons_succ -> Qf, nil_append -> Qk, length_map -> Ql, getElem?_eq_getElem -> Qm, length_append -> Qn, length -> Qo, length_take -> Qp, map_append -> Qq, mem_of_getElem? -> Qr, mem_singleton -> Qs
open Go.RowKit.Below renaming refl -> Qg, trans -> Qh
open _root_.Nat renaming le_refl -> Qi, zero_add -> Qj
open Go renaming cell_of_row -> Qt
def AnyS (cols : List Co) (ys : List Nat) (i : Nat) (w : World) (v : Value) : Prop :=
 ∃ (bs : List Nat) (ao : Option Addr) (n cap : Nat), v = .slice ao n cap ∧ n = bs.length ∧ Rd w v (bs.map u8v) ∧ (∀ x ∈ bs, x < 256) ∧ bs.length <= 300000 ∧ (i = 1 -> bs = ys) ∧ (2 <= i -> ∀ R, RowsC cols R -> bs = segT cols R -> False)
theorem AnyS.kept {cols : List Co} {ys : List Nat} {i : Nat} {w w' : World} {v : Value} (h : AnyS cols ys i w v) (hb : Below w.heap.size w w') : AnyS cols ys i w' v := by
 obtain ⟨bs, ao, n, cap, h1, h2, h3, h4⟩ := h
 exact ⟨bs, ao, n, cap, h1, h2, h3.kept hb, h4⟩
def FourS (cols : List Co) (ys : List Nat) (w : World) (g : Nat) : Prop := ∀ i, i < 4 -> ∃ v, w.cell? ⟨g, i, none⟩ = some v ∧ AnyS cols ys i w v
theorem FourS.kept {cols : List Co} {ys : List Nat} {g : Nat} {w w' : World} (h : FourS cols ys w g) (hb : Below w.heap.size w w') : FourS cols ys w' g := fun i hi => by
 obtain ⟨v, h1, h2⟩ := h i hi
 exact ⟨v, (hb.cell (World.block_lt_of_cell? _ _ h1)).trans h1, h2.kept hb⟩
theorem zVd (cols : List Co) (ys : List Nat) (w : World) (v0 v1 v2 v3 : Value) (E : TypeId) (h0 : AnyS cols ys 0 w v0) (h1 : AnyS cols ys 1 w v1) (h2 : AnyS cols ys 2 w v2) (h3 : AnyS cols ys 3 w v3) :
  FourS cols ys (w.alloc (.cells #[v0, v1, v2, v3] E)) w.heap.size := fun i hi => by
 have hx := heap_alloc_new w (.cells #[v0, v1, v2, v3] E)
 have hb := zAc w (.cells #[v0, v1, v2, v3] E)
 rcases (by omega : i = 0 ∨ i = 1 ∨ i = 2 ∨ i = 3) with rfl | rfl | rfl | rfl
 ·exact ⟨v0, by rw [Qt _ _ 0 _ _ _ hx]; rfl, h0.kept hb⟩
 ·exact ⟨v1, by rw [Qt _ _ 1 _ _ _ hx]; rfl, h1.kept hb⟩
 ·exact ⟨v2, by rw [Qt _ _ 2 _ _ _ hx]; rfl, h2.kept hb⟩
 ·exact ⟨v3, by rw [Qt _ _ 3 _ _ _ hx]; rfl, h3.kept hb⟩
theorem zVe {cols : List Co} {B : List Nat} {k : Nat} (hne : 0 < cols.length) (hB : B = [] ∨ ∃ R, RowsC cols R ∧ B = segT cols R) (hk : k <= B.length) (h0 : k = B.length -> B = []) : ∀ R, RowsC cols R -> B.take k = segT cols R -> False := fun Q hQ h => by
 have h2 := zKi (R := Q) hne
 rcases hB with rfl | ⟨R, hR, rfl⟩
 ·rw [<- h] at h2; simp at h2
 ·have e := List.take_append_drop k (segT cols R)
  rw [h] at e
  have h3 := zOm hR hQ _ e.symm
  have h4 := congrArg Qo h3
  rw [List.length_drop] at h4
  simp only [List.length_nil] at h4
  have h5 := h0 (by omega)
  have := zKi (R := R) hne
  rw [h5] at this
  simp at this
theorem zTm {cols : List Co} {B : List Nat} {x : Nat} (hne : 0 < cols.length) (hB : B = [] ∨ ∃ R, RowsC cols R ∧ B = segT cols R) : ∀ R, RowsC cols R -> B ++ [x] = segT cols R -> False := fun Q hQ h => by
 rcases hB with rfl | ⟨R, hR, rfl⟩
 ·have h2 := zKi (R := Q) hne
  rw [<- h] at h2
  simp at h2
 ·have := zOm hQ hR _ h.symm
  cases this
theorem walk_SegmAny (a0 : Option Addr) (len0 cap0 : Nat) (z0 : List Int) (a1 : Int) (a2 : Option Addr) (len2 cap2 : Nat) (z2 : List Int) (a3 : Int) (a4 : Int) (w : World) (w0 : IsRow .u8 w a0 len0 cap0 z0) (w1 : (Lit.int .i64 a1).wf = true) (w2 : IsRow .i64 w a2 len2 cap2 z2) (w3 : (Lit.int .i64 a3).wf = true) (w4 : (Lit.int .u8 a4).wf = true) :
  Calls Tryz.prog 6 #[.slice a0 len0 cap0, .int .i64 a1, .slice a2 len2 cap2, .int .i64 a3, .int .u8 a4] w fun e w' => e = .returned (.bool true) ∧ Below w.heap.size w w' := by
 obtain ⟨raw, hl0, hr0, h256⟩ := zTu w0
 obtain ⟨la, hla, h1, _⟩ := zMw w2
 obtain ⟨b0, b1⟩ := wf_u8 w4
 obtain ⟨by0, rfl⟩ := Int.eq_ofNat_of_zero_le b0
 have hby : by0 < 256 := by omega
 have HL0 := hid hl0
 have HR0 := hid hr0
 have H256 := hid h256
 have HLA := hid hla
 have HR1 := hid h1
 have HS := hid (zSu a1 w)
 have HOK := hid (zF7 a1)
 have HAW := hid zPf
 clear w0 w1 w2 w3 w4 b0 b1 hl0 hr0 h256 hla h1
 by_cases hbig : 300 < len0
 ·have hbr : decide ((300 : Int) < (len0 : Int)) = true := by simp; omega
  go_enter Tryz.func6, Tryz.ntmps6
  go_wp2_with fail
  refine (HAW.out _).mono ?_
  rintro e w6 ⟨rfl, hb6⟩
  have HB6 := hid hb6
  clear hb6
  go_wp2_with fail
  go_ret
  exact ⟨rfl, HB6.out⟩
 have hbr : decide ((300 : Int) < (len0 : Int)) = false := by simp; omega
 obtain ⟨i0, hi, hz0, hz1, hz2⟩ := info_parts zHi
 go_enter Tryz.func6, Tryz.ntmps6
 go_wp2_with fail
 refine HS.out.mono ?_
 rintro e W1 ⟨so, sc, rfl, hs1, hb1⟩
 obtain ⟨m, hm⟩ : ∃ m, m = (colsN a1).length := ⟨_, rfl⟩
 have hc1 : RdC W1 _ (colsN a1) := hs1.rd
 rw [<- hm] at hs1 hc1 ⊢
 have HM := hid hm
 have HNE := hid HOK.out.ne
 have HM6 := hid HOK.out.le
 clear hm
 go_upto_region 4 with (fail)
 obtain ⟨W2, hW2⟩ : ∃ W2 : World, W2 = W1.alloc (.cells #[.slice so m sc] 24) := ⟨_, rfl⟩
 obtain ⟨SB, hSB⟩ : ∃ SB, SB = W1.heap.size := ⟨_, rfl⟩
 rw [<- hW2, <- hSB]
 have HSB := hid (show W2.heap[SB]? = some (.cells #[.slice so m sc] 24 (0, 0)) by rw [hW2, hSB]; exact heap_alloc_new W1 _)
 have hb12 : Below W1.heap.size W1 W2 := by rw [hW2]; exact zAc W1 _
 have HB2 := hid (zAa hb1 hb12)
 have HC2 := hid (RdC.kept hc1 hb12)
 have HCS := hid (show ∀ w', Below W2.heap.size W2 w' -> w'.cell? ⟨SB, 0, none⟩ = some (.slice so m sc) from fun w' h => by rw [Qt w' SB 0 _ _ _ ((h.block SB (Array.getElem?_eq_some_iff.1 HSB.out).1).trans HSB.out)]; rfl)
 have HKP2 := hid (show ∀ w', Below W2.heap.size W2 w' -> w'.cell? ⟨SB, 0, none⟩ = some (.slice so m sc) ∧ Below W2.heap.size W2 w' from fun w' h => ⟨HCS.out w' h, h⟩)
 have HRW := hid (show ∀ w', Below W2.heap.size W2 w' -> Calls Tryz.prog 18 #[.agg #[.slice so m sc], .slice a2 len2 cap2] w' fun e w'' => ∃ (ao : Option Addr) (n cap : Nat), e = .returned (.slice ao n cap) ∧ (∀ w3, Below w''.heap.size w'' w3 -> Calls Tryz.prog 15 #[.agg #[.slice so m sc], .slice ao n cap] w3 fun e w4 => ∃ (oa : Option Addr) (ok : Bool), e = .returned (.tuple #[.pointer oa, .bool ok]) ∧ ((ok = true ∧ ∃ g, oa = some ⟨g, 0, none⟩ ∧ RowsC (colsN a1) (rows9 (colsN a1) la) ∧ SegAt w3.heap.size w4 g (colsN a1) (rows9 (colsN a1) la)) ∨ (ok = false ∧ oa = none)) ∧ Below w3.heap.size w3 w4) ∧ Below W2.heap.size W2 w'' from fun w' h => by
  refine (zTi (colsN a1) HOK.out la (.slice so m sc) a2 len2 cap2 HLA.out.symm w' (RdC.kept HC2.out h) (HR1.out.kept (zAa HB2.out h))).mono ?_
  rintro e w'' ⟨ao, cap, sls, L, rfl, h1, h2, h3, h4⟩
  refine ⟨ao, L.length, cap, rfl, fun w3 hb3 => (zWf a1 la L h1 (.slice so m sc) (.slice ao L.length cap) w3 (RdC.kept HC2.out (zAa (zAa h h4) hb3)) (h2.kept hb3).rdA.rd h2.lt).mono ?_, zAa h h4⟩
  rintro e w4 ⟨h | h, hb⟩
  ·obtain ⟨g, rfl, h5, h6⟩ := h
   exact ⟨_, _, rfl, .inl ⟨rfl, g, rfl, h5, h6⟩, hb⟩
  ·obtain ⟨_, rfl⟩ := h
   exact ⟨_, _, rfl, .inr ⟨rfl, rfl⟩, hb⟩)
 clear hs1 hc1 hb1 hb12 hW2 hSB
 have hS0 := Qg W2.heap.size W2
 go_upto_region 5 with (fail)
 go_cut [13, 14] (fun p b wx => ∃ (oa : Option Addr) (ok : Bool), p = .pointer oa ∧ b = .bool ok ∧ ((ok = true ∧ ∃ g R, oa = some ⟨g, 0, none⟩ ∧ RowsC (colsN a1) R ∧ SegAt W2.heap.size wx g (colsN a1) R) ∨ (ok = false ∧ oa = none)) ∧ Below W2.heap.size W2 wx)
 case first =>
  set_option maxRecDepth 1000000 in
  go_region_held3 (fun w' => w'.cell? ⟨SB, 0, none⟩ = some (.slice so m sc) ∧ Below W2.heap.size W2 w') (first | assumption | exact HKP2.out _ (by first | assumption | exact Qh (by assumption) (zAe _ _)))
   (first
    | (go_at_call 18; refine (HRW.out _ (by first | assumption | exact Qh (by assumption) (zAe _ _))).mono ?_; rintro e wA ⟨ao, n, cap, rfl, hmk, hbA⟩; have HMK := hid hmk; clear hmk)
    | (go_at_call 15; refine (HMK.out _ (by first | exact Qg _ _ | exact zAe _ _)).mono ?_; rintro e wB ⟨oa, ok, rfl, hmk, hbB⟩; have hbW : Below W2.heap.size W2 wB := zAa hbA hbB; have HSG := hid hmk; clear hmk hbB))
  all_goals
   go_wp2_with fail
   go_meet
   refine ⟨oa, ok, rfl, rfl, HSG.out.imp (fun h => ?_) id, by first | exact hbW | exact zAo hbW⟩
   obtain ⟨h1, g, h2, h3, h4⟩ := h
   exact ⟨h1, g, _, h2, h3, h4.above (Above.refl _ _) (Qi _) hbA.size⟩
 case rest =>
  obtain ⟨oa, ok, rfl, rfl, hor, hb3⟩ := hcut
  obtain ⟨W3, hW3⟩ : ∃ W3 : World, W3 = wc := ⟨_, rfl⟩
  rw [<- hW3] at hor hb3 ⊢
  clear hW3 hS0
  have HOR := hid hor
  have HB3 := hid hb3
  clear hor hb3 HRW
  go_upto_region 6 with (fail)
  go_cut [45] (fun s wx => s = .bool ok ∧ wx = W3)
  case first =>
   rcases HOR.out with ⟨rfl, g, R, rfl, _, _⟩ | ⟨rfl, rfl⟩
   ·go_wp2_with fail
    go_meet
    exact ⟨rfl, rfl⟩
   ·go_wp2_with fail
    go_meet
    exact ⟨rfl, rfl⟩
  case rest =>
   obtain ⟨rfl, rfl⟩ := hcut
   go_upto_if 45 with (fail)
   go_cut [12] (fun s wx => ∃ (ab : Option Addr) (bl cb : Nat) (B : List Nat), s = .slice ab bl cb ∧ B.length = bl ∧ bl <= 260000 ∧ Rd wx (.slice ab bl cb) (B.map u8v) ∧ (∀ x ∈ B, x < 256) ∧ (B = [] ∨ ∃ R, RowsC (colsN a1) R ∧ B = segT (colsN a1) R) ∧ Below W2.heap.size W2 wx)
   case first =>
    rcases HOR.out with ⟨rfl, g, R, rfl, hrc, hseg⟩ | ⟨rfl, rfl⟩
    ·have HRC := hid hrc
     have HSEG := hid hseg
     clear hrc hseg
     go_wp2_with fail
     refine (zEj HRC.out HNE.out HM6.out _ HSEG.out).mono ?_
     rintro e w4 ⟨v4, rfl, ho4, hb4⟩
     obtain ⟨a4, c4, rfl⟩ := ho4.shape
     obtain ⟨bl, hbl⟩ : ∃ bl, bl = (segT (colsN a1) R).length := ⟨_, rfl⟩
     have HRD4 := hid ho4.rd
     rw [<- hbl] at HRD4 ⊢
     have HBL := hid hbl
     have HB4 := hid (zAa HB3.out hb4)
     clear ho4 hb4 hbl
     go_wp2_with fail
     go_meet
     exact ⟨a4, bl, c4, segT (colsN a1) R, rfl, HBL.out.symm, by rw [HBL.out]; exact zOd HRC.out HM6.out, HRD4.out, zLr HRC.out, .inr ⟨R, HRC.out, rfl⟩, HB4.out⟩
    ·go_wp2_with fail
     go_meet
     exact ⟨none, 0, 0, [], rfl, rfl, by omega, Rd.nil _, (fun x hx => by cases hx), .inl rfl, HB3.out⟩
   case rest =>
    obtain ⟨ab, bl, cb, B, rfl, hbl, hbl2, hrb, hb8, hB, hb4⟩ := hcut
    obtain ⟨W4, hW4⟩ : ∃ W4 : World, W4 = wc := ⟨_, rfl⟩
    rw [<- hW4] at hrb hb4 ⊢
    clear hW4
    have HBL := hid hbl
    have HRB := hid hrb
    have HB8 := hid hb8
    have HBO := hid hB
    have HB4 := hid hb4
    clear hbl hrb hb8 hB hb4 HOR HB3
    have HOE := hid (zD7 W4 W4.heap.size 5 (Qi _))
    have HBA := hid (zAc W4 (.cells #[] 5))
    have HRB2 := hid (HRB.out.kept HBA.out)
    have H3 := hid (zAr B)
    have H1 := hid (show (B.map u8v).length = bl by rw [Ql, HBL.out])
    have hs1 := hid HBA.out.size
    go_upto_if 53 with (at_builtin; go_must (refine zKe rfl _ _ 29 rfl W4.heap.size 5 i0 (.int .u8 0) 1 Tryz.underlying29 hi hz0 hz1 hz2 rfl _ _ _ rfl HOE.out _ (B.map u8v) rfl HRB2.out H3.out (by rw [H1.out]; unfold maxLen; omega) (by rw [H1.out]; omega) hs1.out ?_); intro v' w5 hown' hgrow; rw [H1.out, Qj, Qk] at hown'; have HB5 := hid (zBu HBA.out HOE.out hgrow); obtain ⟨ao5, cap5, hv⟩ := zAx hown'; subst hv; have HO5 := hid hown'; clear hown' hgrow)
    go_cut [16] (fun s wx => ∃ (k : Nat) (ys : List Nat), k <= bl ∧ (k = bl -> bl = 0) ∧ s = .int .i64 (k : Int) ∧ ys.length = bl ∧ (∀ x ∈ ys, x < 256) ∧ Rd wx (.slice ao5 bl cap5) (ys.map u8v) ∧ Below W4.heap.size W4 wx)
    case first =>
     by_cases hb0 : bl = 0
     ·subst hb0
      go_wp2_with fail
      go_meet
      exact ⟨0, B, by omega, by simp, rfl, HBL.out, HB8.out, Rd.of_owns HO5.out, HB5.out⟩
     ·obtain ⟨c, d, hc, hd, hd1, hc1⟩ := zQ5 a3 bl (by omega)
      obtain ⟨g, hg⟩ : ∃ g, ao5 = some ⟨g, 0, none⟩ := by
       rcases HO5.out.2 with ⟨_, h0⟩ | ⟨g, cap', cur, hv, _⟩
       ·omega
       ·simp only [Value.slice.injEq] at hv
        exact ⟨g, hv.1⟩
      subst hg
      have hfz := HO5.out.frozenAt d
      obtain ⟨y, hy⟩ : ∃ y, w5.cell? ⟨g, d, none⟩ = some y := by
       rw [HO5.out.cellAt d (by omega), Qm (by rw [Ql, HBL.out]; exact hd1)]; exact ⟨_, rfl⟩
      have hg1 : W4.heap.size <= g := zS4 HO5.out g rfl
      have HST := hid (HO5.out.stored d (u8v by0)).1
      go_wp2_with fail
      go_meet
      refine ⟨d, B.set d by0, by omega, fun h => by omega, rfl, by rw [List.length_set, HBL.out], ?_, ?_, ?_⟩
      ·intro x hx
       rcases List.mem_or_eq_of_mem_set hx with h | h
       ·exact HB8.out x h
       ·rw [h]; exact hby
      ·rw [List.map_set]
       exact Rd.of_owns HST.out
      ·exact HB5.out.trans ((Qg _ _).setCell (p := ⟨g, d, none⟩) hg1 _)
    case rest =>
     obtain ⟨k, ys, hk, hk0, rfl, hyl, hy256, hry, hbel⟩ := hcut
     obtain ⟨W5, hW5⟩ : ∃ W5 : World, W5 = wc := ⟨_, rfl⟩
     rw [<- hW5] at hbel hry ⊢
     clear hW5
     have HB5W := hid (zAa HB4.out hbel)
     have HRB5 := hid (HRB.out.kept hbel)
     have HRY5 := hid hry
     have HRR5 := hid (HR0.out.kept (zAa HB2.out HB5W.out))
     have HYL := hid hyl
     have HY256 := hid hy256
     have HK0 := hid hk0
     have hcapc : bl <= cb := zB0 HRB5.out
     have hk3 : k <= cb := by omega
     clear hbel hry hyl hy256 HRB HB4 HB5 HO5 HRB2 HBA HOE hs1 hk0
     go_upto_region 13 with (fail)
     go_cut [74, 75, 76] (fun s t u wx => ∃ g : Nat, s = .slice (some ⟨g, 0, none⟩) 4 4 ∧ t = .int .i64 4 ∧ u = .int .i64 0 ∧ FourS (colsN a1) ys wx g ∧ Below W5.heap.size W5 wx)
     case first =>
      have hszC := hid (show W5.heap.size <= (W5.drew.alloc (.cells #[.int .u8 (by0 : Int)] 5)).heap.size from (zAf (zBn W5.heap.size W5) (.cells #[.int .u8 (by0 : Int)] 5)).size)
      have hsz0 : (W5.drew.alloc (.cells #[] 5)).heap.size = W5.heap.size + 1 := by show (W5.alloc (.cells #[] 5)).heap.size = W5.heap.size + 1; simp
      have hsz1 : (W5.drew.alloc (.cells #[.int .u8 (by0 : Int)] 5)).heap.size = W5.heap.size + 1 := by show (W5.alloc (.cells #[.int .u8 (by0 : Int)] 5)).heap.size = W5.heap.size + 1; simp
      have HOC : Hid (((W5.drew.alloc (.cells #[.int .u8 (by0 : Int)] 5)).alloc (.cells #[] 5)).ownsRow W5.heap.size 5 1 (.slice (some ⟨W5.heap.size + 1, 0, none⟩) 0 0) 0 []) := hid (by rw [<- hsz1]; exact zD7 (W5.drew.alloc (.cells #[.int .u8 (by0 : Int)] 5)) W5.heap.size 5 hszC.out)
      have HLB : Hid (Rd ((W5.drew.alloc (.cells #[] 5)).alloc (.cells #[.int .u8 (by0 : Int)] 5)) (.slice (some ⟨W5.heap.size + 1, 0, none⟩) 1 1) [u8v by0]) := hid (by rw [<- hsz0]; exact (zMv (W5.drew.alloc (.cells #[] 5)) #[.int .u8 (by0 : Int)] 5 1 [u8v by0] rfl rfl (by decide)))
      clear hsz0 hsz1
      have H3B := hid (zAr [by0])
      go_region_law (first
       | (refine zCo (by rfl) _ _ 29 (by rfl) W5.heap.size 5 i0 (.int .u8 0) 1 Tryz.underlying29 hi hz0 hz1 hz2 rfl _ _ _ (by rfl) hown5 _ [u8v by0] (by rfl) hl5 H3B.out (by simp; unfold maxLen; omega) (by simp; omega) hbel5.size ?_; intro v6 w6 hown6 hgrow6; have hbel6 : Below W5.heap.size W5 w6 := zBu hbel5 hown5 hgrow6; obtain ⟨ao7, cap7, hv6⟩ := zAx hown6; subst hv6)
       | (refine zCo (by rfl) _ _ 29 (by rfl) W5.heap.size 5 i0 (.int .u8 0) 1 Tryz.underlying29 hi hz0 hz1 hz2 rfl _ _ _ (by rfl) (hown5.alloc (.cells #[.int .u8 (by0 : Int)] 5)) _ [u8v by0] (by rfl) (zMv w5 #[.int .u8 (by0 : Int)] 5 1 [u8v by0] rfl rfl (by decide)) H3B.out (by simp; unfold maxLen; omega) (by simp; omega) (zAf hbel5 (.cells #[.int .u8 (by0 : Int)] 5)).size ?_; intro v6 w6 hown6 hgrow6; have hbel6 : Below W5.heap.size W5 w6 := zBu (zAf hbel5 (.cells #[.int .u8 (by0 : Int)] 5)) (hown5.alloc (.cells #[.int .u8 (by0 : Int)] 5)) hgrow6; obtain ⟨ao7, cap7, hv6⟩ := zAx hown6; subst hv6)
       | (refine zCo (by rfl) _ _ 29 (by rfl) W5.heap.size 5 i0 (.int .u8 0) 1 Tryz.underlying29 hi hz0 hz1 hz2 rfl _ _ _ (by rfl) (zD7 W5.drew W5.heap.size 5 (Qi _)) _ (B.map u8v) (by rfl) (HRB5.out.kept (zAf (zBn W5.heap.size W5) (.cells #[] 5))) H3.out (by rw [H1.out]; unfold maxLen; omega) (by rw [H1.out]; omega) (zAf (zBn W5.heap.size W5) (.cells #[] 5)).size ?_; intro v5 w5 hown5 hgrow5; rw [H1.out, Qj, Qk] at hown5; have hbel5 : Below W5.heap.size W5 w5 := zBu (zAf (zBn W5.heap.size W5) (.cells #[] 5)) (zD7 W5.drew W5.heap.size 5 (Qi _)) hgrow5; obtain ⟨ao6, cap6, hv5⟩ := zAx hown5; subst hv5)
       | (refine zCo (by rfl) _ _ 29 (by rfl) W5.heap.size 5 i0 (.int .u8 0) 1 Tryz.underlying29 hi hz0 hz1 hz2 rfl _ _ _ (by rfl) ((zD7 W5.drew W5.heap.size 5 (Qi _)).alloc (.cells #[.int .u8 (by0 : Int)] 5)) _ (B.map u8v) (by rfl) (HRB5.out.kept (zAf (zAf (zBn W5.heap.size W5) (.cells #[] 5)) (.cells #[.int .u8 (by0 : Int)] 5))) H3.out (by rw [H1.out]; unfold maxLen; omega) (by rw [H1.out]; omega) (zAf (zAf (zBn W5.heap.size W5) (.cells #[] 5)) (.cells #[.int .u8 (by0 : Int)] 5)).size ?_; intro v5 w5 hown5 hgrow5; rw [H1.out, Qj, Qk] at hown5; have hbel5 : Below W5.heap.size W5 w5 := zBu (zAf (zAf (zBn W5.heap.size W5) (.cells #[] 5)) (.cells #[.int .u8 (by0 : Int)] 5)) ((zD7 W5.drew W5.heap.size 5 (Qi _)).alloc (.cells #[.int .u8 (by0 : Int)] 5)) hgrow5; have hl5 := zM5 (r := W5.drew.heap.size) HLB.out hgrow5 (by intro h; simp [Value.ownBlock] at h); obtain ⟨ao6, cap6, hv5⟩ := zAx hown5; subst hv5)
       | (refine zCo (by rfl) _ _ 29 (by rfl) W5.heap.size 5 i0 (.int .u8 0) 1 Tryz.underlying29 hi hz0 hz1 hz2 rfl _ _ _ (by rfl) HOC.out _ (B.map u8v) (by rfl) (HRB5.out.kept (zAf (zAf (zBn W5.heap.size W5) (.cells #[.int .u8 (by0 : Int)] 5)) (.cells #[] 5))) H3.out (by rw [H1.out]; unfold maxLen; omega) (by rw [H1.out]; omega) (zAf (zAf (zBn W5.heap.size W5) (.cells #[.int .u8 (by0 : Int)] 5)) (.cells #[] 5)).size ?_; intro v5 w5 hown5 hgrow5; rw [H1.out, Qj, Qk] at hown5; have hbel5 : Below W5.heap.size W5 w5 := zBu (zAf (zAf (zBn W5.heap.size W5) (.cells #[.int .u8 (by0 : Int)] 5)) (.cells #[] 5)) HOC.out hgrow5; have hl5 := zM5 (r := W5.heap.size + 1) ((zMv W5.drew #[.int .u8 (by0 : Int)] 5 1 [u8v by0] rfl rfl (by decide)).kept (zAc _ (.cells #[] 5))) hgrow5 (by intro h; simp [Value.ownBlock] at h); obtain ⟨ao6, cap6, hv5⟩ := zAx hown5; subst hv5))
      all_goals
       have q0 : AnyS (colsN a1) ys 0 w6 (.slice a0 len0 cap0) := ⟨raw, a0, len0, cap0, rfl, HL0.out.symm, HRR5.out.kept hbel6, H256.out, by rw [HL0.out]; omega, (fun h => by omega), (fun h => by omega)⟩
       have q1 : AnyS (colsN a1) ys 1 w6 (.slice ao5 bl cap5) := ⟨ys, ao5, bl, cap5, rfl, HYL.out.symm, HRY5.out.kept hbel6, HY256.out, by rw [HYL.out]; omega, (fun _ => rfl), (fun h => by omega)⟩
       have q2 : AnyS (colsN a1) ys 2 w6 (.slice ab k cb) := ⟨B.take k, ab, k, cb, rfl, by rw [Qp, HBL.out]; omega, by rw [List.map_take]; exact zG3 (HRB5.out.kept hbel6) hk, fun x hx => HB8.out x (List.mem_of_mem_take hx), by rw [Qp, HBL.out]; omega, (fun h => by omega), fun _ => zVe HNE.out HBO.out (by rw [HBL.out]; exact hk) (fun h => by rw [HBL.out] at h; exact List.length_eq_zero_iff.1 (by rw [HBL.out]; exact HK0.out h))⟩
       have q3 : AnyS (colsN a1) ys 3 w6 (.slice ao7 (bl + 1) cap7) := ⟨B ++ [by0], ao7, bl + 1, cap7, rfl, by rw [Qn, HBL.out]; rfl, by rw [Qq]; exact Rd.of_owns hown6, by
        intro x hx
        rcases List.mem_append.1 hx with h | h
        ·exact HB8.out x h
        ·simp at h; rw [h]; exact hby, by rw [Qn, HBL.out]; simp; omega, (fun h => by omega), fun _ => zTm HNE.out HBO.out⟩
       have HRW := hid (zVd (colsN a1) ys w6 _ _ _ _ 29 q0 q1 q2 q3)
       have HBW6 := hid (zAf hbel6 (.cells #[.slice a0 len0 cap0, .slice ao5 bl cap5, .slice ab k cb, .slice ao7 (bl + 1) cap7] 29))
       clear hown5 hgrow5 hbel5 hown6 hgrow6 hbel6 q0 q1 q2 q3
       go_wp2_with fail
       go_meet
       exact ⟨_, rfl, rfl, rfl, HRW.out, HBW6.out⟩
     case rest =>
      obtain ⟨fg, rfl, rfl, rfl, hfour, hbel⟩ := hcut
      obtain ⟨W7, hW7⟩ : ∃ W7 : World, W7 = wc := ⟨_, rfl⟩
      rw [<- hW7] at hbel hfour ⊢
      clear hW7
      have HF := hid hfour
      have HB7 := hid (zAa HB5W.out hbel)
      have HRB7 := hid (HRB5.out.kept hbel)
      have HRY7 := hid (HRY5.out.kept hbel)
      clear hbel hfour HB5W HRB5 HRY5 HRR5 hk hk3 hcapc
      go_wp2_with fail
      go_loopw [76] (fun i wr => ∃ j : Nat, j <= 4 ∧ i = .int .i64 (j : Int) ∧ Below W7.heap.size W7 wr) (fun i _ => 4 - (intOf i).toNat)
      case atStart => exact ⟨0, by omega, rfl, Qg _ _⟩
      case round =>
       obtain ⟨j, hj, rfl, hbel⟩ := hrel
       obtain ⟨wj, hwj⟩ : ∃ wj : World, wj = wr := ⟨_, rfl⟩
       rw [<- hwj] at hbel ⊢
       clear hwj
       have HBJ := hid hbel
       by_cases hlt5 : j < 4
       ·have hdj : decide ((j : Int) < 4) = true := by simp; omega
        have hj0 : (0 : Int) <= (j : Int) := by omega
        have hj4 : (j : Int) < 4 := by omega
        obtain ⟨v, hx, hv⟩ := HF.out.kept hbel j hlt5
        obtain ⟨bs, ax, nx, cx, rfl, hnx, hrx, hx8, hxl, hx1, hx2⟩ := hv
        have HNX := hid hnx
        have HRX := hid hrx
        have HX8 := hid hx8
        have HXL := hid hxl
        have HX1 := hid hx1
        have HX2 := hid hx2
        have HB2J := hid (HB7.out.trans (HBJ.out.mono HB7.out.size))
        have hcs := HCS.out wj HB2J.out
        have HOP := hid (zMk (colsN a1) (zJh a1) bs (.slice so m sc) (.slice ax nx cx) wj (RdC.kept HC2.out HB2J.out) HRX.out HX8.out (by have := HXL.out; omega))
        clear hbel hnx hrx hx8 hxl hx1 hx2
        go_wp2_with fail
        refine HOP.out.mono ?_
        rintro e W6 ⟨h | h, hb6⟩
        ·obtain ⟨R, g, hrc, hbs, rfl, hseg⟩ := h
         have hj1 : ¬ (1 : Int) < (j : Int) := fun h => HX2.out (by omega) R hrc hbs
         have hj1d : decide ((1 : Int) < (j : Int)) = false := decide_eq_false hj1
         have HRC := hid hrc
         have HSEG := hid hseg
         have HBS := hid hbs
         have HB6 := hid hb6
         have HBJ6 := hid (zAa HBJ.out hb6)
         have HRX6 := hid (HRX.out.kept hb6)
         obtain ⟨T, hT⟩ : ∃ T, T = txtOf bs := ⟨_, rfl⟩
         have HT := hid hT
         obtain ⟨N, hN⟩ : ∃ N, N = R.length := ⟨_, rfl⟩
         have HN := hid hN
         have hN1 : 1 <= N := by rw [hN]; exact hrc.ne
         have hN64 : N <= 64 := by rw [hN]; exact hrc.le
         have hNi1 : ¬ (N : Int) < 1 := by omega
         have hNi64 : ¬ (64 : Int) < (N : Int) := by omega
         have hNd1 : decide ((N : Int) < 1) = false := decide_eq_false hNi1
         have hNd64 : decide ((64 : Int) < (N : Int)) = false := decide_eq_false hNi64
         have HC0 := hid (show ∀ w', Below W6.heap.size W6 w' -> w'.cell? ⟨g, 0, none⟩ = some (.int .i64 (N : Int)) from fun w' h => by
          obtain ⟨_, zv, kv, tv, hgx, _⟩ := (HSEG.out.kept h).blk
          rw [Qt w' g 0 _ _ _ hgx, HN.out]
          rfl)
         have HKP := hid (show ∀ w', Below W6.heap.size W6 w' -> w'.cell? ⟨g, 0, none⟩ = some (.int .i64 (N : Int)) ∧ (Go.convert 29 9 (.slice ax nx cx)).run Tryz.prog w' = .ok (.string T) w' ∧ Below W6.heap.size W6 w' from fun w' h => ⟨HC0.out w' h, by rw [HT.out]; exact zB4 (P := Tryz.prog) w' 29 9 5 Tryz.underlying29 Tryz.underlying5 Tryz.underlying9 (HRX6.out.kept h) HX8.out, h⟩)
         have HBY := hid (show ∀ w', Below W6.heap.size W6 w' -> Calls Tryz.prog 17 #[.pointer (some ⟨g, 0, none⟩)] w' fun e w'' => ∃ (a7 : Option Addr) (c7 : Nat), e = .returned (.slice a7 nx c7) ∧ Rd w'' (.slice a7 nx c7) (bs.map u8v) ∧ Below W6.heap.size W6 w'' from fun w' h => by
          refine (zEj HRC.out HNE.out HM6.out w' (HSEG.out.kept h)).mono ?_
          rintro e w'' ⟨v7, rfl, ho7, hb7⟩
          obtain ⟨a7, c7, rfl⟩ := ho7.shape
          have h7 := ho7.rd
          rw [<- HBS.out, <- HNX.out] at h7
          exact ⟨a7, c7, by rw [<- HBS.out, <- HNX.out], h7, zAa h hb7⟩)
         clear hrc hseg hbs hb6 hT hN hx
         go_upto_region 20 with (fail)
         go_cut [136] (fun s wx => s = .bool false ∧ Below W6.heap.size W6 wx)
         case first =>
          as_aux_lemma =>
           have hS0 := Qg W6.heap.size W6
           refine wp_region_noPanic ?_
           refine wp_region_held_drew (S := fun w' => w'.cell? ⟨g, 0, none⟩ = some (.int .i64 (N : Int)) ∧ (Go.convert 29 9 (.slice ax nx cx)).run Tryz.prog w' = .ok (.string T) w' ∧ Below W6.heap.size W6 w') (by kernel_rfl) ?hS0 (fun hHeld => ?go0)
           case' hS0 => ((try dsimp only); exact HKP.out _ (by first | assumption | exact Qh (by assumption) (zAe _ _) | exact Qg _ _))
           refine wpAnyH_take (i := 0) (v := ?v0) rfl (by kernel_rfl) (by kernel_rfl) (by kernel_rfl) (fun _ _ _ h => h) (Or.inl ⟨by rfl, ?hy0⟩) (by assumption) ?_
           case' hy0 => (intro w hSw; (try dsimp only at hSw); first | (go_simp; done) | (go_simp; with_reducible rfl))
           (try simp only [Act.put, Qa, Qb, Qc, Qd, Qe, Qf])
           refine wpAnyH_take (i := 1) (v := ?v1) rfl (by kernel_rfl) (by kernel_rfl) (by kernel_rfl) (fun _ _ _ h => h) (Or.inl ⟨by rfl, ?hy1⟩) (by assumption) ?_
           case' hy1 => (intro w hSw; (try dsimp only at hSw); first | (go_simp; done) | (go_simp; with_reducible rfl))
           (try simp only [Act.put, Qa, Qb, Qc, Qd, Qe, Qf])
           refine wpAnyH_take (i := 2) (v := ?v2) rfl (by kernel_rfl) (by kernel_rfl) (by kernel_rfl) (fun _ _ _ h => h) (Or.inl ⟨by rfl, ?hy2⟩) (by assumption) ?_
           case' hy2 => (intro w hSw; (try dsimp only at hSw); first | (go_simp; done) | (go_simp; with_reducible rfl))
           (try simp only [Act.put, Qa, Qb, Qc, Qd, Qe, Qf])
           refine wpAnyH_take (i := 3) (v := ?v3) rfl (by kernel_rfl) (by kernel_rfl) (by kernel_rfl) (fun _ _ _ h => h) (Or.inl ⟨by rfl, ?hy3⟩) (by assumption) ?_
           case' hy3 => (intro w hSw; (try dsimp only at hSw); first | (go_simp; done) | (go_simp; with_reducible rfl))
           (try simp only [Act.put, Qa, Qb, Qc, Qd, Qe, Qf])
           refine wpAnyH_take (i := 4) (v := ?v4) rfl (by kernel_rfl) (by kernel_rfl) (by kernel_rfl) (fun _ _ _ h => h) (Or.inl ⟨by rfl, ?hy4⟩) (by assumption) ?_
           case' hy4 => (intro w hSw; (try dsimp only at hSw); first | (go_simp; done) | (go_simp; with_reducible rfl))
           (try simp only [Act.put, Qa, Qb, Qc, Qd, Qe, Qf])
           refine wpAnyH_take (i := 5) (v := ?v5) rfl (by kernel_rfl) (by kernel_rfl) (by kernel_rfl) (fun _ _ _ h => h) (Or.inl ⟨by rfl, ?hy5⟩) (by assumption) ?_
           case' hy5 => (intro w hSw; (try dsimp only at hSw); first | (go_simp; done) | (go_simp; with_reducible rfl))
           (try simp only [Act.put, Qa, Qb, Qc, Qd, Qe, Qf])
           refine wpAnyH_take (i := 6) (v := ?v6) rfl (by kernel_rfl) (by kernel_rfl) (by kernel_rfl) (fun _ _ _ h => h) (Or.inl ⟨by rfl, ?hy6⟩) (by assumption) ?_
           case' hy6 => (intro w hSw; (try dsimp only at hSw); first | (go_simp; done) | (go_simp; with_reducible rfl))
           (try simp only [Act.put, Qa, Qb, Qc, Qd, Qe, Qf])
           refine wpAnyH_take (i := 7) (v := ?v7) rfl (by kernel_rfl) (by kernel_rfl) (by kernel_rfl) (fun _ _ _ h => h) (Or.inl ⟨by rfl, ?hy7⟩) (by assumption) ?_
           case' hy7 => (intro w hSw; (try dsimp only at hSw); first | (go_simp; done) | (go_simp; with_reducible rfl))
           (try simp only [Act.put, Qa, Qb, Qc, Qd, Qe, Qf])
           refine wpAnyH_take (i := 10) (v := ?v10) rfl (by kernel_rfl) (by kernel_rfl) (by kernel_rfl) (fun _ _ _ h => h) (Or.inl ⟨by rfl, ?hy10⟩) (by assumption) ?_
           case' hy10 => (intro w hSw; (try dsimp only at hSw); first | (go_simp; done) | (go_simp; with_reducible rfl))
           (try simp only [Act.put, Qa, Qb, Qc, Qd, Qe, Qf])
           refine wpAnyH_take (i := 11) (v := ?v11) rfl (by kernel_rfl) (by kernel_rfl) (by kernel_rfl) (fun _ _ _ h => h) (Or.inl ⟨by rfl, ?hy11⟩) (by assumption) ?_
           case' hy11 => (intro w hSw; (try dsimp only at hSw); first | (go_simp; done) | (go_simp; with_reducible rfl))
           (try simp only [Act.put, Qa, Qb, Qc, Qd, Qe, Qf])
           refine wpAnyH_ready (rs := [8]) (by kernel_rfl) (by simp) ?_
           refine AllReadyH.cons (o := _) rfl (fun K8 hK8 => ?_) AllReadyH.nil
           go_simp
           (go_at_call 17; refine (HBY.out _ (by first | assumption | exact Qh (by assumption) (zAe _ _) | exact zAe _ _ | exact Qg _ _)).mono ?_; rintro e w7 ⟨a7, c7, rfl, ho7, hb7⟩; have hS7 : Below W6.heap.size W6 w7 := hb7; have hcv7 := zB4 (P := Tryz.prog) w7 29 9 5 Tryz.underlying29 Tryz.underlying5 Tryz.underlying9 ho7 HX8.out; rw [<- HT.out] at hcv7)
           refine hK8.out _ _ ?hS8 (fun hHeld8 => ?_)
           case' hS8 => ((try dsimp only); exact HKP.out _ (by first | assumption | exact Qh (by assumption) (zAe _ _) | exact Qg _ _))
           clear hK8 K8
           (try simp only [Act.put, Qa, Qb, Qc, Qd, Qe, Qf])
           refine wpAnyH_ready (rs := [9]) (by kernel_rfl) (by simp) ?_
           refine AllReadyH.cons (o := _) rfl (fun K9 hK9 => ?_) AllReadyH.nil
           go_simp
           refine hK9.out _ _ ?hS9 (fun hHeld9 => ?_)
           case' hS9 => ((try dsimp only); exact HKP.out _ (by first | assumption | exact Qh (by assumption) (zAe _ _) | exact Qg _ _))
           clear hK9 K9
           (try simp only [Act.put, Qa, Qb, Qc, Qd, Qe, Qf])
           refine wpAnyH_take (i := 12) (v := ?v12) rfl (by kernel_rfl) (by kernel_rfl) (by kernel_rfl) (fun _ _ _ h => h) (Or.inl ⟨by rfl, ?hy12⟩) (by assumption) ?_
           case' hy12 => (intro w hSw; (try dsimp only at hSw); first | (go_simp; done) | (go_simp; with_reducible rfl))
           (try simp only [Act.put, Qa, Qb, Qc, Qd, Qe, Qf])
           refine wpAnyH_take (i := 13) (v := ?v13) rfl (by kernel_rfl) (by kernel_rfl) (by kernel_rfl) (fun _ _ _ h => h) (Or.inl ⟨by rfl, ?hy13⟩) (by assumption) ?_
           case' hy13 => (intro w hSw; (try dsimp only at hSw); first | (go_simp; done) | (go_simp; with_reducible rfl))
           (try simp only [Act.put, Qa, Qb, Qc, Qd, Qe, Qf])
           refine wpAnyH_take (i := 14) (v := ?v14) rfl (by kernel_rfl) (by kernel_rfl) (by kernel_rfl) (fun _ _ _ h => h) (Or.inl ⟨by rfl, ?hy14⟩) (by assumption) ?_
           case' hy14 => (intro w hSw; (try dsimp only at hSw); first | (go_simp; done) | (go_simp; with_reducible rfl))
           (try simp only [Act.put, Qa, Qb, Qc, Qd, Qe, Qf])
           refine wpAnyH_take (i := 15) (v := ?v15) rfl (by kernel_rfl) (by kernel_rfl) (by kernel_rfl) (fun _ _ _ h => h) (Or.inl ⟨by rfl, ?hy15⟩) (by assumption) ?_
           case' hy15 => (intro w hSw; (try dsimp only at hSw); first | (go_simp; done) | (go_simp; with_reducible rfl))
           (try simp only [Act.put, Qa, Qb, Qc, Qd, Qe, Qf])
           refine wpAnyH_take (i := 16) (v := ?v16) rfl (by kernel_rfl) (by kernel_rfl) (by kernel_rfl) (fun _ _ _ h => h) (Or.inl ⟨by rfl, ?hy16⟩) (by assumption) ?_
           case' hy16 => (intro w hSw; (try dsimp only at hSw); first | (go_simp; done) | (go_simp; with_reducible rfl))
           (try simp only [Act.put, Qa, Qb, Qc, Qd, Qe, Qf])
           refine wpAnyH_take (i := 17) (v := ?v17) rfl (by kernel_rfl) (by kernel_rfl) (by kernel_rfl) (fun _ _ _ h => h) (Or.inl ⟨by rfl, ?hy17⟩) (by assumption) ?_
           case' hy17 => (intro w hSw; (try dsimp only at hSw); first | (go_simp; done) | (go_simp; with_reducible rfl))
           (try simp only [Act.put, Qa, Qb, Qc, Qd, Qe, Qf])
           refine wpAnyH_take (i := 18) (v := ?v18) rfl (by kernel_rfl) (by kernel_rfl) (by kernel_rfl) (fun _ _ _ h => h) (Or.inl ⟨by rfl, ?hy18⟩) (by assumption) ?_
           case' hy18 => (intro w hSw; (try dsimp only at hSw); first | (go_simp; done) | (go_simp; with_reducible rfl))
           (try simp only [Act.put, Qa, Qb, Qc, Qd, Qe, Qf])
           refine wpAnyH_take (i := 19) (v := ?v19) rfl (by kernel_rfl) (by kernel_rfl) (by kernel_rfl) (fun _ _ _ h => h) (Or.inl ⟨by rfl, ?hy19⟩) (by assumption) ?_
           case' hy19 => (intro w hSw; (try dsimp only at hSw); first | (go_simp; done) | (go_simp; with_reducible rfl))
           (try simp only [Act.put, Qa, Qb, Qc, Qd, Qe, Qf])
           refine wpAnyH_take (i := 20) (v := ?v20) rfl (by kernel_rfl) (by kernel_rfl) (by kernel_rfl) (fun _ _ _ h => h) (Or.inl ⟨by rfl, ?hy20⟩) (by assumption) ?_
           case' hy20 => (intro w hSw; (try dsimp only at hSw); first | (go_simp; done) | (go_simp; with_reducible rfl))
           (try simp only [Act.put, Qa, Qb, Qc, Qd, Qe, Qf])
           refine wpAnyH_take (i := 21) (v := ?v21) rfl (by kernel_rfl) (by kernel_rfl) (by kernel_rfl) (fun _ _ _ h => h) (Or.inl ⟨by rfl, ?hy21⟩) (by assumption) ?_
           case' hy21 => (intro w hSw; (try dsimp only at hSw); first | (go_simp; done) | (go_simp; with_reducible rfl))
           (try simp only [Act.put, Qa, Qb, Qc, Qd, Qe, Qf])
           refine wpAnyH_take (i := 22) (v := ?v22) rfl (by kernel_rfl) (by kernel_rfl) (by kernel_rfl) (fun _ _ _ h => h) (Or.inl ⟨by rfl, ?hy22⟩) (by assumption) ?_
           case' hy22 => (intro w hSw; (try dsimp only at hSw); first | (go_simp; done) | (go_simp; with_reducible rfl))
           (try simp only [Act.put, Qa, Qb, Qc, Qd, Qe, Qf])
           refine wpAnyH_take (i := 23) (v := ?v23) rfl (by kernel_rfl) (by kernel_rfl) (by kernel_rfl) (fun _ _ _ h => h) (Or.inl ⟨by rfl, ?hy23⟩) (by assumption) ?_
           case' hy23 => (intro w hSw; (try dsimp only at hSw); first | (go_simp; done) | (go_simp; with_reducible rfl))
           (try simp only [Act.put, Qa, Qb, Qc, Qd, Qe, Qf])
           refine wpAnyH_take (i := 24) (v := ?v24) rfl (by kernel_rfl) (by kernel_rfl) (by kernel_rfl) (fun _ _ _ h => h) (Or.inl ⟨by rfl, ?hy24⟩) (by assumption) ?_
           case' hy24 => (intro w hSw; (try dsimp only at hSw); first | (go_simp; done) | (go_simp; with_reducible rfl))
           (try simp only [Act.put, Qa, Qb, Qc, Qd, Qe, Qf])
           refine wpAnyH_take (i := 25) (v := ?v25) rfl (by kernel_rfl) (by kernel_rfl) (by kernel_rfl) (fun _ _ _ h => h) (Or.inl ⟨by rfl, ?hy25⟩) (by assumption) ?_
           case' hy25 => (intro w hSw; (try dsimp only at hSw); first | (go_simp; done) | (go_simp; with_reducible rfl))
           (try simp only [Act.put, Qa, Qb, Qc, Qd, Qe, Qf])
           refine wpAnyH_take (i := 26) (v := ?v26) rfl (by kernel_rfl) (by kernel_rfl) (by kernel_rfl) (fun _ _ _ h => h) (Or.inl ⟨by rfl, ?hy26⟩) (by assumption) ?_
           case' hy26 => (intro w hSw; (try dsimp only at hSw); first | (go_simp; done) | (go_simp; with_reducible rfl))
           (try simp only [Act.put, Qa, Qb, Qc, Qd, Qe, Qf])
           refine wpAnyH_take (i := 27) (v := ?v27) rfl (by kernel_rfl) (by kernel_rfl) (by kernel_rfl) (fun _ _ _ h => h) (Or.inl ⟨by rfl, ?hy27⟩) (by assumption) ?_
           case' hy27 => (intro w hSw; (try dsimp only at hSw); first | (go_simp; done) | (go_simp; with_reducible rfl))
           (try simp only [Act.put, Qa, Qb, Qc, Qd, Qe, Qf])
           refine wpAnyH_take (i := 28) (v := ?v28) rfl (by kernel_rfl) (by kernel_rfl) (by kernel_rfl) (fun _ _ _ h => h) (Or.inl ⟨by rfl, ?hy28⟩) (by assumption) ?_
           case' hy28 => (intro w hSw; (try dsimp only at hSw); first | (go_simp; done) | (go_simp; with_reducible rfl))
           (try simp only [Act.put, Qa, Qb, Qc, Qd, Qe, Qf])
           refine wpAnyH_take (i := 29) (v := ?v29) rfl (by kernel_rfl) (by kernel_rfl) (by kernel_rfl) (fun _ _ _ h => h) (Or.inl ⟨by rfl, ?hy29⟩) (by assumption) ?_
           case' hy29 => (intro w hSw; (try dsimp only at hSw); first | (go_simp; done) | (go_simp; with_reducible rfl))
           (try simp only [Act.put, Qa, Qb, Qc, Qd, Qe, Qf])
           refine wpAnyH_done (by kernel_rfl) ?_ _
           refine NoPanic.normal ?_
           all_goals
            go_wp2_with fail
            go_meet
            exact ⟨rfl, by first | exact hS7 | exact zAo hS7 | exact zAo (zAo hS7)⟩
         case rest =>
          obtain ⟨rfl, hb8⟩ := hcut
          obtain ⟨W8, hW8⟩ : ∃ W8 : World, W8 = wc := ⟨_, rfl⟩
          rw [<- hW8] at hb8 ⊢
          clear hW8
          have HB8W := hid hb8
          have HSEG8 := hid (HSEG.out.kept hb8)
          have HB78 := hid (zAa HBJ6.out hb8)
          have HB28 := hid (HB7.out.trans (HB78.out.mono HB7.out.size))
          have HRX8 := hid (HRX6.out.kept hb8)
          clear hb8 HBY HKP hcs HOP
          go_wp2_with fail
          go_loopw [21, 22] (fun o i wr => ∃ (q : Nat) (sls : List Value) (L : List (List (Vc × Value))) (ao : Option Addr) (cap : Nat), q <= N ∧ i = .int .i64 (q : Int) ∧ o = .slice ao q cap ∧ L.length = q ∧ L.map (fun l => l.map Prod.fst) = R.take q ∧ RowsB W8.heap.size wr (.slice ao q cap) sls L ∧ Below W8.heap.size W8 wr) (fun _ i _ => N - (intOf i).toNat)
          case atStart => exact ⟨0, [], [], none, 0, Nat.zero_le _, rfl, rfl, rfl, rfl, zMl _ _, Qg _ _⟩
          case round =>
           obtain ⟨q, sls, L, ao, cap, hq, rfl, rfl, hll, hlm, hrb, hb⟩ := hrel
           have HLL := hid hll
           have HLM := hid hlm
           have HRBq := hid hrb
           have HBq := hid hb
           have hc0 := HC0.out wr (zAa HB8W.out hb)
           have hcsq := HCS.out wr (zAa HB28.out hb)
           obtain ⟨wq, hwq⟩ : ∃ wq : World, wq = wr := ⟨_, rfl⟩
           rw [<- hwq] at HRBq HBq hc0 hcsq ⊢
           clear hll hlm hrb hb hwq
           by_cases hlt : q < N
           ·have hlti : (q : Int) < (N : Int) := by omega
            have hltd : decide ((q : Int) < (N : Int)) = true := decide_eq_true hlti
            obtain ⟨r, hr⟩ : ∃ r, R[q]? = some r := ⟨_, Qm (by rw [<- HN.out]; exact hlt)⟩
            have hra : rowAt R (q : Int) = some r := by unfold rowAt; rw [if_pos (by omega), Int.toNat_natCast]; exact hr
            have HROW := hid (zOi HRC.out HNE.out HM6.out (q : Int) wq (HSEG8.out.kept HBq.out))
            rw [hra] at HROW
            have HRR := hid hr
            have hrm : r.length = m := by rw [HRC.out.len r (Qr hr), HM.out]
            have hfit : fitsR (colsN a1) r = true := by
             have h := zG2 HRC.out
             unfold rowsB at h
             simp only [Bool.and_eq_true] at h
             exact List.all_eq_true.1 h.2 r (Qr hr)
            have HFIT := hid hfit
            have HRM := hid hrm
            have hm1 : 0 < m := by rw [HM.out]; exact HNE.out
            clear hra hr hfit hrm
            go_wp2_with fail
            refine HROW.out.mono ?_
            rintro e w9 ⟨hret, hb9⟩
            obtain ⟨yv, yl, rfl, hyl, how⟩ := hret
            have hylm : yl.length = m := by have := congrArg Qo hyl; rw [Ql] at this; have := HRM.out; omega
            obtain ⟨yg, yc, hyv⟩ := Joins.ownsRow_form how.row (by omega)
            rw [hylm] at hyv
            subst hyv
            have HYL := hid hyl
            have HYM := hid hylm
            have HOW := hid how
            have HB9 := hid hb9
            have hcs9 := HCS.out w9 (zAa (zAa HB28.out HBq.out) hb9)
            have HFI := hid (zTl (.slice so m sc) (.slice (some ⟨yg, 0, none⟩) m yc) (colsN a1) r w9 (RdC.kept HC2.out (zAa (zAa HB28.out HBq.out) hb9)) ⟨yl, hyl, how.ownV.rdP⟩ (by have := HM6.out; omega) (by have := HRM.out; have := HM6.out; have := HM.out; omega))
            rw [HFIT.out] at HFI
            clear hyl hylm how hb9 hc0 hcsq
            go_wp2_with fail
            refine HFI.out.mono ?_
            rintro e w10 ⟨rfl, hb10⟩
            have HB10 := hid (zAa HB9.out hb10)
            have HOW10 := hid (HOW.out.keptB hb10)
            clear hb10 hcs9
            have HPL := hid (show (L ++ [yl]).map (fun l => l.map Prod.fst) = R.take (q + 1) by
             rw [Qq, HLM.out, List.take_succ_eq_append_getElem (by rw [<- HN.out]; exact hlt), List.map_cons, List.map_nil, HYL.out]
             congr 2
             exact Option.some.inj (HRR.out.symm.trans (Qm _)))
            have HRD := hid (zBc w10 #[.slice (some ⟨yg, 0, none⟩) m yc] 27 1 rfl)
            have HON := hid (show Ones 1 [[Value.slice (some ⟨yg, 0, none⟩) m yc]] from fun t ht => by rw [Qs.1 ht]; exact ⟨rfl, fun u hu => by rw [Qs.1 hu]; rfl⟩)
            have HOWN := hid (show (w10.alloc (.cells #[.slice (some ⟨yg, 0, none⟩) m yc] 27)).ownsRow W8.heap.size 27 1 (.slice ao q cap) q sls from by
             have h := (HRBq.out.kept HB10.out).own
             rw [HLL.out] at h
             exact h.alloc _)
            have HSZ := hid (show W8.heap.size <= (w10.alloc (.cells #[.slice (some ⟨yg, 0, none⟩) m yc] 27)).heap.size by have := HBq.out.size; have := HB10.out.size; simp; omega)
            go_wp2_with (at_builtin; go_must (refine zAg zPw rfl _ _ rfl W8.heap.size _ _ _ rfl HOWN.out _ [[.slice (some ⟨yg, 0, none⟩) m yc]] rfl HRD.out HON.out (by simp; omega) HSZ.out (q + 1) rfl ?_); intro ao4 cap4 w4 hown4 hgrow4 hnew4; have HO4 := hid hown4; have HG4 := hid hgrow4; have HN4 := hid hnew4; clear hown4 hgrow4 hnew4)
            go_roundw
            case rel =>
             refine ⟨q + 1, sls ++ [.slice (some ⟨yg, 0, none⟩) m yc], L ++ [yl], ao4, cap4, by omega, by go_num, rfl, by rw [Qn, HLL.out]; rfl, HPL.out, ?_, ?_⟩
             ·exact RowsB.add HRBq.out HBq.out.size HB10.out rfl HOW10.out.row (fun t ht => ⟨zG6 (HOW10.out.els t ht).1, (HOW10.out.els t ht).2, HOW10.out.far ht⟩) HG4.out HN4.out (by rw [HLL.out]; exact HO4.out)
             ·exact (zAa HBq.out HB10.out).alloc (Nat.le_trans HBq.out.size HB10.out.size) _ |>.grown HG4.out HSZ.out (zAh HOWN.out)
            case measure => simp [intOf]; omega
           ·have hqN : q = N := by omega
            have hlti : ¬ (q : Int) < (N : Int) := by omega
            have hltd : decide ((q : Int) < (N : Int)) = false := decide_eq_false hlti
            have hlR : L.map (fun l => l.map Prod.fst) = R := by rw [HLM.out, hqN, HN.out, List.take_length]
            have HMK := hid (zWg a1 R HRC.out L hlR (.slice so m sc) (.slice ao q cap) wq (RdC.kept HC2.out (zAa HB28.out HBq.out)) HRBq.out.rdA.rd)
            clear hlR hqN
            go_wp2_with fail
            refine HMK.out.mono ?_
            rintro e W9 ⟨⟨g2, rfl, hseg2⟩, hb9⟩
            have HSEG2 := hid hseg2
            have HB9 := hid (zAa HBq.out hb9)
            have HRX9 := hid (HRX8.out.kept HB9.out)
            have HKP9 := hid (show ∀ w', Below W9.heap.size W9 w' -> (Go.convert 29 9 (.slice ax nx cx)).run Tryz.prog w' = .ok (.string T) w' ∧ Below W9.heap.size W9 w' from fun w' h => ⟨by rw [HT.out]; exact zB4 (P := Tryz.prog) w' 29 9 5 Tryz.underlying29 Tryz.underlying5 Tryz.underlying9 (HRX9.out.kept h) HX8.out, h⟩)
            have HBY2 := hid (show ∀ w', Below W9.heap.size W9 w' -> Calls Tryz.prog 17 #[.pointer (some ⟨g2, 0, none⟩)] w' fun e w'' => ∃ (a7 : Option Addr) (c7 : Nat), e = .returned (.slice a7 nx c7) ∧ Rd w'' (.slice a7 nx c7) (bs.map u8v) ∧ Below W9.heap.size W9 w'' from fun w' h => by
             refine (zEj HRC.out HNE.out HM6.out w' (HSEG2.out.kept h)).mono ?_
             rintro e w'' ⟨v7, rfl, ho7, hb7⟩
             obtain ⟨a7, c7, rfl⟩ := ho7.shape
             have h7 := ho7.rd
             rw [<- HBS.out, <- HNX.out] at h7
             exact ⟨a7, c7, by rw [<- HBS.out, <- HNX.out], h7, zAa h hb7⟩)
            clear hseg2 hb9 hc0 hcsq
            go_upto_region 31 with (fail)
            go_cut [183] (fun s wx => s = .bool false ∧ Below W9.heap.size W9 wx)
            case first =>
             as_aux_lemma =>
              have hS0 := Qg W9.heap.size W9
              refine wp_region_noPanic ?_
              refine wp_region_held_drew (S := fun w' => (Go.convert 29 9 (.slice ax nx cx)).run Tryz.prog w' = .ok (.string T) w' ∧ Below W9.heap.size W9 w') (by kernel_rfl) ?hSb0 (fun hHeld => ?gob0)
              case' hSb0 => ((try dsimp only); exact HKP9.out _ (by first | assumption | exact Qh (by assumption) (zAe _ _) | exact Qg _ _))
              refine wpAnyH_take (i := 0) (v := ?vb0) rfl (by kernel_rfl) (by kernel_rfl) (by kernel_rfl) (fun _ _ _ h => h) (Or.inl ⟨by rfl, ?hyb0⟩) (by assumption) ?_
              case' hyb0 => (intro w hSw; (try dsimp only at hSw); first | (go_simp; done) | (go_simp; with_reducible rfl))
              (try simp only [Act.put, Qa, Qb, Qc, Qd, Qe, Qf])
              refine wpAnyH_take (i := 1) (v := ?vb1) rfl (by kernel_rfl) (by kernel_rfl) (by kernel_rfl) (fun _ _ _ h => h) (Or.inl ⟨by rfl, ?hyb1⟩) (by assumption) ?_
              case' hyb1 => (intro w hSw; (try dsimp only at hSw); first | (go_simp; done) | (go_simp; with_reducible rfl))
              (try simp only [Act.put, Qa, Qb, Qc, Qd, Qe, Qf])
              refine wpAnyH_take (i := 2) (v := ?vb2) rfl (by kernel_rfl) (by kernel_rfl) (by kernel_rfl) (fun _ _ _ h => h) (Or.inl ⟨by rfl, ?hyb2⟩) (by assumption) ?_
              case' hyb2 => (intro w hSw; (try dsimp only at hSw); first | (go_simp; done) | (go_simp; with_reducible rfl))
              (try simp only [Act.put, Qa, Qb, Qc, Qd, Qe, Qf])
              refine wpAnyH_take (i := 3) (v := ?vb3) rfl (by kernel_rfl) (by kernel_rfl) (by kernel_rfl) (fun _ _ _ h => h) (Or.inl ⟨by rfl, ?hyb3⟩) (by assumption) ?_
              case' hyb3 => (intro w hSw; (try dsimp only at hSw); first | (go_simp; done) | (go_simp; with_reducible rfl))
              (try simp only [Act.put, Qa, Qb, Qc, Qd, Qe, Qf])
              refine wpAnyH_take (i := 4) (v := ?vb4) rfl (by kernel_rfl) (by kernel_rfl) (by kernel_rfl) (fun _ _ _ h => h) (Or.inl ⟨by rfl, ?hyb4⟩) (by assumption) ?_
              case' hyb4 => (intro w hSw; (try dsimp only at hSw); first | (go_simp; done) | (go_simp; with_reducible rfl))
              (try simp only [Act.put, Qa, Qb, Qc, Qd, Qe, Qf])
              refine wpAnyH_take (i := 5) (v := ?vb5) rfl (by kernel_rfl) (by kernel_rfl) (by kernel_rfl) (fun _ _ _ h => h) (Or.inl ⟨by rfl, ?hyb5⟩) (by assumption) ?_
              case' hyb5 => (intro w hSw; (try dsimp only at hSw); first | (go_simp; done) | (go_simp; with_reducible rfl))
              (try simp only [Act.put, Qa, Qb, Qc, Qd, Qe, Qf])
              refine wpAnyH_take (i := 6) (v := ?vb6) rfl (by kernel_rfl) (by kernel_rfl) (by kernel_rfl) (fun _ _ _ h => h) (Or.inl ⟨by rfl, ?hyb6⟩) (by assumption) ?_
              case' hyb6 => (intro w hSw; (try dsimp only at hSw); first | (go_simp; done) | (go_simp; with_reducible rfl))
              (try simp only [Act.put, Qa, Qb, Qc, Qd, Qe, Qf])
              refine wpAnyH_take (i := 7) (v := ?vb7) rfl (by kernel_rfl) (by kernel_rfl) (by kernel_rfl) (fun _ _ _ h => h) (Or.inl ⟨by rfl, ?hyb7⟩) (by assumption) ?_
              case' hyb7 => (intro w hSw; (try dsimp only at hSw); first | (go_simp; done) | (go_simp; with_reducible rfl))
              (try simp only [Act.put, Qa, Qb, Qc, Qd, Qe, Qf])
              refine wpAnyH_take (i := 10) (v := ?vb10) rfl (by kernel_rfl) (by kernel_rfl) (by kernel_rfl) (fun _ _ _ h => h) (Or.inl ⟨by rfl, ?hyb10⟩) (by assumption) ?_
              case' hyb10 => (intro w hSw; (try dsimp only at hSw); first | (go_simp; done) | (go_simp; with_reducible rfl))
              (try simp only [Act.put, Qa, Qb, Qc, Qd, Qe, Qf])
              refine wpAnyH_take (i := 11) (v := ?vb11) rfl (by kernel_rfl) (by kernel_rfl) (by kernel_rfl) (fun _ _ _ h => h) (Or.inl ⟨by rfl, ?hyb11⟩) (by assumption) ?_
              case' hyb11 => (intro w hSw; (try dsimp only at hSw); first | (go_simp; done) | (go_simp; with_reducible rfl))
              (try simp only [Act.put, Qa, Qb, Qc, Qd, Qe, Qf])
              refine wpAnyH_ready (rs := [8]) (by kernel_rfl) (by simp) ?_
              refine AllReadyH.cons (o := _) rfl (fun K8 hK8 => ?_) AllReadyH.nil
              go_simp
              (go_at_call 17; refine (HBY2.out _ (by first | assumption | exact Qh (by assumption) (zAe _ _) | exact zAe _ _ | exact Qg _ _)).mono ?_; rintro e w10 ⟨a10, c10, rfl, ho10, hb10⟩; have hS10 : Below W9.heap.size W9 w10 := hb10; have hcv10 := zB4 (P := Tryz.prog) w10 29 9 5 Tryz.underlying29 Tryz.underlying5 Tryz.underlying9 ho10 HX8.out; rw [<- HT.out] at hcv10)
              refine hK8.out _ _ ?hSb8 (fun hHeld8 => ?_)
              case' hSb8 => ((try dsimp only); exact HKP9.out _ (by first | assumption | exact Qh (by assumption) (zAe _ _) | exact Qg _ _))
              clear hK8 K8
              (try simp only [Act.put, Qa, Qb, Qc, Qd, Qe, Qf])
              refine wpAnyH_ready (rs := [9]) (by kernel_rfl) (by simp) ?_
              refine AllReadyH.cons (o := _) rfl (fun K9 hK9 => ?_) AllReadyH.nil
              go_simp
              refine hK9.out _ _ ?hSb9 (fun hHeld9 => ?_)
              case' hSb9 => ((try dsimp only); exact HKP9.out _ (by first | assumption | exact Qh (by assumption) (zAe _ _) | exact Qg _ _))
              clear hK9 K9
              (try simp only [Act.put, Qa, Qb, Qc, Qd, Qe, Qf])
              refine wpAnyH_take (i := 12) (v := ?vb12) rfl (by kernel_rfl) (by kernel_rfl) (by kernel_rfl) (fun _ _ _ h => h) (Or.inl ⟨by rfl, ?hyb12⟩) (by assumption) ?_
              case' hyb12 => (intro w hSw; (try dsimp only at hSw); first | (go_simp; done) | (go_simp; with_reducible rfl))
              (try simp only [Act.put, Qa, Qb, Qc, Qd, Qe, Qf])
              refine wpAnyH_take (i := 13) (v := ?vb13) rfl (by kernel_rfl) (by kernel_rfl) (by kernel_rfl) (fun _ _ _ h => h) (Or.inl ⟨by rfl, ?hyb13⟩) (by assumption) ?_
              case' hyb13 => (intro w hSw; (try dsimp only at hSw); first | (go_simp; done) | (go_simp; with_reducible rfl))
              (try simp only [Act.put, Qa, Qb, Qc, Qd, Qe, Qf])
              refine wpAnyH_done (by kernel_rfl) ?_ _
              refine NoPanic.normal ?_
              all_goals
               go_wp2_with fail
               go_meet
               exact ⟨rfl, by first | exact hS10 | exact zAo hS10 | exact zAo (zAo hS10)⟩
            case rest =>
             obtain ⟨rfl, hb10⟩ := hcut
             have HB10 := hid (zAa HB78.out (zAa HB9.out hb10))
             clear hb10
             go_wp2_with fail
             go_roundw
             case rel => exact ⟨j + 1, by omega, by go_num, HB10.out⟩
             case measure => simp [intOf]; omega
        ·obtain ⟨hno, rfl⟩ := h
         as_aux_lemma =>
          have HBJ6 := hid (zAa HBJ.out hb6)
          have HNO := hid hno
          clear hno hb6 hx
          by_cases hj1 : j = 1
          ·subst hj1
           by_cases hb0 : bl = 0
           ·subst hb0
            go_wp2_with fail
            go_roundw
            case rel => exact ⟨2, by omega, by go_num, HBJ6.out⟩
            case measure => simp [intOf]
           ·have hblp : (0 : Int) < (bl : Int) := by omega
            have hbld : decide ((0 : Int) < (bl : Int)) = true := decide_eq_true hblp
            have hcu := zB4 (P := Tryz.prog) W6 29 9 5 Tryz.underlying29 Tryz.underlying5 Tryz.underlying9 (HRY7.out.kept HBJ6.out) HY256.out
            have hcb := zB4 (P := Tryz.prog) W6 29 9 5 Tryz.underlying29 Tryz.underlying5 Tryz.underlying9 (HRB7.out.kept HBJ6.out) HB8.out
            have hne : ((txtOf ys).toList == (txtOf B).toList) = false := by
             rw [zId HY256.out HB8.out, beq_eq_false_iff_ne]
             intro hyb
             rcases HBO.out with h | ⟨R, hR, h⟩
             ·have := HBL.out; rw [h] at this; simp at this; omega
             ·exact HNO.out R hR ((HX1.out rfl).trans (hyb.trans h))
            obtain ⟨T1, hT1⟩ : ∃ T1, T1 = txtOf ys := ⟨_, rfl⟩
            obtain ⟨T2, hT2⟩ : ∃ T2, T2 = txtOf B := ⟨_, rfl⟩
            rw [<- hT1] at hcu hne
            rw [<- hT2] at hcb hne
            clear hT1 hT2
            go_wp2_with fail
            go_roundw
            case rel => exact ⟨2, by omega, by go_num, HBJ6.out⟩
            case measure => simp [intOf]
          ·have hj1i : ((j : Int) == 1) = false := by rw [beq_eq_false_iff_ne]; omega
           have hj1e : ¬ (j : Int) = 1 := by omega
           go_wp2_with fail
           go_roundw
           case rel => exact ⟨j + 1, by omega, by go_num, HBJ6.out⟩
           case measure => simp [intOf]; omega
       ·have hj4 : j = 4 := by omega
        subst hj4
        go_wp2_with fail
        refine (HAW.out _).mono ?_
        rintro e w6 ⟨rfl, hb6⟩
        have HB6 := hid (zAa HB2.out (zAa HB7.out (zAa HBJ.out hb6)))
        clear hb6
        go_wp2_with fail
        go_ret
        exact ⟨rfl, HB6.out⟩
end Go.Proofs.YtmpgnjhgegbdkaaGreat
