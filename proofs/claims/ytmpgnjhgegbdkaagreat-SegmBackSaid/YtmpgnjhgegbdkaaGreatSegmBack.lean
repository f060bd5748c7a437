import Derived.Test.YtmpgnjhgegbdkaaGreatLsix
import Derived.Test.YtmpgnjhgegbdkaaGreatSgz
import Derived.Test.YtmpgnjhgegbdkaaGreatSgy
import Derived.Test.YtmpgnjhgegbdkaaGreatSgi
import Derived.Test.YtmpgnjhgegbdkaaGreatZig
set_option linter.unusedVariables false
set_option linter.unusedSimpArgs false
set_option maxRecDepth 100000
set_option maxHeartbeats 40000000
namespace Go.Proofs.YtmpgnjhgegbdkaaGreat
open _root_.List renaming getElem_toArray -> Qa, getElem_cons_succ -> Qb, getElem_cons_zero -> Qc, setIfInBounds_toArray -> Qd, set_cons_zero -> Qe, set_cons_succ -> Qf, getElem?_eq_getElem -> Qi, getElem?_map -> Qj, length_map -> Ql, mem_of_getElem? -> Qm, mem_map_of_mem -> Qp, getElem?_eq_none -> Qr, length_mapIdx -> Qs, getElem?_eq_some_iff -> Qt
open Go.RowKit.Below renaming trans -> Qg, refl -> Qk
open Go.World renaming block_lt_of_cell? -> Qh
open _root_.Int renaming eq_ofNat_of_zero_le -> Qn, toNat_natCast -> Qo
open _root_.Bool renaming and_eq_true -> Qq
open Go renaming cell_of_row -> Qu
theorem tkH {P : Program} {md : Region.Mode} {ops : Array Oper} {Q : Exit -> Act -> World -> Prop} {S : World -> Prop} (i : Nat) {oi : Oper} {v : Value} {fuel : Nat} {listed : Array Bool} {a : Act} {w : World} (hi : ops[i]? = some oi)
  (hy : YieldsIf P ops S oi v a) (h : wpAnyH P md ops Q S fuel (listed.setIfInBounds i true) (a.put oi.dst v) w)
  (hs : (Region.noSelect ops && Region.free md ops listed i && (Region.ready md ops listed).contains i) = true := by kernel_rfl)
  (hQ : ∀ c a w, Q (.panic c) (a.put oi.dst v) w -> Q (.panic c) a w := by exact fun _ _ _ h => h) (hS : S w := by assumption) : wpAnyH P md ops Q S (fuel + 1) listed a w := by
 rw [Qq, Qq] at hs
 exact wpAnyH_take hi hs.1.1 hs.1.2 hs.2 hQ hy hS h
theorem zRg {P : Program} {md : Region.Mode} {ops : Array Oper} {Q : Exit -> Act -> World -> Prop} {S : World -> Prop} {fuel : Nat} {l1 l2 : Array Bool} {a : Act} {w : World} (h : l1 = l2) (k : wpAnyH P md ops Q S fuel l2 a w) : wpAnyH P md ops Q S fuel l1 a w := h ▸ k
theorem zWs {G : Prop} (S : World -> Prop) {H : Option Addr -> Nat -> Nat -> Option Addr -> Nat -> Nat -> World -> Prop} (first_ : (∀ a b c d e f w, S w -> H a b c d e f w) -> G) (rest_ : ∀ a b c d e f w, S w -> H a b c d e f w) : G := first_ rest_
open Go.Lib (hid)
open Go.RowKit
theorem zP1 {K g : Nat} {cols : List Co} {rows : List (List Vc)} {w : World} (h : SegAt K w g cols rows) : ∃ zv : Value, w.cell? ⟨g, 0, none⟩ = some (.int .i64 (rows.length : Nat)) ∧ w.cell? ⟨g, 1, none⟩ = some zv ∧ RdZ w zv (zonesT cols rows) := by
 obtain ⟨_, _, zs, ps, zv, kv, tv, h3, ⟨h4, h5⟩, _⟩ := h
 refine ⟨zv, by rw [Qu w g 0 _ _ _ h3]; rfl, by rw [Qu w g 1 _ _ _ h3]; rfl, ?_⟩
 rw [<- h5]
 exact h4.rd
def l9B : Array Bool := ((List.range 61).map fun i => decide (i < 13)).toArray
theorem zLh (v : Vc) : sameT v v = true := by simp [sameT]
theorem zMu : ∀ x : List Vc, sameR x x = true
 | [] => rfl
 | a :: r => by rw [sameR, zMu r, Bool.and_true]; exact zLh a
theorem zRh {cols : List Co} {R : List (List Vc)} (hlen : ∀ r ∈ R, r.length = cols.length) (C I : Int) : (∃ (c j : Nat) (r : List Vc) (v : Vc), C = (c : Int) ∧ I = (j : Int) ∧ c < cols.length ∧ R[j]? = some r ∧ r[c]? = some v ∧ segV cols R C I = some v) ∨ (segV cols R C I = none ∧ (C < 0 ∨ (cols.length : Int) <= C ∨ I < 0 ∨ (R.length : Int) <= I)) := by
 by_cases hC : 0 <= C ∧ C < (cols.length : Int)
 ·by_cases hI : 0 <= I ∧ I < (R.length : Int)
  ·obtain ⟨c, rfl⟩ := Qn hC.1
   obtain ⟨j, rfl⟩ := Qn hI.1
   have hj : j < R.length := by omega
   have hc : c < (R[j]'hj).length := by rw [hlen _ (List.getElem_mem hj)]; omega
   refine .inl ⟨c, j, R[j]'hj, (R[j]'hj)[c]'hc, rfl, rfl, by omega, Qi hj, Qi hc, ?_⟩
   unfold segV valAt colVs
   rw [if_pos hC, if_pos hI.1, Qo, Qo, Qj, Qi hj, Option.map_some, List.getD_eq_getElem?_getD, Qi hc]
   rfl
  ·refine .inr ⟨?_, by omega⟩
   unfold segV valAt
   rw [if_pos hC]
   split
   ·exact Qr (by rw [zAz]; omega)
   ·rfl
 ·refine .inr ⟨?_, by omega⟩
  unfold segV
  rw [if_neg hC]
theorem zJb {w : World} {v : Value} {ts : List Zt} (h : RdZ w v ts) : ∃ ao n cap, v = .slice ao n cap := by
 obtain ⟨zs, _, ⟨ao, cap, hv, _⟩, _⟩ := h
 exact ⟨ao, _, cap, hv⟩
theorem walk_SegmBack (a0 : Int) (a1 : Option Addr) (len1 cap1 : Nat) (z1 : List Int) (w : World) (w0 : (Lit.int .i64 a0).wf = true) (w1 : IsRow .i64 w a1 len1 cap1 z1) :
  Calls Tryz.prog 5 #[.int .i64 a0, .slice a1 len1 cap1] w fun e w' => e = .returned (.bool true) ∧ Below w.heap.size w w' := by
 obtain ⟨la, hla, h1, _⟩ := zTt w1
 have HLA := hid hla
 have HR1 := hid h1
 have HS := hid (zSv a0 w)
 have HOK := hid (zHx a0)
 have HAW := hid zPi
 clear hla h1 w0 w1
 go_enter Tryz.func5, Tryz.ntmps5
 go_wp2_with fail
 refine HS.out.mono ?_
 rintro e W1 ⟨so, sc, rfl, hs1, hb1⟩
 obtain ⟨m, hm⟩ : ∃ m, m = (colsN a0).length := ⟨_, rfl⟩
 have hc1 : RdC W1 _ (colsN a0) := hs1.rd
 rw [<- hm] at hs1 hc1 ⊢
 have HM := hid hm
 have HNE := hid HOK.out.ne
 have HM6 := hid HOK.out.le
 have hm6 : m <= 6 := by rw [hm]; exact HOK.out.le
 clear hm
 go_upto_region 2 with (fail)
 obtain ⟨W2, hW2⟩ : ∃ W2 : World, W2 = W1.alloc (.cells #[.slice so m sc] 24) := ⟨_, rfl⟩
 obtain ⟨SB, hSB⟩ : ∃ SB, SB = W1.heap.size := ⟨_, rfl⟩
 rw [<- hW2, <- hSB]
 have HSB := hid (show W2.heap[SB]? = some (.cells #[.slice so m sc] 24 (0, 0)) by rw [hW2, hSB]; exact heap_alloc_new W1 _)
 have hb12 : Below W1.heap.size W1 W2 := by rw [hW2]; exact zAd W1 _
 have HB2 := hid (zAa hb1 hb12)
 have HC2 := hid (RdC.kept hc1 hb12)
 have HCS := hid (show ∀ w', Below W2.heap.size W2 w' -> w'.cell? ⟨SB, 0, none⟩ = some (.slice so m sc) from fun w' h => by rw [Qu w' SB 0 _ _ _ ((h.block SB (Array.getElem?_eq_some_iff.1 HSB.out).1).trans HSB.out)]; rfl)
 have hcs2 := HCS.out W2 (Qk _ _)
 clear hs1 hc1 hb1 hb12 hW2 hSB
 go_wp2_with fail
 refine (zTk (colsN a0) HOK.out la (.slice so m sc) a1 len1 cap1 HLA.out.symm W2 HC2.out (HR1.out.kept HB2.out)).mono ?_
 rintro e W3 ⟨ra, rc, sls, L, rfl, hlm, hrb, _, hb3⟩
 obtain ⟨n, hn⟩ : ∃ n, n = L.length := ⟨_, rfl⟩
 obtain ⟨R, hR⟩ : ∃ R, R = rows9 (colsN a0) la := ⟨_, rfl⟩
 have HRE := hid hR
 have hnr : n = R.length := by rw [hn, hR, <- hlm, Ql]
 have hn40 : n <= 40 := by rw [hnr, hR]; exact zKl _ _
 have HNR := hid hnr
 have HLN := hid hn.symm
 have HLM := hid (show L.map (fun x => x.map Prod.fst) = R by rw [hR]; exact hlm)
 have HRD := hid hrb.rdA.rd
 have HLT := hid hrb.lt
 have HB3 := hid hb3
 have hcs3 := HCS.out W3 hb3
 have HMK := hid (zWa a0 la L hlm (.slice so m sc) (.slice ra L.length rc) W3 (RdC.kept HC2.out hb3) hrb.rdA.rd hrb.lt)
 rw [<- hR, <- hn] at HMK
 rw [<- hn] at HRD ⊢
 clear hlm hrb hb3 hn hR hnr hcs2
 go_wp2_with fail
 refine HMK.out.mono ?_
 rintro e W4 ⟨h | h, hb4⟩
 case inr =>
  obtain ⟨h0, rfl⟩ := h
  obtain rfl : n = 0 := by rw [HNR.out]; exact h0
  have HB4 := hid (zAa HB2.out (zAa HB3.out hb4))
  clear hb4 h0 hcs3
  go_wp2_with fail
  refine (HAW.out _).mono ?_
  rintro e w6 ⟨rfl, hb6⟩
  have HB6 := hid (zAa HB4.out hb6)
  clear hb6
  go_wp2_with fail
  go_ret
  exact ⟨rfl, HB6.out⟩
 obtain ⟨g, rfl, hrc, hseg⟩ := h
 have hn0 : 0 < n := by rw [HNR.out]; exact hrc.ne
 have hn0i : ((n : Int) == 0) = false := by rw [beq_eq_false_iff_ne]; omega
 have hn0j : ¬ (n : Int) = 0 := by omega
 have hn0n : ¬ n = 0 := by omega
 have HRC := hid hrc
 have HSEG := hid hseg
 have HB34 := hid (zAa HB3.out hb4)
 have HRD4 := hid (HRD.out.kept hb4)
 have HKP2 := hid (show ∀ w', Below W4.heap.size W4 w' -> w'.cell? ⟨SB, 0, none⟩ = some (.slice so m sc) ∧ Below W4.heap.size W4 w' from fun w' h => ⟨HCS.out w' (zAa HB34.out h), h⟩)
 have HBY := hid (show ∀ w', Below W4.heap.size W4 w' -> Calls Tryz.prog 17 #[.pointer (some ⟨g, 0, none⟩)] w' fun e w'' => ∃ (a7 : Option Addr) (n7 c7 : Nat), e = .returned (.slice a7 n7 c7) ∧ n7 = (segT (colsN a0) R).length ∧ Rd w'' (.slice a7 n7 c7) ((segT (colsN a0) R).map u8v) ∧ Below W4.heap.size W4 w'' from fun w' h => by
  refine (zFn HRC.out HNE.out HM6.out w' (HSEG.out.kept h)).mono ?_
  rintro e w'' ⟨v7, rfl, ho7, hb7⟩
  obtain ⟨a7, c7, rfl⟩ := ho7.shape
  exact ⟨a7, _, c7, rfl, rfl, ho7.rd, zAa h hb7⟩)
 have hS0 := Qk W4.heap.size W4
 clear hrc hseg hb4 hcs3
 go_upto_region 8 with (fail)
 go_cut [9, 10] (fun p b wx => ∃ h, p = .pointer (some ⟨h, 0, none⟩) ∧ b = .bool true ∧ SegAt W4.heap.size wx h (colsN a0) R ∧ Below W4.heap.size W4 wx)
 case first =>
  set_option maxRecDepth 1000000 in
  go_region_held3 (fun w' => w'.cell? ⟨SB, 0, none⟩ = some (.slice so m sc) ∧ Below W4.heap.size W4 w') (first | assumption | exact HKP2.out _ (by first | assumption | exact Qg (by assumption) (zAe _ _)))
   (first
    | (go_at_call 17; refine (HBY.out _ (by first | assumption | exact Qg (by assumption) (zAe _ _))).mono ?_; rintro e w7 ⟨a7, n7, c7, rfl, hn7, hr7, hb7⟩; have HR7 := hid hr7; clear hn7 hr7)
    | (go_at_call 19; refine (zLe (colsN a0) (zLz a0) R HRC.out (.slice so m sc) (.slice a7 n7 c7) _ (RdC.kept HC2.out (zAa HB34.out (by first | exact hb7 | exact zAo hb7))) (by first | exact HR7.out | exact HR7.out.kept (zAe _ _))).mono ?_; rintro e w8 ⟨h8, rfl, hsg8, hb8⟩; have hbw8 : Below W4.heap.size W4 w8 := zAa (by first | exact hb7 | exact zAo hb7) hb8; have HSG8 := hid hsg8; clear hsg8 hb8))
  all_goals
   go_wp2_with fail
   go_meet
   exact ⟨h8, rfl, rfl, HSG8.out.above (Above.refl _ _) (Nat.le_refl _) hb7.size, by first | exact hbw8 | exact zAo hbw8⟩
 case rest =>
  obtain ⟨h, rfl, rfl, hsh, hb5⟩ := hcut
  obtain ⟨W6, hW6⟩ : ∃ W6 : World, W6 = wc := ⟨_, rfl⟩
  rw [<- hW6] at hsh hb5 ⊢
  have HSG := hid (HSEG.out.kept hb5)
  have HSH := hid hsh
  have HRD6 := hid (HRD4.out.kept hb5)
  have HB6 := hid (zAa HB34.out hb5)
  obtain ⟨zg, hg0, hg1, hzg⟩ := zP1 (HSEG.out.kept hb5)
  obtain ⟨zh, hh0, hh1, hzh⟩ := zP1 hsh
  obtain ⟨ga, gn, gc, rfl⟩ := zJb hzg
  obtain ⟨ha, hn, hc, rfl⟩ := zJb hzh
  have hcs6 := HCS.out W6 HB6.out
  rw [<- HNR.out] at hg0 hh0
  have HZG := hid hzg
  have HZH := hid hzh
  obtain ⟨T, hT⟩ : ∃ T, T = txtOf (segT (colsN a0) R) := ⟨_, rfl⟩
  have HT := hid hT
  have HKP := hid (show ∀ w', Below W6.heap.size W6 w' -> w'.cell? ⟨SB, 0, none⟩ = some (.slice so m sc) ∧ w'.cell? ⟨g, 0, none⟩ = some (.int .i64 (n : Int)) ∧ w'.cell? ⟨g, 1, none⟩ = some (.slice ga gn gc) ∧ w'.cell? ⟨h, 0, none⟩ = some (.int .i64 (n : Int)) ∧ w'.cell? ⟨h, 1, none⟩ = some (.slice ha hn hc) ∧ Below W6.heap.size W6 w' from fun w' hw => ⟨(hw.cell (Qh _ _ hcs6)).trans hcs6, (hw.cell (Qh _ _ hg0)).trans hg0, (hw.cell (Qh _ _ hg1)).trans hg1, (hw.cell (Qh _ _ hh0)).trans hh0, (hw.cell (Qh _ _ hh1)).trans hh1, hw⟩)
  have HBH := hid (show ∀ (x : Nat), (x = g ∨ x = h) -> ∀ w', Below W6.heap.size W6 w' -> Calls Tryz.prog 17 #[.pointer (some ⟨x, 0, none⟩)] w' fun e w'' => ∃ (a7 : Option Addr) (n7 c7 : Nat), e = .returned (.slice a7 n7 c7) ∧ Rd w'' (.slice a7 n7 c7) ((segT (colsN a0) R).map u8v) ∧ Below w'.heap.size w' w'' ∧ Below W6.heap.size W6 w'' from fun x hx w' hw => by
   have hsx : ∃ K, SegAt K w' x (colsN a0) R := by
    rcases hx with rfl | rfl
    ·exact ⟨_, HSG.out.kept hw⟩
    ·exact ⟨_, HSH.out.kept hw⟩
   obtain ⟨K, hsx⟩ := hsx
   refine (zFn HRC.out HNE.out HM6.out w' hsx).mono ?_
   rintro e w'' ⟨v7, rfl, ho7, hb7⟩
   obtain ⟨a7, c7, rfl⟩ := ho7.shape
   exact ⟨a7, _, c7, rfl, ho7.rd, hb7, zAa hw hb7⟩)
  have HZS := hid (show ∀ w', Below W6.heap.size W6 w' -> Calls Tryz.prog 21 #[.agg #[.slice so m sc], .slice ra n rc] w' fun e w'' => ∃ (a9 : Option Addr) (n9 c9 : Nat), e = .returned (.slice a9 n9 c9) ∧ RdZ w'' (.slice a9 n9 c9) (zonesT (colsN a0) R) ∧ Below W6.heap.size W6 w'' from fun w' hw => by
   have hlen : ∀ l ∈ L, l.map Prod.fst ∈ R := fun l hl => by rw [<- HLM.out]; exact Qp (f := fun x : List (Vc × Value) => x.map Prod.fst) hl
   refine (zRf (colsN a0) (by have := HM6.out; omega) L (by rw [HLN.out]; omega) (.slice so m sc) (.slice ra n rc) w' (RdC.kept HC2.out (zAa HB6.out hw)) (HRD6.out.kept hw) (fun l hl => ⟨by have h := HRC.out.len _ (hlen l hl); rw [Ql] at h; exact h, fun t ht => ⟨by
    have h := hlen l hl
    rw [HRE.out] at h
    have := (zLg h t.1 (Qp ht)).2
    omega, HLT.out l hl t ht⟩⟩) (fun l hl c t co ht hco => by
    have h := HRC.out.at_ _ (hlen l hl) c co t.1 hco (by rw [Qj, ht]; rfl)
    exact ⟨h.1.k, HRC.out.ks co (Qm hco)⟩)).mono ?_
   rintro e w'' ⟨v, rfl, hz, hb⟩
   obtain ⟨a9, n9, c9, rfl⟩ := zJb hz
   rw [HLM.out] at hz
   exact ⟨a9, n9, c9, rfl, hz, zAa hw hb⟩)
  clear hsh hb5 hW6 hzg hzh hT hg0 hg1 hh0 hh1 hcs6 hS0
  go_upto_region 9 with (fail)
  go_cut [115] (fun s wx => s = .bool false ∧ Below W6.heap.size W6 wx)
  case first =>
   as_aux_lemma =>
    refine wp_region_noPanic ?_
    refine wp_region_held_drew (S := fun w' => w'.cell? ⟨SB, 0, none⟩ = some (.slice so m sc) ∧ w'.cell? ⟨g, 0, none⟩ = some (.int .i64 (n : Int)) ∧ w'.cell? ⟨g, 1, none⟩ = some (.slice ga gn gc) ∧ w'.cell? ⟨h, 0, none⟩ = some (.int .i64 (n : Int)) ∧ w'.cell? ⟨h, 1, none⟩ = some (.slice ha hn hc) ∧ Below W6.heap.size W6 w') (by kernel_rfl) ?hS0 (fun hHeld => ?go0)
    case' hS0 => ((try dsimp only); exact HKP.out _ (by first | assumption | exact Qg (by assumption) (zAe _ _) | exact zAe _ _))
    refine tkH 0 (v := ?v0) rfl (.inl ⟨by rfl, ?y0⟩) ?_
    case' y0 => (intro w hSw; first | (go_simp; done) | (go_simp; with_reducible rfl))
    (try simp only [Act.put, Qa, Qb, Qc, Qd, Qe, Qf])
    refine tkH 1 (v := ?v1) rfl (.inl ⟨by rfl, ?y1⟩) ?_
    case' y1 => (intro w hSw; first | (go_simp; done) | (go_simp; with_reducible rfl))
    (try simp only [Act.put, Qa, Qb, Qc, Qd, Qe, Qf])
    refine tkH 2 (v := ?v2) rfl (.inl ⟨by rfl, ?y2⟩) ?_
    case' y2 => (intro w hSw; first | (go_simp; done) | (go_simp; with_reducible rfl))
    (try simp only [Act.put, Qa, Qb, Qc, Qd, Qe, Qf])
    refine tkH 3 (v := ?v3) rfl (.inl ⟨by rfl, ?y3⟩) ?_
    case' y3 => (intro w hSw; first | (go_simp; done) | (go_simp; with_reducible rfl))
    (try simp only [Act.put, Qa, Qb, Qc, Qd, Qe, Qf])
    refine tkH 4 (v := ?v4) rfl (.inl ⟨by rfl, ?y4⟩) ?_
    case' y4 => (intro w hSw; first | (go_simp; done) | (go_simp; with_reducible rfl))
    (try simp only [Act.put, Qa, Qb, Qc, Qd, Qe, Qf])
    refine tkH 5 (v := ?v5) rfl (.inl ⟨by rfl, ?y5⟩) ?_
    case' y5 => (intro w hSw; first | (go_simp; done) | (go_simp; with_reducible rfl))
    (try simp only [Act.put, Qa, Qb, Qc, Qd, Qe, Qf])
    refine tkH 6 (v := ?v6) rfl (.inl ⟨by rfl, ?y6⟩) ?_
    case' y6 => (intro w hSw; first | (go_simp; done) | (go_simp; with_reducible rfl))
    (try simp only [Act.put, Qa, Qb, Qc, Qd, Qe, Qf])
    refine tkH 7 (v := ?v7) rfl (.inl ⟨by rfl, ?y7⟩) ?_
    case' y7 => (intro w hSw; first | (go_simp; done) | (go_simp; with_reducible rfl))
    (try simp only [Act.put, Qa, Qb, Qc, Qd, Qe, Qf])
    refine tkH 10 (v := ?v10) rfl (.inl ⟨by rfl, ?y10⟩) ?_
    case' y10 => (intro w hSw; first | (go_simp; done) | (go_simp; with_reducible rfl))
    (try simp only [Act.put, Qa, Qb, Qc, Qd, Qe, Qf])
    apply zWs (fun w' => w'.cell? ⟨SB, 0, none⟩ = some (.slice so m sc) ∧ w'.cell? ⟨g, 0, none⟩ = some (.int .i64 (n : Int)) ∧ w'.cell? ⟨g, 1, none⟩ = some (.slice ga gn gc) ∧ w'.cell? ⟨h, 0, none⟩ = some (.int .i64 (n : Int)) ∧ w'.cell? ⟨h, 1, none⟩ = some (.slice ha hn hc) ∧ Below W6.heap.size W6 w')
    case first_ =>
     intro key
     refine wpAnyH_ready (rs := [8]) (by kernel_rfl) (by simp) ?_
     refine AllReadyH.cons (o := _) rfl (fun K8z hK8z => ?_) AllReadyH.nil
     go_simp
     (go_at_call 17; refine (HBH.out h (.inr rfl) _ (by first | assumption | exact Qg (by assumption) (zAe _ _) | exact zAe _ _)).mono ?_; rintro e wa ⟨aa, na, ca, rfl, hra, hba0, hba⟩; have hva := zBx (P := Tryz.prog) wa 29 9 5 Tryz.underlying29 Tryz.underlying5 Tryz.underlying9 hra (zEs HRC.out); rw [<- HT.out] at hva)
     refine hK8z.out _ _ ?hS8z (fun hHeld8z => ?_)
     case' hS8z => ((try dsimp only); exact HKP.out _ (by first | assumption | exact Qg (by assumption) (zAe _ _) | exact zAe _ _))
     clear hK8z K8z
     (try simp only [Act.put, Qa, Qb, Qc, Qd, Qe, Qf])
     refine wpAnyH_ready (rs := [9, 11]) (by kernel_rfl) (by simp) ?_
     refine AllReadyH.cons (o := _) rfl (fun K9za hK9za => ?_) (AllReadyH.cons (o := _) rfl (fun K11za hK11za => ?_) AllReadyH.nil)
     ·go_simp
      refine hK9za.out _ _ ?hS9za (fun hHeld9za => ?_)
      case' hS9za => ((try dsimp only); exact HKP.out _ (by first | assumption | exact Qg (by assumption) (zAe _ _) | exact zAe _ _))
      clear hK9za K9za
      (try simp only [Act.put, Qa, Qb, Qc, Qd, Qe, Qf])
      refine wpAnyH_ready (rs := [11]) (by kernel_rfl) (by simp) ?_
      refine AllReadyH.cons (o := _) rfl (fun K11zaa hK11zaa => ?_) AllReadyH.nil
      go_simp
      (go_at_call 17; refine (HBH.out g (.inl rfl) _ (by first | assumption | exact Qg (by assumption) (zAe _ _) | exact zAe _ _)).mono ?_; rintro e wb ⟨ab, nb, cb, rfl, hrb, hbb0, hbb⟩; have hvb := zBx (P := Tryz.prog) wb 29 9 5 Tryz.underlying29 Tryz.underlying5 Tryz.underlying9 hrb (zEs HRC.out); rw [<- HT.out] at hvb; (have hva2 := zBx (P := Tryz.prog) wb 29 9 5 Tryz.underlying29 Tryz.underlying5 Tryz.underlying9 (hra.kept hbb0) (zEs HRC.out); rw [<- HT.out] at hva2))
      refine hK11zaa.out _ _ ?hS11zaa (fun hHeld11zaa => ?_)
      case' hS11zaa => ((try dsimp only); exact HKP.out _ (by first | assumption | exact Qg (by assumption) (zAe _ _) | exact zAe _ _))
      clear hK11zaa K11zaa
      (try simp only [Act.put, Qa, Qb, Qc, Qd, Qe, Qf])
      refine wpAnyH_ready (rs := [12]) (by kernel_rfl) (by simp) ?_
      refine AllReadyH.cons (o := _) rfl (fun K12zaaa hK12zaaa => ?_) AllReadyH.nil
      go_simp
      refine hK12zaaa.out _ _ ?hS12zaaa (fun hHeld12zaaa => ?_)
      case' hS12zaaa => ((try dsimp only); exact HKP.out _ (by first | assumption | exact Qg (by assumption) (zAe _ _) | exact zAe _ _))
      clear hK12zaaa K12zaaa
      (try simp only [Act.put, Qa, Qb, Qc, Qd, Qe, Qf])
      refine zRg (l2 := l9B) (by kernel_rfl) ?_
      exact key aa na ca ab nb cb _ (by assumption)
     ·go_simp
      (go_at_call 17; refine (HBH.out g (.inl rfl) _ (by first | assumption | exact Qg (by assumption) (zAe _ _) | exact zAe _ _)).mono ?_; rintro e wb ⟨ab, nb, cb, rfl, hrb, hbb0, hbb⟩; have hvb := zBx (P := Tryz.prog) wb 29 9 5 Tryz.underlying29 Tryz.underlying5 Tryz.underlying9 hrb (zEs HRC.out); rw [<- HT.out] at hvb; (have hva2 := zBx (P := Tryz.prog) wb 29 9 5 Tryz.underlying29 Tryz.underlying5 Tryz.underlying9 (hra.kept hbb0) (zEs HRC.out); rw [<- HT.out] at hva2))
      refine hK11za.out _ _ ?hS11za (fun hHeld11za => ?_)
      case' hS11za => ((try dsimp only); exact HKP.out _ (by first | assumption | exact Qg (by assumption) (zAe _ _) | exact zAe _ _))
      clear hK11za K11za
      (try simp only [Act.put, Qa, Qb, Qc, Qd, Qe, Qf])
      refine wpAnyH_ready (rs := [9, 12]) (by kernel_rfl) (by simp) ?_
      refine AllReadyH.cons (o := _) rfl (fun K9zab hK9zab => ?_) (AllReadyH.cons (o := _) rfl (fun K12zab hK12zab => ?_) AllReadyH.nil)
      ·go_simp
       refine hK9zab.out _ _ ?hS9zab (fun hHeld9zab => ?_)
       case' hS9zab => ((try dsimp only); exact HKP.out _ (by first | assumption | exact Qg (by assumption) (zAe _ _) | exact zAe _ _))
       clear hK9zab K9zab
       (try simp only [Act.put, Qa, Qb, Qc, Qd, Qe, Qf])
       refine wpAnyH_ready (rs := [12]) (by kernel_rfl) (by simp) ?_
       refine AllReadyH.cons (o := _) rfl (fun K12zaba hK12zaba => ?_) AllReadyH.nil
       go_simp
       refine hK12zaba.out _ _ ?hS12zaba (fun hHeld12zaba => ?_)
       case' hS12zaba => ((try dsimp only); exact HKP.out _ (by first | assumption | exact Qg (by assumption) (zAe _ _) | exact zAe _ _))
       clear hK12zaba K12zaba
       (try simp only [Act.put, Qa, Qb, Qc, Qd, Qe, Qf])
       refine zRg (l2 := l9B) (by kernel_rfl) ?_
       exact key aa na ca ab nb cb _ (by assumption)
      ·go_simp
       refine hK12zab.out _ _ ?hS12zab (fun hHeld12zab => ?_)
       case' hS12zab => ((try dsimp only); exact HKP.out _ (by first | assumption | exact Qg (by assumption) (zAe _ _) | exact zAe _ _))
       clear hK12zab K12zab
       (try simp only [Act.put, Qa, Qb, Qc, Qd, Qe, Qf])
       refine wpAnyH_ready (rs := [9]) (by kernel_rfl) (by simp) ?_
       refine AllReadyH.cons (o := _) rfl (fun K9zabb hK9zabb => ?_) AllReadyH.nil
       go_simp
       refine hK9zabb.out _ _ ?hS9zabb (fun hHeld9zabb => ?_)
       case' hS9zabb => ((try dsimp only); exact HKP.out _ (by first | assumption | exact Qg (by assumption) (zAe _ _) | exact zAe _ _))
       clear hK9zabb K9zabb
       (try simp only [Act.put, Qa, Qb, Qc, Qd, Qe, Qf])
       refine zRg (l2 := l9B) (by kernel_rfl) ?_
       exact key aa na ca ab nb cb _ (by assumption)
    intro aa na ca ab nb cb w9 hHeld9
    have hb9 : Below W6.heap.size W6 w9 := hHeld9.2.2.2.2.2
    refine tkH 13 (v := ?v13) rfl (.inl ⟨by rfl, ?y13⟩) ?_
    case' y13 => (intro w hSw; first | (go_simp; done) | (go_simp; with_reducible rfl))
    (try simp only [Act.put, Qa, Qb, Qc, Qd, Qe, Qf])
    refine tkH 14 (v := ?v14) rfl (.inl ⟨by rfl, ?y14⟩) ?_
    case' y14 => (intro w hSw; first | (go_simp; done) | (go_simp; with_reducible rfl))
    (try simp only [Act.put, Qa, Qb, Qc, Qd, Qe, Qf])
    refine tkH 15 (v := ?v15) rfl (.inl ⟨by rfl, ?y15⟩) ?_
    case' y15 => (intro w hSw; first | (go_simp; done) | (go_simp; with_reducible rfl))
    (try simp only [Act.put, Qa, Qb, Qc, Qd, Qe, Qf])
    refine tkH 16 (v := ?v16) rfl (.inl ⟨by rfl, ?y16⟩) ?_
    case' y16 => (intro w hSw; first | (go_simp; done) | (go_simp; with_reducible rfl))
    (try simp only [Act.put, Qa, Qb, Qc, Qd, Qe, Qf])
    refine tkH 17 (v := ?v17) rfl (.inl ⟨by rfl, ?y17⟩) ?_
    case' y17 => (intro w hSw; first | (go_simp; done) | (go_simp; with_reducible rfl))
    (try simp only [Act.put, Qa, Qb, Qc, Qd, Qe, Qf])
    refine tkH 18 (v := ?v18) rfl (.inl ⟨by rfl, ?y18⟩) ?_
    case' y18 => (intro w hSw; first | (go_simp; done) | (go_simp; with_reducible rfl))
    (try simp only [Act.put, Qa, Qb, Qc, Qd, Qe, Qf])
    refine tkH 19 (v := ?v19) rfl (.inl ⟨by rfl, ?y19⟩) ?_
    case' y19 => (intro w hSw; first | (go_simp; done) | (go_simp; with_reducible rfl))
    (try simp only [Act.put, Qa, Qb, Qc, Qd, Qe, Qf])
    refine tkH 20 (v := ?v20) rfl (.inl ⟨by rfl, ?y20⟩) ?_
    case' y20 => (intro w hSw; first | (go_simp; done) | (go_simp; with_reducible rfl))
    (try simp only [Act.put, Qa, Qb, Qc, Qd, Qe, Qf])
    refine tkH 21 (v := ?v21) rfl (.inl ⟨by rfl, ?y21⟩) ?_
    case' y21 => (intro w hSw; first | (go_simp; done) | (go_simp; with_reducible rfl))
    (try simp only [Act.put, Qa, Qb, Qc, Qd, Qe, Qf])
    refine tkH 22 (v := ?v22) rfl (.inl ⟨by rfl, ?y22⟩) ?_
    case' y22 => (intro w hSw; first | (go_simp; done) | (go_simp; with_reducible rfl))
    (try simp only [Act.put, Qa, Qb, Qc, Qd, Qe, Qf])
    refine tkH 23 (v := ?v23) rfl (.inl ⟨by rfl, ?y23⟩) ?_
    case' y23 => (intro w hSw; first | (go_simp; done) | (go_simp; with_reducible rfl))
    (try simp only [Act.put, Qa, Qb, Qc, Qd, Qe, Qf])
    refine tkH 24 (v := ?v24) rfl (.inl ⟨by rfl, ?y24⟩) ?_
    case' y24 => (intro w hSw; first | (go_simp; done) | (go_simp; with_reducible rfl))
    (try simp only [Act.put, Qa, Qb, Qc, Qd, Qe, Qf])
    refine tkH 25 (v := ?v25) rfl (.inl ⟨by rfl, ?y25⟩) ?_
    case' y25 => (intro w hSw; first | (go_simp; done) | (go_simp; with_reducible rfl))
    (try simp only [Act.put, Qa, Qb, Qc, Qd, Qe, Qf])
    refine tkH 26 (v := ?v26) rfl (.inl ⟨by rfl, ?y26⟩) ?_
    case' y26 => (intro w hSw; first | (go_simp; done) | (go_simp; with_reducible rfl))
    (try simp only [Act.put, Qa, Qb, Qc, Qd, Qe, Qf])
    refine tkH 27 (v := ?v27) rfl (.inl ⟨by rfl, ?y27⟩) ?_
    case' y27 => (intro w hSw; first | (go_simp; done) | (go_simp; with_reducible rfl))
    (try simp only [Act.put, Qa, Qb, Qc, Qd, Qe, Qf])
    refine tkH 28 (v := ?v28) rfl (.inl ⟨by rfl, ?y28⟩) ?_
    case' y28 => (intro w hSw; first | (go_simp; done) | (go_simp; with_reducible rfl))
    (try simp only [Act.put, Qa, Qb, Qc, Qd, Qe, Qf])
    refine tkH 29 (v := ?v29) rfl (.inl ⟨by rfl, ?y29⟩) ?_
    case' y29 => (intro w hSw; first | (go_simp; done) | (go_simp; with_reducible rfl))
    (try simp only [Act.put, Qa, Qb, Qc, Qd, Qe, Qf])
    refine tkH 30 (v := ?v30) rfl (.inl ⟨by rfl, ?y30⟩) ?_
    case' y30 => (intro w hSw; first | (go_simp; done) | (go_simp; with_reducible rfl))
    (try simp only [Act.put, Qa, Qb, Qc, Qd, Qe, Qf])
    refine tkH 31 (v := ?v31) rfl (.inl ⟨by rfl, ?y31⟩) ?_
    case' y31 => (intro w hSw; first | (go_simp; done) | (go_simp; with_reducible rfl))
    (try simp only [Act.put, Qa, Qb, Qc, Qd, Qe, Qf])
    refine tkH 32 (v := ?v32) rfl (.inl ⟨by rfl, ?y32⟩) ?_
    case' y32 => (intro w hSw; first | (go_simp; done) | (go_simp; with_reducible rfl))
    (try simp only [Act.put, Qa, Qb, Qc, Qd, Qe, Qf])
    refine tkH 33 (v := ?v33) rfl (.inl ⟨by rfl, ?y33⟩) ?_
    case' y33 => (intro w hSw; first | (go_simp; done) | (go_simp; with_reducible rfl))
    (try simp only [Act.put, Qa, Qb, Qc, Qd, Qe, Qf])
    refine tkH 34 (v := ?v34) rfl (.inl ⟨by rfl, ?y34⟩) ?_
    case' y34 => (intro w hSw; first | (go_simp; done) | (go_simp; with_reducible rfl))
    (try simp only [Act.put, Qa, Qb, Qc, Qd, Qe, Qf])
    refine tkH 35 (v := ?v35) rfl (.inl ⟨by rfl, ?y35⟩) ?_
    case' y35 => (intro w hSw; first | (go_simp; done) | (go_simp; with_reducible rfl))
    (try simp only [Act.put, Qa, Qb, Qc, Qd, Qe, Qf])
    refine tkH 36 (v := ?v36) rfl (.inl ⟨by rfl, ?y36⟩) ?_
    case' y36 => (intro w hSw; first | (go_simp; done) | (go_simp; with_reducible rfl))
    (try simp only [Act.put, Qa, Qb, Qc, Qd, Qe, Qf])
    refine tkH 37 (v := ?v37) rfl (.inl ⟨by rfl, ?y37⟩) ?_
    case' y37 => (intro w hSw; first | (go_simp; done) | (go_simp; with_reducible rfl))
    (try simp only [Act.put, Qa, Qb, Qc, Qd, Qe, Qf])
    refine tkH 38 (v := ?v38) rfl (.inl ⟨by rfl, ?y38⟩) ?_
    case' y38 => (intro w hSw; first | (go_simp; done) | (go_simp; with_reducible rfl))
    (try simp only [Act.put, Qa, Qb, Qc, Qd, Qe, Qf])
    refine tkH 39 (v := ?v39) rfl (.inl ⟨by rfl, ?y39⟩) ?_
    case' y39 => (intro w hSw; first | (go_simp; done) | (go_simp; with_reducible rfl))
    (try simp only [Act.put, Qa, Qb, Qc, Qd, Qe, Qf])
    refine tkH 40 (v := ?v40) rfl (.inl ⟨by rfl, ?y40⟩) ?_
    case' y40 => (intro w hSw; first | (go_simp; done) | (go_simp; with_reducible rfl))
    (try simp only [Act.put, Qa, Qb, Qc, Qd, Qe, Qf])
    refine tkH 41 (v := ?v41) rfl (.inl ⟨by rfl, ?y41⟩) ?_
    case' y41 => (intro w hSw; first | (go_simp; done) | (go_simp; with_reducible rfl))
    (try simp only [Act.put, Qa, Qb, Qc, Qd, Qe, Qf])
    refine tkH 42 (v := ?v42) rfl (.inl ⟨by rfl, ?y42⟩) ?_
    case' y42 => (intro w hSw; first | (go_simp; done) | (go_simp; with_reducible rfl))
    (try simp only [Act.put, Qa, Qb, Qc, Qd, Qe, Qf])
    refine wpAnyH_ready (rs := [43]) (by kernel_rfl) (by simp) ?_
    refine AllReadyH.cons (o := _) rfl (fun K43 hK43 => ?_) AllReadyH.nil
    go_simp
    (go_at_call 21; refine (HZS.out _ (by first | assumption | exact Qg (by assumption) (zAe _ _) | exact zAe _ _)).mono ?_; rintro e wd ⟨ad, nd, cd, rfl, hzd, hbd⟩; have hzhd := HZH.out.kept hbd)
    refine hK43.out _ _ ?hS43 (fun hHeld43 => ?_)
    case' hS43 => ((try dsimp only); exact HKP.out _ (by first | assumption | exact Qg (by assumption) (zAe _ _) | exact zAe _ _))
    clear hK43 K43
    (try simp only [Act.put, Qa, Qb, Qc, Qd, Qe, Qf])
    refine wpAnyH_ready (rs := [44]) (by kernel_rfl) (by simp) ?_
    refine AllReadyH.cons (o := _) rfl (fun K44 hK44 => ?_) AllReadyH.nil
    go_simp
    (go_at_call 20; refine (zHe _ _ (zonesT (colsN a0) R) _ (by first | exact hzhd | exact hzhd.kept (zAe _ _)) (by first | exact hzd | exact hzd.kept (zAe _ _)) (by unfold zonesT; rw [Qs]; have := HM6.out; omega)).mono ?_; rintro e we ⟨rfl, hbe0⟩; have hbe : Below W6.heap.size W6 we := (show Below W6.heap.size W6 _ from (by first | assumption | exact Qg (by assumption) (zAe _ _) | exact zAe _ _)).trans (hbe0.mono (show Below W6.heap.size W6 _ from (by first | assumption | exact Qg (by assumption) (zAe _ _) | exact zAe _ _)).size))
    refine hK44.out _ _ ?hS44 (fun hHeld44 => ?_)
    case' hS44 => ((try dsimp only); exact HKP.out _ (by first | assumption | exact Qg (by assumption) (zAe _ _) | exact zAe _ _))
    clear hK44 K44
    (try simp only [Act.put, Qa, Qb, Qc, Qd, Qe, Qf])
    refine tkH 45 (v := ?v45) rfl (.inl ⟨by rfl, ?y45⟩) ?_
    case' y45 => (intro w hSw; first | (go_simp; done) | (go_simp; with_reducible rfl))
    (try simp only [Act.put, Qa, Qb, Qc, Qd, Qe, Qf])
    refine tkH 46 (v := ?v46) rfl (.inl ⟨by rfl, ?y46⟩) ?_
    case' y46 => (intro w hSw; first | (go_simp; done) | (go_simp; with_reducible rfl))
    (try simp only [Act.put, Qa, Qb, Qc, Qd, Qe, Qf])
    refine tkH 47 (v := ?v47) rfl (.inl ⟨by rfl, ?y47⟩) ?_
    case' y47 => (intro w hSw; first | (go_simp; done) | (go_simp; with_reducible rfl))
    (try simp only [Act.put, Qa, Qb, Qc, Qd, Qe, Qf])
    refine tkH 48 (v := ?v48) rfl (.inl ⟨by rfl, ?y48⟩) ?_
    case' y48 => (intro w hSw; first | (go_simp; done) | (go_simp; with_reducible rfl))
    (try simp only [Act.put, Qa, Qb, Qc, Qd, Qe, Qf])
    refine tkH 49 (v := ?v49) rfl (.inl ⟨by rfl, ?y49⟩) ?_
    case' y49 => (intro w hSw; first | (go_simp; done) | (go_simp; with_reducible rfl))
    (try simp only [Act.put, Qa, Qb, Qc, Qd, Qe, Qf])
    refine tkH 50 (v := ?v50) rfl (.inl ⟨by rfl, ?y50⟩) ?_
    case' y50 => (intro w hSw; first | (go_simp; done) | (go_simp; with_reducible rfl))
    (try simp only [Act.put, Qa, Qb, Qc, Qd, Qe, Qf])
    refine tkH 51 (v := ?v51) rfl (.inl ⟨by rfl, ?y51⟩) ?_
    case' y51 => (intro w hSw; first | (go_simp; done) | (go_simp; with_reducible rfl))
    (try simp only [Act.put, Qa, Qb, Qc, Qd, Qe, Qf])
    refine tkH 52 (v := ?v52) rfl (.inl ⟨by rfl, ?y52⟩) ?_
    case' y52 => (intro w hSw; first | (go_simp; done) | (go_simp; with_reducible rfl))
    (try simp only [Act.put, Qa, Qb, Qc, Qd, Qe, Qf])
    refine tkH 53 (v := ?v53) rfl (.inl ⟨by rfl, ?y53⟩) ?_
    case' y53 => (intro w hSw; first | (go_simp; done) | (go_simp; with_reducible rfl))
    (try simp only [Act.put, Qa, Qb, Qc, Qd, Qe, Qf])
    refine tkH 54 (v := ?v54) rfl (.inl ⟨by rfl, ?y54⟩) ?_
    case' y54 => (intro w hSw; first | (go_simp; done) | (go_simp; with_reducible rfl))
    (try simp only [Act.put, Qa, Qb, Qc, Qd, Qe, Qf])
    refine tkH 55 (v := ?v55) rfl (.inl ⟨by rfl, ?y55⟩) ?_
    case' y55 => (intro w hSw; first | (go_simp; done) | (go_simp; with_reducible rfl))
    (try simp only [Act.put, Qa, Qb, Qc, Qd, Qe, Qf])
    refine tkH 56 (v := ?v56) rfl (.inl ⟨by rfl, ?y56⟩) ?_
    case' y56 => (intro w hSw; first | (go_simp; done) | (go_simp; with_reducible rfl))
    (try simp only [Act.put, Qa, Qb, Qc, Qd, Qe, Qf])
    refine tkH 57 (v := ?v57) rfl (.inl ⟨by rfl, ?y57⟩) ?_
    case' y57 => (intro w hSw; first | (go_simp; done) | (go_simp; with_reducible rfl))
    (try simp only [Act.put, Qa, Qb, Qc, Qd, Qe, Qf])
    refine wpAnyH_ready (rs := [58]) (by kernel_rfl) (by simp) ?_
    refine AllReadyH.cons (o := _) rfl (fun K58 hK58 => ?_) AllReadyH.nil
    go_simp
    (go_at_call 20; refine (zHe _ _ (zonesT (colsN a0) R) _ (HZG.out.kept (by first | assumption | exact Qg (by assumption) (zAe _ _) | exact zAe _ _)) (HZH.out.kept (by first | assumption | exact Qg (by assumption) (zAe _ _) | exact zAe _ _)) (by unfold zonesT; rw [Qs]; have := HM6.out; omega)).mono ?_; rintro e wf ⟨rfl, hbf0⟩; have hbf : Below W6.heap.size W6 wf := (show Below W6.heap.size W6 _ from (by first | assumption | exact Qg (by assumption) (zAe _ _) | exact zAe _ _)).trans (hbf0.mono (show Below W6.heap.size W6 _ from (by first | assumption | exact Qg (by assumption) (zAe _ _) | exact zAe _ _)).size))
    refine hK58.out _ _ ?hS58 (fun hHeld58 => ?_)
    case' hS58 => ((try dsimp only); exact HKP.out _ (by first | assumption | exact Qg (by assumption) (zAe _ _) | exact zAe _ _))
    clear hK58 K58
    (try simp only [Act.put, Qa, Qb, Qc, Qd, Qe, Qf])
    refine tkH 59 (v := ?v59) rfl (.inl ⟨by rfl, ?y59⟩) ?_
    case' y59 => (intro w hSw; first | (go_simp; done) | (go_simp; with_reducible rfl))
    (try simp only [Act.put, Qa, Qb, Qc, Qd, Qe, Qf])
    refine tkH 60 (v := ?v60) rfl (.inl ⟨by rfl, ?y60⟩) ?_
    case' y60 => (intro w hSw; first | (go_simp; done) | (go_simp; with_reducible rfl))
    (try simp only [Act.put, Qa, Qb, Qc, Qd, Qe, Qf])
    refine wpAnyH_done (by kernel_rfl) ?_ _
    refine NoPanic.normal ?_
    go_wp2_with fail
    go_meet
    exact ⟨rfl, by first | exact hbf | exact zAo hbf⟩
  case rest =>
   obtain ⟨rfl, hb7⟩ := hcut
   obtain ⟨W7, hW7⟩ : ∃ W7 : World, W7 = wc := ⟨_, rfl⟩
   rw [<- hW7] at hb7 ⊢
   have HB7 := hid (zAa HB6.out hb7)
   have HSH7 := hid (HSH.out.kept hb7)
   have HRD7 := hid (HRD6.out.kept hb7)
   clear hb7 hW7 HBH HZS HKP HBY HKP2
   go_wp2_with fail
   go_loopw [11] (fun i wr => ∃ I : Int, -1 <= I ∧ I <= (n : Int) + 1 ∧ i = .int .i64 I ∧ Below W7.heap.size W7 wr) (fun i _ => ((n : Int) + 1 - intOf i).toNat)
   case atStart => exact ⟨-1, by omega, by omega, rfl, Qk _ _⟩
   case round =>
    obtain ⟨I, hI1, hI2, rfl, hb⟩ := hrel
    have HBI := hid hb
    obtain ⟨wi, hwi⟩ : ∃ wi : World, wi = wr := ⟨_, rfl⟩
    rw [<- hwi] at HBI ⊢
    clear hb hwi
    by_cases hlt : I <= (n : Int)
    ·have hltd : decide (I <= (n : Int)) = true := decide_eq_true hlt
     have HROW := hid (zOo HRC.out HNE.out HM6.out I wi (HSH7.out.kept HBI.out))
     obtain ⟨B, hB⟩ : ∃ B : Bool, B = decide (0 <= I ∧ I < (n : Int)) := ⟨_, rfl⟩
     have HBB := hid hB
     clear hB
     go_upto_region 14 with (fail)
     go_cut [12, 13] (fun x so wx => ∃ (xa : Option Addr) (xn xc : Nat), x = .slice xa xn xc ∧ so = .bool B ∧ (B = true -> ∃ (j : Nat) (r : List Vc), I = (j : Int) ∧ j < n ∧ R[j]? = some r ∧ RdRow wx (.slice xa xn xc) r) ∧ Below wi.heap.size wi wx)
     case first =>
      go_wp2_with fail
      refine HROW.out.mono ?_
      rintro e w9 ⟨hret, hb9⟩
      by_cases hin : 0 <= I ∧ I < (n : Int)
      ·obtain ⟨j, rfl⟩ := Qn hin.1
       have hjn : j < n := by have := hin.2; omega
       obtain ⟨r, hr⟩ : ∃ r, R[j]? = some r := ⟨_, Qi (by rw [<- HNR.out]; exact hjn)⟩
       rw [show rowAt R (j : Int) = some r by unfold rowAt; rw [if_pos (by omega), Qo]; exact hr] at hret
       obtain ⟨yv, yl, rfl, hyl, how⟩ := hret
       obtain ⟨ya, yc, rfl⟩ := zBc how.row
       have HRX := hid (show ∃ (j2 : Nat) (r2 : List Vc), (j : Int) = (j2 : Int) ∧ j2 < n ∧ R[j2]? = some r2 ∧ RdRow w9 (.slice ya yl.length yc) r2 from ⟨j, r, rfl, hjn, hr, yl, hyl, how.ownV.rdP⟩)
       have HBT := hid (show B = true by rw [HBB.out]; exact decide_eq_true hin)
       have HB9 := hid hb9
       clear hr hyl how hb9 hin hjn
       go_wp2_with fail
       go_meet
       exact ⟨ya, yl.length, yc, rfl, by rw [HBT.out], fun _ => HRX.out, HB9.out⟩
      ·have HBT := hid (show B = false by rw [HBB.out]; exact decide_eq_false hin)
       rw [show rowAt R I = none by
        unfold rowAt
        split
        ·next h => exact Qr (by rw [<- HNR.out]; omega)
        ·rfl] at hret
       obtain rfl := hret
       have HB9 := hid hb9
       clear hb9 hin
       go_wp2_with fail
       go_meet
       exact ⟨none, 0, 0, rfl, by rw [HBT.out], (fun h => by rw [HBT.out] at h; cases h), HB9.out⟩
     case rest =>
      obtain ⟨xa, xn, xc, rfl, rfl, hx, hb10⟩ := hcut
      obtain ⟨w10, hw10⟩ : ∃ w10 : World, w10 = wc := ⟨_, rfl⟩
      rw [<- hw10] at hx hb10 ⊢
      have HX := hid hx
      have HB10 := hid (zAa HBI.out hb10)
      clear hx hb10 hw10 HROW
      go_upto_region 15 with (fail)
      go_cut [14] (fun s wx => s = .bool B ∧ wx = w10)
      case first =>
       rcases (by omega : I < 0 ∨ (0 <= I ∧ I < (n : Int)) ∨ (n : Int) <= I) with h | h | h
       ·have d1 : ¬ 0 <= I := by omega
        have d2 : decide (0 <= I) = false := decide_eq_false d1
        have HBT := hid (show B = false by rw [HBB.out]; exact decide_eq_false (fun h => d1 h.1))
        clear h
        go_wp2_with fail
        go_meet
        exact ⟨by rw [HBT.out], rfl⟩
       ·obtain ⟨d1, d3⟩ := h
        have d2 : decide (0 <= I) = true := decide_eq_true d1
        have d4 : decide (I < (n : Int)) = true := decide_eq_true d3
        have HBT := hid (show B = true by rw [HBB.out]; exact decide_eq_true ⟨d1, d3⟩)
        go_wp2_with fail
        go_meet
        exact ⟨by rw [HBT.out], rfl⟩
       ·have d1 : 0 <= I := by omega
        have d2 : decide (0 <= I) = true := decide_eq_true d1
        have d3 : ¬ I < (n : Int) := by omega
        have d4 : decide (I < (n : Int)) = false := decide_eq_false d3
        have HBT := hid (show B = false by rw [HBB.out]; exact decide_eq_false (fun h => d3 h.2))
        clear h
        go_wp2_with fail
        go_meet
        exact ⟨by rw [HBT.out], rfl⟩
      case rest =>
       obtain ⟨rfl, rfl⟩ := hcut
       go_upto_region 16 with (fail)
       go_cut [150] (fun s wx => s = .bool false ∧ Below wc.heap.size wc wx)
       case first =>
        have hS10 := Qk wc.heap.size wc
        cases B with
        | false =>
         go_wp2_with fail
         go_meet
         exact ⟨rfl, hS10⟩
        | true =>
         obtain ⟨j, r, rfl, hjn, hjr, hrd⟩ := HX.out rfl
         have hjni : (j : Int) < (n : Int) := by omega
         have hj0 : (0 : Int) <= (j : Int) := by omega
         obtain ⟨l, hl⟩ : ∃ l, L[j]? = some l := ⟨_, Qi (by rw [HLN.out]; exact hjn)⟩
         have hlr : l.map Prod.fst = r := by
          have h := congrArg (fun x => x[j]?) HLM.out
          simp only [Qj] at h
          rw [hl, hjr] at h
          simpa using h
         obtain ⟨rb, ro, sa1, sc1, rfl, hcell, hrp⟩ := (HRD7.out.kept HB10.out).at hl
         have hrm : r.length <= 1000000 := by have := HRC.out.len r (Qm hjr); have := HM6.out; omega
         have HSR := hid (zGt (.slice xa xn xc) (.slice sa1 l.length sc1) r r wc hrd ⟨l, hlr, hrp⟩ hrm hrm)
         rw [zMu] at HSR
         clear hl hlr hrp hrm hjr hrd
         go_wp2_with fail
         refine HSR.out.mono ?_
         rintro e w12 ⟨rfl, hb12⟩
         have HB12 := hid hb12
         clear hb12
         go_wp2_with fail
         go_meet
         exact ⟨rfl, HB12.out⟩
       case rest =>
        obtain ⟨rfl, hb11⟩ := hcut
        obtain ⟨w11, hw11⟩ : ∃ w11 : World, w11 = wc := ⟨_, rfl⟩
        rw [<- hw11] at hb11 ⊢
        have HB11 := hid (zAa HB10.out hb11)
        clear hb11 hw11 HX HB10
        go_wp2_with fail
        go_loopw [15] (fun i wr => ∃ C : Int, -1 <= C ∧ C <= (m : Int) + 1 ∧ i = .int .i64 C ∧ Below w11.heap.size w11 wr) (fun i _ => ((m : Int) + 1 - intOf i).toNat)
        case atStart => exact ⟨-1, by omega, by omega, rfl, Qk _ _⟩
        case round =>
         obtain ⟨C, hC1, hC2, rfl, hb⟩ := hrel
         have HBC := hid (zAa HB11.out hb)
         have HBC11 := hid hb
         have hcs := HCS.out wr (zAa HB7.out (zAa HB11.out hb))
         obtain ⟨wk, hwk⟩ : ∃ wk : World, wk = wr := ⟨_, rfl⟩
         rw [<- hwk] at HBC HBC11 hcs ⊢
         clear hb hwk
         by_cases hltc : C <= (m : Int)
         ·have hltcd : decide (C <= (m : Int)) = true := decide_eq_true hltc
          have HV := hid (zH4 HRC.out HNE.out HM6.out C I wk (HSH7.out.kept HBC.out))
          have hsv := zRh (cols := colsN a0) HRC.out.len C I
          rw [<- HM.out, <- HNR.out] at hsv
          rcases hsv with ⟨c, j, r, v, rfl, rfl, hcm, hjr, hrv, hsv⟩ | ⟨hsv, hno⟩
          ·have hjn : j < n := by rw [HNR.out]; exact (Qt.1 hjr).1
           have hjni : (j : Int) < (n : Int) := by omega
           have hj0 : (0 : Int) <= (j : Int) := by omega
           have hcmi : (c : Int) < (m : Int) := by omega
           have hc0 : (0 : Int) <= (c : Int) := by omega
           have dc0 : decide (0 <= (c : Int)) = true := decide_eq_true hc0
           have dcm : decide ((c : Int) < (m : Int)) = true := decide_eq_true hcmi
           obtain rfl : B = true := by rw [HBB.out]; exact decide_eq_true ⟨hj0, hjni⟩
           obtain ⟨l, hl⟩ : ∃ l, L[j]? = some l := ⟨_, Qi (by rw [HLN.out]; exact hjn)⟩
           have hlr : l.map Prod.fst = r := by
            have h := congrArg (fun x => x[j]?) HLM.out
            simp only [Qj] at h
            rw [hl, hjr] at h
            simpa using h
           obtain ⟨t, ht⟩ : ∃ t, l[c]? = some t := ⟨_, Qi (by rw [<- Ql (f := Prod.fst), hlr]; exact (Qt.1 hrv).1)⟩
           have htv : t.1 = v := by
            have h := congrArg (fun x => x[c]?) hlr
            simp only [Qj] at h
            rw [ht, hrv] at h
            simpa using h
           have hlm : l.length = m := by rw [<- Ql (f := Prod.fst), hlr, HM.out]; exact HRC.out.len r (Qm hjr)
           rw [hsv] at HV
           have HL := hid hl
           have HT := hid ht
           have HTV := hid htv
           have HLM2 := hid hlm
           clear hjr hrv hsv hl hlr ht htv hlm hltc
           go_wp2_with fail
           refine HV.out.mono ?_
           rintro e w12 ⟨hret, hb12⟩
           obtain ⟨va, vc, rfl, hov⟩ := RetVal.shape hret
           have HOV := hid hov
           have HB12 := hid (zAa HBC.out hb12)
           have HB12C := hid (zAa HBC11.out hb12)
           have hcs12 := (hb12.cell (Qh _ _ hcs)).trans hcs
           clear hret hov hb12 hcs
           obtain ⟨l2, hl2⟩ : ∃ l2, l2 = l := ⟨_, rfl⟩
           rw [<- hl2] at HL HT HLM2
           clear hl2
           obtain ⟨vu, vk, vn, vb⟩ := v
           obtain ⟨bl, hbl⟩ : ∃ bl, bl = vb.length := ⟨_, rfl⟩
           go_upto_region 22 with (fail)
           rw [<- hbl]
           obtain ⟨w13, hw13⟩ : ∃ w13 : World, w13 = w12.alloc (.cells #[.bool vu, .int .i64 vk, .int .i64 vn, .slice va bl vc] 31) := ⟨_, rfl⟩
           obtain ⟨VB, hVB⟩ : ∃ VB, VB = w12.heap.size := ⟨_, rfl⟩
           have hb13 : Below w12.heap.size w12 w13 := by rw [hw13]; exact zAd _ _
           have hxv : w13.heap[VB]? = some (.cells #[.bool vu, .int .i64 vk, .int .i64 vn, .slice va bl vc] 31 (0, 0)) := by rw [hw13, hVB]; exact heap_alloc_new _ _
           have HOV13 := hid (show OkV w13 (⟨vu, vk, vn, vb⟩, .slice va bl vc) from ⟨by have h := (HOV.out.keptB hb13).rd; rw [<- hbl] at h; exact h, by
            have h := HRC.out.at_ _ (show l2.map Prod.fst ∈ R by rw [<- HLM.out]; exact Qp (f := fun x : List (Vc × Value) => x.map Prod.fst) (Qm HL.out)) c ((colsN a0)[c]'(by rw [<- HM.out]; exact hcm)) t.1 (Qi _) (by rw [Qj, HT.out]; rfl)
            rw [HTV.out] at h
            exact h.1.fit.1⟩)
           have HB13 := hid (zAa HB12.out hb13)
           have HB13C := hid (zAa HB12C.out hb13)
           have hcs13 := (hb13.cell (Qh _ _ hcs12)).trans hcs12
           rw [<- hw13, <- hVB]
           obtain ⟨rb, ro, sa1, sc1, rfl, hcell, hrp⟩ := (HRD7.out.kept HB13.out).at HL.out
           rw [HLM2.out] at hcell hrp
           obtain ⟨b2, off2, rfl, q0, q1, q2, q3, okt⟩ := hrp.at HT.out
           obtain ⟨ta, tc, hts⟩ := zAf okt.1
           have htv := HTV.out
           obtain ⟨⟨tu, tk, tn, tb⟩, ts⟩ := t
           simp only [Vc.mk.injEq] at htv hts q0 q1 q2 q3
           obtain ⟨rfl, rfl, rfl, rfl⟩ := htv
           rw [<- hbl] at hts
           subst hts
           have p0 : w13.cell? ⟨VB, 0, none⟩ = some (.bool tu) := by rw [Qu w13 VB 0 _ _ _ hxv]; rfl
           have p1 : w13.cell? ⟨VB, 1, none⟩ = some (.int .i64 tk) := by rw [Qu w13 VB 1 _ _ _ hxv]; rfl
           have p2 : w13.cell? ⟨VB, 2, none⟩ = some (.int .i64 tn) := by rw [Qu w13 VB 2 _ _ _ hxv]; rfl
           have p3 : w13.cell? ⟨VB, 3, none⟩ = some (.slice va bl vc) := by rw [Qu w13 VB 3 _ _ _ hxv]; rfl
           have HOT := hid okt
           have HKV := hid (show ∀ w', Below w13.heap.size w13 w' -> w'.cell? ⟨VB, 0, none⟩ = some (.bool tu) ∧ w'.cell? ⟨VB, 1, none⟩ = some (.int .i64 tk) ∧ w'.cell? ⟨VB, 2, none⟩ = some (.int .i64 tn) ∧ w'.cell? ⟨VB, 3, none⟩ = some (.slice va bl vc) ∧ w'.cell? ⟨rb, ro + j, none⟩ = some (.slice (some ⟨b2, off2, none⟩) m sc1) ∧ w'.cell? ⟨b2, off2 + c * 4, none⟩ = some (.bool tu) ∧ w'.cell? ⟨b2, off2 + c * 4 + 1, none⟩ = some (.int .i64 tk) ∧ w'.cell? ⟨b2, off2 + c * 4 + 2, none⟩ = some (.int .i64 tn) ∧ w'.cell? ⟨b2, off2 + c * 4 + 3, none⟩ = some (.slice ta bl tc) ∧ Below w13.heap.size w13 w' from fun w' hw => ⟨(hw.cell (Qh _ _ p0)).trans p0, (hw.cell (Qh _ _ p1)).trans p1, (hw.cell (Qh _ _ p2)).trans p2, (hw.cell (Qh _ _ p3)).trans p3, (hw.cell (Qh _ _ hcell)).trans hcell, (hw.cell (Qh _ _ q0)).trans q0, (hw.cell (Qh _ _ q1)).trans q1, (hw.cell (Qh _ _ q2)).trans q2, (hw.cell (Qh _ _ q3)).trans q3, hw⟩)
           have HSV := hid (show ∀ w', Below w13.heap.size w13 w' -> Calls Tryz.prog 25 #[.agg #[.bool tu, .int .i64 tk, .int .i64 tn, .slice va bl vc], .agg #[.bool tu, .int .i64 tk, .int .i64 tn, .slice ta bl tc]] w' fun e w'' => e = .returned (.bool true) ∧ Below w13.heap.size w13 w'' from fun w' hw => by
            have hh := zEw (⟨tu, tk, tn, tb⟩, .slice va bl vc) (⟨tu, tk, tn, tb⟩, .slice ta bl tc) w' (HOV13.out.kept hw) (HOT.out.kept hw)
            rw [zLh] at hh
            exact hh.mono fun e w'' h2 => ⟨h2.1, zAa hw h2.2⟩)
           have hS13 := Qk w13.heap.size w13
           clear hw13 hVB hb13 hxv hrp okt hbl hcs12
           go_upto_region 23 with (fail)
           go_cut [194] (fun s wx => s = .bool false ∧ Below w13.heap.size w13 wx)
           case first =>
            set_option maxRecDepth 1000000 in
            go_region_held3 (fun w' => w'.cell? ⟨VB, 0, none⟩ = some (.bool tu) ∧ w'.cell? ⟨VB, 1, none⟩ = some (.int .i64 tk) ∧ w'.cell? ⟨VB, 2, none⟩ = some (.int .i64 tn) ∧ w'.cell? ⟨VB, 3, none⟩ = some (.slice va bl vc) ∧ w'.cell? ⟨rb, ro + j, none⟩ = some (.slice (some ⟨b2, off2, none⟩) m sc1) ∧ w'.cell? ⟨b2, off2 + c * 4, none⟩ = some (.bool tu) ∧ w'.cell? ⟨b2, off2 + c * 4 + 1, none⟩ = some (.int .i64 tk) ∧ w'.cell? ⟨b2, off2 + c * 4 + 2, none⟩ = some (.int .i64 tn) ∧ w'.cell? ⟨b2, off2 + c * 4 + 3, none⟩ = some (.slice ta bl tc) ∧ Below w13.heap.size w13 w') (first | assumption | exact HKV.out _ (by first | assumption | exact Qg (by assumption) (zAe _ _)))
             (first
              | (go_at_call 25; refine (HSV.out _ (by first | assumption | exact Qg (by assumption) (zAe _ _))).mono ?_; rintro e w14 ⟨rfl, hS14⟩))
            all_goals
             go_wp2_with fail
             go_meet
             exact ⟨rfl, by first | exact hS14 | exact zAo hS14⟩
           case rest =>
            obtain ⟨rfl, hb14⟩ := hcut
            have HB14 := hid (zAa HB13C.out hb14)
            clear hb14 hS13
            go_wp2_with fail
            go_roundw
            case rel => exact ⟨(c : Int) + 1, by omega, by omega, by go_num, HB14.out⟩
            case measure => simp [intOf]; omega
          ·rw [hsv] at HV
           clear hsv
           go_wp2_with fail
           refine HV.out.mono ?_
           rintro e w12 ⟨hret, hb12⟩
           obtain rfl := hret
           have HB12C := hid (zAa HBC11.out hb12)
           obtain ⟨w13, hw13⟩ : ∃ w13 : World, w13 = w12.alloc (.cells #[.bool false, .int .i64 0, .int .i64 0, .slice none 0 0] 31) := ⟨_, rfl⟩
           have hb13 : Below w12.heap.size w12 w13 := by rw [hw13]; exact zAd _ _
           have HB13C := hid (zAa HB12C.out hb13)
           have hcs13 := (hb13.cell (Qh _ _ ((hb12.cell (Qh _ _ hcs)).trans hcs))).trans ((hb12.cell (Qh _ _ hcs)).trans hcs)
           go_upto_region 22 with (fail)
           rw [<- hw13]
           clear hw13 hb13 hb12 hcs
           go_cut [18] (fun s wx => s = .bool false ∧ wx = w13)
           case first =>
            cases B with
            | false =>
             go_wp2_with fail
             go_meet
             exact ⟨rfl, rfl⟩
            | true =>
             have hIB : 0 <= I ∧ I < (n : Int) := of_decide_eq_true HBB.out.symm
             rcases (by omega : C < 0 ∨ (m : Int) <= C) with h | h
             ·have d1 : ¬ 0 <= C := by omega
              have d2 : decide (0 <= C) = false := decide_eq_false d1
              clear h hno hIB
              go_wp2_with fail
              go_meet
              exact ⟨rfl, rfl⟩
             ·have d1 : 0 <= C := by omega
              have d2 : decide (0 <= C) = true := decide_eq_true d1
              have d3 : ¬ C < (m : Int) := by omega
              have d4 : decide (C < (m : Int)) = false := decide_eq_false d3
              clear h hno hIB
              go_wp2_with fail
              go_meet
              exact ⟨rfl, rfl⟩
           case rest =>
            obtain ⟨rfl, rfl⟩ := hcut
            clear hno
            go_upto_region 23 with (fail)
            go_cut [194] (fun s wx => s = .bool false ∧ Below wc.heap.size wc wx)
            case first =>
             refine wp_region_noPanic ?_
             refine wp_region_held_drew (S := fun w' => Below wc.heap.size wc w') (by kernel_rfl) ?hS0b (fun hHeld => ?go0b)
             case' hS0b => ((try dsimp only); exact zAe _ _)
             refine tkH 0 (v := ?v0b) rfl (.inl ⟨by rfl, ?y0b⟩) ?_
             case' y0b => (intro w hSw; first | (go_simp; done) | (go_simp; with_reducible rfl))
             (try simp only [Act.put, Qa, Qb, Qc, Qd, Qe, Qf])
             refine tkH 1 (v := ?v1b) rfl (.inl ⟨by rfl, ?y1b⟩) ?_
             case' y1b => (intro w hSw; first | (go_simp; done) | (go_simp; with_reducible rfl))
             (try simp only [Act.put, Qa, Qb, Qc, Qd, Qe, Qf])
             refine tkH 2 (v := ?v2b) rfl (.inl ⟨by rfl, ?y2b⟩) ?_
             case' y2b => (intro w hSw; first | (go_simp; done) | (go_simp; with_reducible rfl))
             (try simp only [Act.put, Qa, Qb, Qc, Qd, Qe, Qf])
             refine tkH 3 (v := ?v3b) rfl (.inl ⟨by rfl, ?y3b⟩) ?_
             case' y3b => (intro w hSw; first | (go_simp; done) | (go_simp; with_reducible rfl))
             (try simp only [Act.put, Qa, Qb, Qc, Qd, Qe, Qf])
             refine tkH 4 (v := ?v4b) rfl (.inl ⟨by rfl, ?y4b⟩) ?_
             case' y4b => (intro w hSw; first | (go_simp; done) | (go_simp; with_reducible rfl))
             (try simp only [Act.put, Qa, Qb, Qc, Qd, Qe, Qf])
             refine tkH 5 (v := ?v5b) rfl (.inl ⟨by rfl, ?y5b⟩) ?_
             case' y5b => (intro w hSw; first | (go_simp; done) | (go_simp; with_reducible rfl))
             (try simp only [Act.put, Qa, Qb, Qc, Qd, Qe, Qf])
             refine tkH 6 (v := undef) rfl (.inr ⟨by rfl, rfl⟩) ?_
             (try simp only [Act.put, Qa, Qb, Qc, Qd, Qe, Qf])
             refine tkH 7 (v := undef) rfl (.inr ⟨by rfl, rfl⟩) ?_
             (try simp only [Act.put, Qa, Qb, Qc, Qd, Qe, Qf])
             refine tkH 8 (v := undef) rfl (.inr ⟨by rfl, rfl⟩) ?_
             (try simp only [Act.put, Qa, Qb, Qc, Qd, Qe, Qf])
             refine tkH 9 (v := undef) rfl (.inr ⟨by rfl, rfl⟩) ?_
             (try simp only [Act.put, Qa, Qb, Qc, Qd, Qe, Qf])
             refine tkH 10 (v := undef) rfl (.inr ⟨by rfl, rfl⟩) ?_
             (try simp only [Act.put, Qa, Qb, Qc, Qd, Qe, Qf])
             refine tkH 11 (v := undef) rfl (.inr ⟨by rfl, rfl⟩) ?_
             (try simp only [Act.put, Qa, Qb, Qc, Qd, Qe, Qf])
             refine tkH 12 (v := undef) rfl (.inr ⟨by rfl, rfl⟩) ?_
             (try simp only [Act.put, Qa, Qb, Qc, Qd, Qe, Qf])
             refine tkH 13 (v := undef) rfl (.inr ⟨by rfl, rfl⟩) ?_
             (try simp only [Act.put, Qa, Qb, Qc, Qd, Qe, Qf])
             refine tkH 14 (v := undef) rfl (.inr ⟨by rfl, rfl⟩) ?_
             (try simp only [Act.put, Qa, Qb, Qc, Qd, Qe, Qf])
             refine tkH 15 (v := undef) rfl (.inr ⟨by rfl, rfl⟩) ?_
             (try simp only [Act.put, Qa, Qb, Qc, Qd, Qe, Qf])
             refine tkH 16 (v := ?v16b) rfl (.inl ⟨by rfl, ?y16b⟩) ?_
             case' y16b => (intro w hSw; first | (go_simp; done) | (go_simp; with_reducible rfl))
             (try simp only [Act.put, Qa, Qb, Qc, Qd, Qe, Qf])
             refine tkH 17 (v := ?v17b) rfl (.inl ⟨by rfl, ?y17b⟩) ?_
             case' y17b => (intro w hSw; first | (go_simp; done) | (go_simp; with_reducible rfl))
             (try simp only [Act.put, Qa, Qb, Qc, Qd, Qe, Qf])
             refine wpAnyH_done (by kernel_rfl) ?_ _
             refine NoPanic.normal ?_
             go_wp2_with fail
             go_meet
             exact ⟨rfl, zAe _ _⟩
            case rest =>
             obtain ⟨rfl, hb14⟩ := hcut
             have HB14 := hid (zAa HB13C.out hb14)
             clear hb14
             go_wp2_with fail
             go_roundw
             case rel => exact ⟨C + 1, by omega, by omega, by go_num, HB14.out⟩
             case measure => simp [intOf]; omega
         ·have hCm : C = (m : Int) + 1 := by omega
          have hltcd : decide (C <= (m : Int)) = false := decide_eq_false hltc
          go_wp2_with fail
          go_roundw
          case rel => exact ⟨I + 1, by omega, by omega, by go_num, HBC.out⟩
          case measure => simp [intOf]; omega
    ·have hIn : I = (n : Int) + 1 := by omega
     have hltd : decide (I <= (n : Int)) = false := decide_eq_false hlt
     go_wp2_with fail
     refine (HAW.out _).mono ?_
     rintro e w6 ⟨rfl, hb6⟩
     have HB8 := hid (zAa HB2.out (zAa HB7.out (zAa HBI.out hb6)))
     clear hb6
     go_wp2_with fail
     go_ret
     exact ⟨rfl, HB8.out⟩
end Go.Proofs.YtmpgnjhgegbdkaaGreat
