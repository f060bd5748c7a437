import Derived.Test.YtmpgnjhgegbdkaaGreatSgb
set_option linter.unusedVariables false
set_option linter.unusedSimpArgs false
set_option maxRecDepth 100000
set_option maxHeartbeats 8000000
open Go.Lib (hid)
namespace Go.Proofs.YtmpgnjhgegbdkaaGreat
open Go.RowKit
open _root_.List renaming length_map -> Qa, getElem?_map -> Qb, getElem?_eq_getElem -> Qc, mem_of_getElem? -> Qd, length_append -> Qe
theorem zH2 {K : Nat} {w : World} {ao : Option Addr} {n cap : Nat} {us : List Value} (h : RdSK K w 1 (.slice ao n cap) (us.map fun u => [u])) {i : Nat} {u : Value} (hu : us[i]? = some u) :
  n = us.length ∧ us.length <= cap ∧ ∃ b off, ao = some ⟨b, off, none⟩ ∧ w.cell? ⟨b, off + i, none⟩ = some u := by
 have h1 := h.rd
 have h2 := h1
 obtain ⟨ao', cap', hv, hcap, _⟩ := h2
 simp only [Value.slice.injEq, Qa] at hv hcap
 obtain ⟨b, off, ha, hc⟩ := h1.at (k := i) (t := [u]) (by rw [Qb, hu]; rfl)
 refine ⟨hv.2.1, by rw [hv.2.2]; exact hcap.2, b, off, ha, ?_⟩
 have := hc 0 u rfl
 simpa using this
theorem SegAt.open {K g : Nat} {w : World} {cols : List Co} {rows : List (List Vc)} (h : SegAt K w g cols rows) (hne : 0 < cols.length) :
  ∃ (kb ko kc tb tf tc : Nat) (zv : Value) (us : List Value), w.heap[g]? = some (.cells #[.int .i64 (rows.length : Nat), zv, .slice (some ⟨kb, ko, none⟩) cols.length kc, .slice (some ⟨tb, tf, none⟩) cols.length tc] 43 (0, 0)) ∧ cols.length <= tc ∧
   ∀ (i : Nat) (c : Co), cols[i]? = some c -> w.cell? ⟨kb, ko + i, none⟩ = some (.int .i64 c.k) ∧ ∃ u, us[i]? = some u ∧ w.cell? ⟨tb, tf + i, none⟩ = some u ∧ RdB K w u (scolT c.k (colVs rows i)) := by
 obtain ⟨h1, h2, zs, ps, zv, kv, tv, h3, h4, h6, h7, h8, h9⟩ := h
 have hpl : ps.length = cols.length := by rw [<- Bc.zAv, h8, zDe]
 obtain ⟨ka, kc, rfl⟩ := zAk h6.rd
 obtain ⟨ta, tc, rfl⟩ := zAk h7.rd
 simp only [Qa, Bc.zA8, hpl] at h3 h6 h7
 have h6' : RdSK K w 1 (.slice ka cols.length kc) ((cols.map fun c => Value.int .i64 c.k).map fun u => [u]) := by rw [List.map_map]; exact h6
 have hu0 : (cols.map fun c => Value.int .i64 c.k)[0]? = some (.int .i64 (cols[0]'hne).k) := by rw [Qb, Qc hne]; rfl
 have hv0 : (Bc.vs ps)[0]? = some ((Bc.vs ps)[0]'(by rw [Bc.zA8, hpl]; exact hne)) := Qc _
 obtain ⟨_, _, kb, ko, rfl, _⟩ := zH2 h6' hu0
 obtain ⟨_, htc, tb, tf, rfl, _⟩ := zH2 h7 hv0
 refine ⟨kb, ko, kc, tb, tf, tc, zv, Bc.vs ps, h3, by rw [Bc.zA8, hpl] at htc; exact htc, fun i c hc => ?_⟩
 have hi := (List.getElem?_eq_some_iff.1 hc).1
 obtain ⟨_, _, b1, o1, he1, hk⟩ := zH2 h6' (i := i) (u := .int .i64 c.k) (by rw [Qb, hc]; rfl)
 cases he1
 obtain ⟨p, hp⟩ : ∃ p, ps[i]? = some p := ⟨_, Qc (by omega)⟩
 have hpv : (Bc.vs ps)[i]? = some p.1 := by unfold Bc.vs; rw [Qb, hp]; rfl
 obtain ⟨_, _, b2, o2, he2, ht⟩ := zH2 h7 hpv
 cases he2
 have hx : p.2 = scolT c.k (colVs rows i) := by
  have := zDx cols rows i
  rw [<- h8, hc] at this
  unfold Bc.xs at this
  rw [Qb, hp] at this
  simpa using this
 have := h9 p (Qd hp)
 rw [hx] at this
 exact ⟨hk, p.1, hpv, ht, this⟩
theorem zL0 (k : Int) (vs : List Vc) (h : vs.length <= 1000) : decN (scolT k vs) = some (nulT vs, bodyT k vs) := zPq _ _ (by rw [zBe]; omega)
theorem zMm {K g : Nat} {cols : List Co} {rows : List (List Vc)} (hrc : RowsC cols rows) (hne : 0 < cols.length) (w : World) (h : SegAt K w g cols rows) :
  Calls Tryz.prog 47 #[.pointer (some ⟨g, 0, none⟩)] w fun e w' => e = .returned (.int .i64 (rows.length : Nat)) ∧ Below w.heap.size w w' := by
 obtain ⟨kb, ko, kc, tb, tf, tc, zv, us, hx, htc, hcol⟩ := h.open hne
 obtain ⟨c0, hc0⟩ : ∃ c, cols[0]? = some c := ⟨_, Qc hne⟩
 obtain ⟨_, u, _, ct, hrb⟩ := hcol 0 c0 hc0
 obtain ⟨ua, uc, rfl⟩ := zA6 hrb
 have hkk := hrc.ks c0 (Qd hc0)
 have hcv := hrc.col hc0
 have hle := hrc.le
 have hlt := zEq hkk hcv (by rw [zAz]; omega)
 have HD := hid (zFg (.slice ua (scolT c0.k (colVs rows 0)).length uc) _ w (hrb.rd (Above.refl _ _)) hlt.1 (by omega))
 rw [zL0 _ _ (by rw [zAz]; omega)] at HD
 obtain ⟨tn, htn⟩ : ∃ tn, tn = (scolT c0.k (colVs rows 0)).length := ⟨_, rfl⟩
 rw [<- htn] at HD ct
 have HNL := hid (show (nulT (colVs rows 0)).length = rows.length by rw [zBe, zAz])
 obtain ⟨m, hm⟩ : ∃ m, m = cols.length := ⟨_, rfl⟩
 obtain ⟨n, hn⟩ : ∃ n, n = rows.length := ⟨_, rfl⟩
 rw [<- hm] at hx hne
 rw [<- hn] at hx HNL ⊢
 have hmi : (0 : Int) < (m : Int) := by omega
 have c3 : w.cell? ⟨g, 3, none⟩ = some (.slice (some ⟨tb, tf, none⟩) m tc) := by rw [cell_of_row w g 3 _ _ _ hx]; rfl
 rw [Nat.add_zero] at ct
 clear hx htc hcol hc0 hrb hkk hcv hle hlt htn hm hn h hrc
 go_enter Tryz.func47, Tryz.ntmps47
 go_wp2_with fail
 refine HD.out.mono ?_
 rintro e w2 hd
 rcases hd with ⟨h, _⟩ | ⟨l, r, ao, len, cap, ao2, len2, cap2, h, rfl, hr1, hr2, hb⟩
 ·cases h
 ·obtain ⟨rfl, rfl⟩ : nulT (colVs rows 0) = l ∧ _ := by simpa using h
  have hln : len = n := by
   obtain ⟨_, _, hv, _⟩ := hr1
   simp only [Value.slice.injEq, Qa] at hv
   rw [hv.2.1, HNL.out]
  have HB := hid hb
  subst hln
  clear h hr1 hr2 hb
  go_wp2_with fail
  go_ret
  exact ⟨rfl, HB.out⟩
theorem zPc (x : List Nat) : (bytesC x).length <= 10 + x.length := by
 have := (zA3 9 x.length).1
 unfold bytesC numC
 rw [Qe]
 omega
theorem zOj (l : List (List Nat)) (C : Nat) (h : ∀ x ∈ l, x.length <= C) : ((l.map bytesC).flatten).length <= l.length * (C + 10) := by
 induction l with
 | nil => simp
 | cons x r ih =>
  have h1 := ih fun y hy => h y (List.mem_cons_of_mem _ hy)
  have h2 := h x List.mem_cons_self
  have h3 := zPc x
  rw [List.map_cons, List.flatten_cons, Qe, List.length_cons, Nat.add_mul]
  omega
theorem zEr {cols : List Co} {rows : List (List Vc)} (h : RowsC cols rows) : ∀ x ∈ toldT cols rows, (∀ b ∈ x, b < 256) ∧ x.length <= 42000 := fun x hx => by
 obtain ⟨i, hi⟩ := List.getElem?_of_mem hx
 rw [zDx] at hi
 cases hc : cols[i]? with
 | none => rw [hc] at hi; cases hi
 | some c =>
  rw [hc] at hi
  simp only [Option.map_some, Option.some.injEq] at hi
  rw [<- hi]
  exact zEq (h.ks c (Qd hc)) (h.col hc) (by rw [zAz]; have := h.le; omega)
theorem zUz {cols : List Co} {rows : List (List Vc)} (h : RowsC cols rows) (hm : cols.length <= 6) : (segT cols rows).length <= 260000 := by
 have h1 := zOj (toldT cols rows) 42000 fun x hx => (zEr h x hx).2
 have h2 := (zA3 9 rows.length).1
 rw [zDe] at h1
 unfold segT numC
 rw [Qe]
 omega
theorem zFn {K g : Nat} {cols : List Co} {rows : List (List Vc)} (hrc : RowsC cols rows) (hne : 0 < cols.length) (hm6 : cols.length <= 6) (w : World) (h : SegAt K w g cols rows) :
  Calls Tryz.prog 17 #[.pointer (some ⟨g, 0, none⟩)] w fun e w' => ∃ v, e = .returned v ∧ OwnB w.heap.size w' v (segT cols rows) ∧ Below w.heap.size w w' := by
 have HSZ := hid (zMm hrc hne w h)
 have HTL := hid (zEr hrc)
 have HSL := hid (show ∀ q, (numC rows.length ++ (((toldT cols rows).take q).map bytesC).flatten).length <= 300000 from fun q => by
  have h1 := zOj ((toldT cols rows).take q) 42000 fun x hx => (zEr hrc x (List.mem_of_mem_take hx)).2
  have h2 := (zA3 9 rows.length).1
  rw [List.length_take, zDe] at h1
  unfold numC
  rw [Qe]
  have h3 : min q cols.length * (42000 + 10) <= 6 * (42000 + 10) := Nat.mul_le_mul_right _ (by omega)
  omega)
 have HH := hid h
 have HLE := hid hrc.le
 obtain ⟨kb, ko, kc, tb, tf, tc, zv, us, hx, htc, hcol⟩ := h.open hne
 have HCOL := hid hcol
 obtain ⟨m, hm⟩ : ∃ m, m = cols.length := ⟨_, rfl⟩
 obtain ⟨n, hn⟩ : ∃ n, n = rows.length := ⟨_, rfl⟩
 rw [<- hm] at hx hne hm6
 rw [<- hn] at hx HSZ HSL HLE
 have HM := hid hm
 have HN := hid hn
 have HX := hid hx
 have hn64 : n <= 64 := HLE.out
 have hwr : IntKind.u64.wrap (n : Int) = (n : Int) := IntWalk.u64_in _ (by omega)
 clear hx htc hcol hm hn h hrc
 go_enter Tryz.func17, Tryz.ntmps17
 go_wp2_with fail
 refine HSZ.out.mono ?_
 rintro e w2 ⟨rfl, hb2⟩
 have HB2 := hid hb2
 clear hb2
 go_wp2_with fail
 refine (zEj _ [] n _ (Rd.nil _) (by simp) (by omega)).mono ?_
 rintro e w3 ⟨ao1, cap1, rfl, hown, hb⟩
 rw [List.nil_append] at hown ⊢
 obtain ⟨bn, hbn⟩ : ∃ bn, bn = ((numC n).map u8v).length := ⟨_, rfl⟩
 have HO3 := hid (OwnB.of hown)
 have HBN := hid (show bn = (numC n).length by rw [hbn, Qa])
 rw [<- hbn] at HO3 ⊢
 have HB3 := hid (zAa HB2.out hb)
 have HS2 := hid HB2.out.size
 have hx3 := (HB3.out.block g (Array.getElem?_eq_some_iff.1 HX.out).1).trans HX.out
 have c3 : w3.cell? ⟨g, 3, none⟩ = some (.slice (some ⟨tb, tf, none⟩) m tc) := by rw [cell_of_row w3 g 3 _ _ _ hx3]; rfl
 clear hown hb hbn hx3
 go_wp2_with fail
 clear c3
 go_loopw [3, 15] (fun b i wr => ∃ (q bn : Nat) (ao : Option Addr) (cap : Nat), q <= m ∧ i = .int .i64 (q : Int) ∧ b = .slice ao bn cap ∧ bn = (numC n ++ (((toldT cols rows).take q).map bytesC).flatten).length ∧ OwnB w.heap.size wr (.slice ao bn cap) (numC n ++ (((toldT cols rows).take q).map bytesC).flatten) ∧ Below w.heap.size w wr) (fun _ i _ => m - (intOf i).toNat)
 case atStart => exact ⟨0, bn, ao1, cap1, Nat.zero_le _, rfl, rfl, by rw [HBN.out]; simp, by rw [List.take_zero, List.map_nil, List.flatten_nil, List.append_nil]; exact Joins.ownsRow_le HO3.out HS2.out, HB3.out⟩
 case round =>
  obtain ⟨q, bn, ao, cap, hq, rfl, rfl, hbl, hown, hb⟩ := hrel
  have HBL := hid hbl
  have HO := hid hown
  have HB := hid hb
  clear hbl hown hb
  by_cases hlt : q < m
  ·obtain ⟨co, hco⟩ : ∃ co, cols[q]? = some co := ⟨_, Qc (by rw [<- HM.out]; exact hlt)⟩
   obtain ⟨_, u, _, ct, hrb⟩ := HCOL.out q co hco
   have ct2 := (HB.out.cell (World.block_lt_of_cell? _ _ ct)).trans ct
   have hrd := (hrb.rd (Above.refl _ _)).kept HB.out
   have htq : (toldT cols rows)[q]? = some (scolT co.k (colVs rows q)) := by rw [zDx, hco]; rfl
   have htl := HTL.out _ (Qd htq)
   have HCB := hid (show Calls Tryz.prog 48 #[.slice ao bn cap, u] wr fun e w' => ∃ ao' bn' cap', e = .returned (.slice ao' bn' cap') ∧ bn' = (numC n ++ (((toldT cols rows).take (q + 1)).map bytesC).flatten).length ∧ OwnB wr.heap.size w' (.slice ao' bn' cap') (numC n ++ (((toldT cols rows).take (q + 1)).map bytesC).flatten) ∧ Below wr.heap.size wr w' from by
    refine (zKq (.slice ao bn cap) u _ _ wr HO.out.rd hrd (by have := HSL.out q; omega) (by omega)).mono ?_
    rintro e w' ⟨a', c', rfl, ho, hb⟩
    have e1 : numC n ++ (((toldT cols rows).take (q + 1)).map bytesC).flatten = (numC n ++ (((toldT cols rows).take q).map bytesC).flatten) ++ bytesC (scolT co.k (colVs rows q)) := by
     rw [List.take_add_one, htq, List.map_append, List.flatten_append, List.append_assoc]
     simp
    rw [e1]
    exact ⟨a', _, c', rfl, Qa .., OwnB.of ho, hb⟩)
   obtain ⟨ua, uc, rfl⟩ := zA6 hrb
   obtain ⟨tn, htn⟩ : ∃ tn, tn = (scolT co.k (colVs rows q)).length := ⟨_, rfl⟩
   rw [<- htn] at ct2 HCB
   clear hco ct hrb hrd htq htl htn
   go_wp2_with fail
   refine HCB.out.mono ?_
   rintro e w4 ⟨a4, b4, c4, rfl, hb4, ho4, hbe4⟩
   have HBL4 := hid hb4
   have HO4 := hid ho4
   have HB4 := hid hbe4
   clear hb4 ho4 hbe4 ct2
   go_wp2_with fail
   go_roundw
   case rel => exact ⟨q + 1, b4, a4, c4, by omega, by go_num, rfl, HBL4.out, Joins.ownsRow_le HO4.out HB.out.size, zAa HB.out HB4.out⟩
   case measure => simp [intOf]; omega
  ·have hqn : q = m := by omega
   have HF := hid (show OwnB w.heap.size wr (.slice ao bn cap) (segT cols rows) from by
    have h := HO.out
    rw [hqn, List.take_of_length_le (by rw [zDe, <- HM.out]; exact Nat.le_refl _), HN.out] at h
    exact h)
   clear hqn
   go_wp2_with fail
   go_ret
   exact ⟨_, rfl, HF.out, HB.out⟩
end Go.Proofs.YtmpgnjhgegbdkaaGreat
