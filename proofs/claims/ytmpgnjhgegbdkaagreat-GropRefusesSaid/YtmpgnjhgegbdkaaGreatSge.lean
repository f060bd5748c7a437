import Derived.Test.YtmpgnjhgegbdkaaGreatSgd
import Derived.Test.YtmpgnjhgegbdkaaGreatGtij
set_option linter.unusedVariables false
set_option linter.unusedSimpArgs false
set_option maxRecDepth 100000
set_option maxHeartbeats 8000000
open Go.Lib (hid)
namespace Go.Proofs.YtmpgnjhgegbdkaaGreat
open Go.RowKit
open _root_.List renaming length_map -> Qa, length_cons -> Qb, take_succ_eq_append_getElem -> Qc, getElem_set_self -> Qd, take_set_of_le -> Qe, mem_cons_of_mem -> Qf, map_append -> Qi, mem_append -> Qj, length_append -> Qk, mem_map -> Ql, mem_cons -> Qm, mem_of_mem_drop -> Qn, length_drop -> Qo, drop_zero -> Qp, append_nil -> Qq, getElem?_eq_getElem -> Qr, append_assoc -> Qt, flatten_append -> Qu, mem_singleton -> Qv
open _root_.Nat renaming zero_le -> Qg, le_refl -> Qh, add_zero -> Qs
theorem zOl : I64 0 := by unfold I64; decide
def vset4 (xs : List Value) (m : Nat) (v0 v1 v2 v3 : Value) : List Value := (((xs.set m v0).set (m + 1) v1).set (m + 2) v2).set (m + 3) v3
theorem zGq (xs : List Value) (m : Nat) (v0 v1 v2 v3 : Value) : (vset4 xs m v0 v1 v2 v3).length = xs.length := by simp [vset4]
theorem zH3 (xs : List Value) (m : Nat) (h : m + 4 <= xs.length) (v0 v1 v2 v3 : Value) : (vset4 xs m v0 v1 v2 v3).take (m + 4) = xs.take m ++ [v0, v1, v2, v3] := by
 unfold vset4
 rw [Qc (i := m + 3) (by simp; omega), Qd, Qe (by omega)]
 rw [Qc (i := m + 2) (by simp; omega), Qd, Qe (by omega)]
 rw [Qc (i := m + 1) (by simp; omega), Qd, Qe (by omega)]
 rw [Qc (i := m) (by simp; omega), Qd, Qe (by omega)]
 simp
theorem zI5 {w : World} {B G n q : Nat} {xs : List Value} (h : w.ownsRow B 31 4 (.slice (some ⟨G, 0, none⟩) n n) n xs) (v0 v1 v2 v3 : Value) :
  ((((w.setCell ⟨G, q * 4, none⟩ v0).setCell ⟨G, q * 4 + 1, none⟩ v1).setCell ⟨G, q * 4 + 2, none⟩ v2).setCell ⟨G, q * 4 + 3, none⟩ v3).ownsRow B 31 4 (.slice (some ⟨G, 0, none⟩) n n) n (vset4 xs (q * 4) v0 v1 v2 v3) :=
 ((((h.stored (q * 4) v0).1.stored (q * 4 + 1) v1).1.stored (q * 4 + 2) v2).1.stored (q * 4 + 3) v3).1
theorem zBj {w wx : World} {B G i j k l : Nat} (h : Below B w wx) (hg : B <= G) (v0 v1 v2 v3 : Value) : Below B w ((((wx.setCell ⟨G, i, none⟩ v0).setCell ⟨G, j, none⟩ v1).setCell ⟨G, k, none⟩ v2).setCell ⟨G, l, none⟩ v3) :=
 (((h.setCell (p := ⟨G, i, none⟩) hg v0).setCell (p := ⟨G, j, none⟩) hg v1).setCell (p := ⟨G, k, none⟩) hg v2).setCell (p := ⟨G, l, none⟩) hg v3
theorem zV6 {bs : List Nat} {c : Int} {l : List Int} (h8 : ∀ x ∈ bs, x < 256) (h : decT bs c = some l) : (l.length : Int) = c ∧ l.length <= 65535 ∧ ∀ n ∈ l, I64 n := by
 cases bs with
 | nil => unfold decT at h; cases h
 | cons k r =>
  have := zI4 (fun x hx => h8 x (Qf _ hx)) h
  exact ⟨this.2.2.2.1, this.2.2.2.2.1, this.2.2.2.2.2⟩
theorem zOm {bs : List Nat} {c : Int} {l : List (List Nat)} (h8 : ∀ x ∈ bs, x < 256) (h : Bc.decT bs c = some l) : (l.length : Int) = c ∧ l.length <= 65535 ∧ ∀ n ∈ l, Bc.Fit n := by
 cases bs with
 | nil => unfold Bc.decT at h; cases h
 | cons k r =>
  have := Bc.zI4 (fun x hx => h8 x (Qf _ hx)) h
  exact ⟨this.2.2.1, this.2.2.2.1, this.2.2.2.2⟩
theorem zI6 {k : Int} (hk : k = 1 ∨ k = 2) {bs : List Nat} {c : Int} {vs : List Vc} (h8 : ∀ x ∈ bs, x < 256) (h : thereT k bs c = some vs) : (vs.length : Int) = c ∧ vs.length <= 65535 ∧ ∀ v ∈ vs, ColV k v ∧ v.u = false := by
 unfold thereT at h
 rcases hk with rfl | rfl
 ·rw [if_pos rfl] at h
  cases hd : decT bs c with
  | none => rw [hd] at h; cases h
  | some l =>
   rw [hd] at h
   cases h
   have := zV6 h8 hd
   unfold thereI
   rw [Qa]
   refine ⟨this.1, this.2.1, fun v hv => ?_⟩
   obtain ⟨n, hn, rfl⟩ := Ql.1 hv
   exact ⟨⟨rfl, ⟨(fun h => by cases h), (fun h => by cases h), fun _ => rfl⟩, this.2.2 n hn, ⟨fun a ha => (by cases ha), Qg _⟩⟩, rfl⟩
 ·rw [if_neg (by decide)] at h
  cases hd : Bc.decT bs c with
  | none => rw [hd] at h; cases h
  | some l =>
   rw [hd] at h
   cases h
   have := zOm h8 hd
   unfold thereB
   rw [Qa]
   refine ⟨this.1, this.2.1, fun v hv => ?_⟩
   obtain ⟨n, hn, rfl⟩ := Ql.1 hv
   exact ⟨⟨rfl, ⟨(fun h => by cases h), (fun _ => rfl), fun h => absurd rfl h⟩, zOl, this.2.2 n hn⟩, rfl⟩
theorem zI7 (k : Int) : ∀ (nl : List Bool) (l : List Vc), (sfillT k nl l).length = nl.length
 | [], _ => rfl
 | true :: r, l => by rw [sfillT, Qb, Qb, zI7 k r l]
 | false :: r, l => by rw [sfillT, Qb, Qb, zI7 k r l.tail]
theorem zI8 {k : Int} (hk : k = 1 ∨ k = 2) : ∀ (nl : List Bool) (l : List Vc), l.length + countB nl = nl.length -> (∀ v ∈ l, ColV k v) -> ∀ v ∈ sfillT k nl l, ColV k v
 | [], _, _, _, v, hv => by cases hv
 | true :: r, l, h, hl, v, hv => by
  rw [sfillT] at hv
  rcases Qm.1 hv with rfl | hv
  ·exact ⟨rfl, ⟨fun _ => ⟨rfl, rfl⟩, fun _ => rfl, fun _ => rfl⟩, zOl, ⟨fun a ha => (by cases ha), Qg _⟩⟩
  ·exact zI8 hk r l (by simp [countB] at h; omega) hl v hv
 | false :: r, [], h, _, v, hv => by
  have := countB_le r
  simp [countB] at h
  omega
 | false :: r, x :: l, h, hl, v, hv => by
  rw [sfillT] at hv
  rcases Qm.1 hv with rfl | hv
  ·exact hl _ List.mem_cons_self
  ·exact zI8 hk r l (by simp [countB] at h; omega) (fun y hy => hl y (Qf _ hy)) v hv
theorem zOn {k : Int} (hk : k = 1 ∨ k = 2) {bs : List Nat} {n : Nat} {vs : List Vc} (h8 : ∀ x ∈ bs, x < 256) (h : readT k bs n = some vs) : vs.length = n ∧ ∀ v ∈ vs, ColV k v := by
 unfold readT at h
 split at h
 ·cases h
 ·next nl r hd =>
  split at h
  ·next hn =>
   obtain ⟨j, rfl⟩ := zOk hd
   cases ht : thereT k (bs.drop j) ((n : Int) - (countB nl : Nat)) with
   | none => rw [ht] at h; cases h
   | some l =>
    rw [ht] at h
    cases h
    have := zI6 hk (fun x hx => h8 x (Qn hx)) ht
    exact ⟨by rw [zI7, hn], zI8 hk nl l (by have := countB_le nl; omega) fun v hv => (this.2.2 v hv).1⟩
  ·cases h
theorem zU1 {w : World} {b off n cap : Nat} {t : Vc × Value} {r : List (Vc × Value)} (h : RdP w (.slice (some ⟨b, off, none⟩) n cap) (t :: r)) : n = r.length + 1 ∧ n <= cap ∧ RdP w (.slice (some ⟨b, off + 4, none⟩) (n - 1) (cap - 1)) r := by
 obtain ⟨⟨ao, cap', hv, hcap, hc⟩, ho⟩ := h
 simp only [Qa, Qb, Value.slice.injEq] at hv hcap
 obtain ⟨rfl, rfl, rfl⟩ := hv
 refine ⟨rfl, hcap.2, ⟨⟨some ⟨b, off + 4, none⟩, cap - 1, by simp, ⟨(fun h => by cases h), by simp; omega⟩, fun k u hk => ?_⟩, fun t ht => ho t (Qf _ ht)⟩⟩
 obtain ⟨b', off', he, hcell⟩ := hc (k + 1) u (by simpa using hk)
 cases he
 refine ⟨b, off + 4, rfl, fun j x hx => ?_⟩
 have := hcell j x hx
 rw [show off + 4 + k * 4 + j = off + (k + 1) * 4 + j by omega]
 exact this
theorem zQ8 (w : World) (sz : Nat) (a : Addr) (cap : Nat) : RdS w sz (.slice (some a) 0 cap) [] := ⟨some a, cap, rfl, ⟨(fun h => by cases h), Qg _⟩, fun k t h => by simp at h⟩
theorem zMn (k : Int) (hk : k = 1 ∨ k = 2) (bs : List Nat) (bv : Value) (n : Nat) (hn : n <= 65535) (w : World) (hr : Rd w bv (bs.map u8v)) (h256 : ∀ x ∈ bs, x < 256) (hbig : bs.length <= 1000000) :
  Calls Tryz.prog 51 #[.int .i64 k, bv, .int .i64 (n : Int)] w fun e w' => RetV w.heap.size (readT k bs n) e w' ∧ Below w.heap.size w w' := by
 have HD := hid (zFg bv bs w hr h256 (by omega))
 obtain ⟨ba, bc, rfl⟩ := zAi hr
 obtain ⟨bn, hbn⟩ : ∃ bn, bn = (bs.map u8v).length := ⟨_, rfl⟩
 rw [<- hbn] at HD ⊢
 have H256 := hid h256
 have HBIG := hid hbig
 have HK := hid hk
 clear hr h256 hbig hbn
 obtain ⟨i0, hi, hz0, hz1, hz2⟩ := info_parts zJe
 have HI := hid hi
 have HZ0 := hid hz0
 have HZ1 := hid hz1
 have HZ2 := hid hz2
 clear hi hz0 hz1 hz2
 go_enter Tryz.func51, Tryz.ntmps51
 go_wp2_with fail
 refine HD.out.mono ?_
 rintro e w2 hd
 rcases hd with ⟨h0, rfl, hb⟩ | ⟨nl, r, ao, len, cap, ao2, len2, cap2, h, rfl, hr1, hr2, hb⟩
 ·have HF := hid (show RetV w.heap.size (readT k bs n) (.returned (.tuple #[.slice none 0 0, .bool false])) w2 from by unfold readT; rw [h0]; rfl)
  have HB := hid hb
  clear h0 hb
  go_wp2_with fail
  go_ret2
  exact ⟨HF.out, HB.out⟩
 ·have hln : len = nl.length := by
   obtain ⟨_, _, hv, _⟩ := hr1
   simp only [Value.slice.injEq, Qa] at hv
   exact hv.2.1
  have HB := hid hb
  have HR1 := hid hr1
  have HR2 := hid hr2
  have HH := hid h
  clear h hb hr1 hr2
  by_cases hc : len = n
  case neg =>
   have hne : ((len : Int) != (n : Int)) = true := by rw [bne_iff_ne]; omega
   have hne2 : ¬ len = n := hc
   have HF := hid (show RetV w.heap.size (readT k bs n) (.returned (.tuple #[.slice none 0 0, .bool false])) w2 from by unfold readT; rw [HH.out]; simp only; rw [if_neg (by rw [<- hln]; exact hc)]; rfl)
   clear hln hc
   go_wp2_with fail
   go_ret2
   exact ⟨HF.out, HB.out⟩
  case pos =>
   subst hc
   have hne : ((len : Int) != (len : Int)) = false := by simp
   obtain ⟨c, hcc⟩ : ∃ c, c = countB nl := ⟨_, rfl⟩
   have hcl : c <= len := by rw [hcc, hln]; exact countB_le nl
   obtain ⟨d, hd⟩ : ∃ d, d = len - c := ⟨_, rfl⟩
   have hsub : (len : Int) - (c : Int) = (d : Int) := by omega
   have hwd : IntKind.i64.wrap (d : Int) = (d : Int) := IntWalk.i64_in _ (by omega)
   have hwd2 : IntKind.i64.wrap ((len : Int) - (c : Int)) = (d : Int) := by rw [hsub]; exact hwd
   have HCA := hid (zC9 (.slice ao len cap) nl w2 HR1.out (by rw [<- hln]; omega))
   rw [<- hcc] at HCA
   obtain ⟨j, hj⟩ := zOk HH.out
   have hr8 : ∀ x ∈ r, x < 256 := fun x hx => H256.out x (by rw [hj] at hx; exact Qn hx)
   have HTH := hid (zS2 k HK.out r (.slice ao2 len2 cap2) (d : Int) w2 HR2.out hr8 (by rw [hj, Qo]; have := HBIG.out; omega) (fun vs h => by have := zI6 HK.out hr8 h; omega) (fun l h y hy x hx => ((zOm hr8 h).2.2 y hy).1 x hx))
   have HTL := hid fun vs h => zI6 HK.out hr8 (c := (d : Int)) (vs := vs) h
   have HRT := hid (show readT k bs len = (thereT k r (d : Int)).map (sfillT k nl) from by unfold readT; rw [HH.out]; simp only; rw [if_pos hln.symm, <- hcc, hsub])
   have HLN := hid hln
   have HCC := hid hcc
   have HDD := hid hd
   clear hln hcc hj hr8 hd hsub
   go_wp2_with fail
   refine HCA.out.mono ?_
   rintro e w3 ⟨rfl, rfl⟩
   go_wp2_with fail
   refine HTH.out.mono ?_
   rintro e w3 ⟨hret, hb3⟩
   have HB3 := hid (zAa HB.out hb3)
   have HB23 := hid hb3
   clear hb3
   cases ht : thereT k r (d : Int) with
   | none =>
    rw [ht] at hret
    subst hret
    have HF := hid (show RetV w.heap.size (readT k bs len) (.returned (.tuple #[.slice none 0 0, .bool false])) w3 from by rw [HRT.out, ht]; rfl)
    clear ht
    go_wp2_with fail
    go_ret2
    exact ⟨HF.out, HB3.out⟩
   | some vs =>
    rw [ht] at hret
    obtain ⟨tv, lt, rfl, hlt, hov⟩ := hret
    have HRT2 := hid (show readT k bs len = some (sfillT k nl vs) from by rw [HRT.out, ht]; rfl)
    have hvl := HTL.out vs ht
    have HLL := hid (show lt.length + c = len from by have h1 := congrArg List.length hlt; rw [Qa] at h1; have := hvl.1; have := HDD.out; omega)
    have HLT := hid hlt
    have HOV := hid hov
    obtain ⟨ta, tc, rfl⟩ := zAk hov.rdP.1
    rw [Qa] at HOV
    rw [Qa]
    obtain ⟨m, hm⟩ : ∃ m, m = lt.length := ⟨_, rfl⟩
    rw [<- hm] at HOV ⊢
    have HM := hid hm
    clear ht hlt hov hvl hm
    go_wp2_with (at_make; go_must (refine wpList_make_full _ rfl _ _ 27 rfl w3.heap.size 31 i0 _ 4 Tryz.underlying27 HI.out HZ0.out HZ1.out .i64 .i64 _ _ len rfl rfl rfl rfl (by rw [HZ2.out]; omega) (by unfold maxLen; omega) (Qh _) ?_); intro w4 hown4 hgrow4)
    obtain ⟨xs0, hown4b⟩ : ∃ xs0, w4.ownsRow w3.heap.size 31 4 (.slice (some ⟨w3.heap.size, 0, none⟩) len len) len xs0 := ⟨_, hown4⟩
    have HO4 := hid hown4b
    have HB4 := hid (show Below w3.heap.size w3 w4 from ⟨hgrow4.os, hgrow4.tape, hgrow4.output, hgrow4.size, fun i hi => hgrow4.block i hi (by simp)⟩)
    obtain ⟨G, hG⟩ : ∃ G, G = w3.heap.size := ⟨_, rfl⟩
    have HGG := hid hG
    rw [<- hG] at HO4 ⊢
    clear hown4 hown4b hgrow4 hG
    go_wp2_with fail
    go_loopw [11, 45] (fun th i wr => ∃ (q : Nat) (ya : Option Addr) (yn yc : Nat) (lr lv : List (Vc × Value)) (xs : List Value), q <= len ∧ i = .int .i64 (q : Int) ∧ th = .slice ya yn yc ∧ RdP w3 (.slice ya yn yc) lr ∧ lr.length = yn ∧ yn + countB (nl.drop q) = len - q ∧
     sfillT k nl vs = lv.map Prod.fst ++ sfillT k (nl.drop q) (lr.map Prod.fst) ∧ lv.length = q ∧ (∀ t ∈ lr ++ lv, RdB w.heap.size w3 t.2 t.1.b ∧ ∀ x ∈ t.1.b, x < 256) ∧ xs.length = len * 4 ∧ xs.take (q * 4) = (lv.map cellsV).flatten ∧
     wr.ownsRow G 31 4 (.slice (some ⟨G, 0, none⟩) len len) len xs ∧ Below w3.heap.size w3 wr) (fun _ i _ => len - (intOf i).toNat)
    case atStart =>
     refine ⟨0, ta, m, tc, lt, [], xs0, Qg _, rfl, rfl, HOV.out.rdP, HM.out.symm, ?_, ?_, rfl, fun t ht => ?_, by simpa using HO4.out.1, by simp, HO4.out, HB4.out⟩
     ·rw [Qp, <- HCC.out, HM.out]
      have := HLL.out
      omega
     ·rw [List.map_nil, List.nil_append, Qp, HLT.out]
     ·rw [Qq] at ht
      have := HOV.out.2 t ht
      exact ⟨this.1.above (Above.refl _ _) HB.out.size, this.2⟩
    case round =>
     obtain ⟨q, ya, yn, yc, lr, lv, xs, hq, rfl, rfl, hrp, hll, hcn, hfill, hlvl, hall, hxl, hxt, hown, hb⟩ := hrel
     have HRP := hid hrp
     have HLRL := hid hll
     have HCN := hid hcn
     have HFI := hid hfill
     have HLV := hid hlvl
     have HALL := hid hall
     have HXL := hid hxl
     have HXT := hid hxt
     have HO := hid hown
     have HBr := hid hb
     clear hrp hll hcn hfill hlvl hall hxl hxt hown hb
     by_cases hlt : q < len
     ·obtain ⟨x, hx⟩ : ∃ x, nl[q]? = some x := ⟨_, Qr (by rw [<- HLN.out]; exact hlt)⟩
      have hdr : nl.drop q = x :: nl.drop (q + 1) := List.drop_eq_getElem?_toList_append.trans (by rw [hx]; rfl)
      obtain ⟨nb, noff, rfl, hcells⟩ := (zE5 ((HR1.out.kept HB23.out).kept HBr.out)).2 (by omega)
      have hcn := hcells q hlt
      rw [show nl.getD q false = x by rw [List.getD_eq_getElem?_getD, hx]; rfl] at hcn
      have hxx : ∀ j, j < 4 -> ∃ u, wr.cell? ⟨G, q * 4 + j, none⟩ = some u := fun j hj => by
       have hlt2 : q * 4 + j < xs.length := by rw [HXL.out]; omega
       exact ⟨_, (HO.out.cellAt (q * 4 + j) (by omega)).trans (Qr hlt2)⟩
      obtain ⟨u0, c0⟩ := hxx 0 (by decide)
      obtain ⟨u1, c1⟩ := hxx 1 (by decide)
      obtain ⟨u2, c2⟩ := hxx 2 (by decide)
      obtain ⟨u3, c3⟩ := hxx 3 (by decide)
      have f0 := HO.out.frozenAt (q * 4 + 0)
      have f1 := HO.out.frozenAt (q * 4 + 1)
      have f2 := HO.out.frozenAt (q * 4 + 2)
      have f3 := HO.out.frozenAt (q * 4 + 3)
      simp only [Qs] at c0 f0
      have HDR := hid hdr
      have hgw : w3.heap.size <= G := by rw [HGG.out]; exact Qh _
      clear hxx hx hdr hcells
      cases x
      ·obtain ⟨t, lr', hlr⟩ : ∃ t lr', lr = t :: lr' := by
        cases hlr : lr with
        | nil =>
         have h1 := HCN.out
         have h2 := HLRL.out
         rw [HDR.out] at h1
         have h3 := countB_le (nl.drop (q + 1))
         rw [Qo, <- HLN.out] at h3
         rw [hlr] at h2
         simp [countB] at h1 h2
         omega
        | cons t lr' => exact ⟨t, lr', rfl⟩
       subst hlr
       obtain ⟨yb, yo, rfl, p0, p1, p2, p3, ok⟩ := (HRP.out.kept HBr.out).at (k := 0) (t := t) rfl
       simp only [Nat.zero_mul, Qs] at p0 p1 p2 p3
       obtain ⟨hyn, hyc, htl⟩ := zU1 HRP.out
       have HTLP := hid htl
       have HRD := hid (HALL.out t (by simp))
       obtain ⟨sa, sc, hts⟩ := zAf ok.1
       have hy0 : (0 : Int) < (yn : Int) := by omega
       have hy1 : (1 : Int) <= (yn : Int) := by omega
       have hy1n : 1 <= yn := by omega
       have HYN := hid hyn
       have HFIL := hid (show sfillT k nl vs = (lv ++ [t]).map Prod.fst ++ sfillT k (nl.drop (q + 1)) (lr'.map Prod.fst) from by
        rw [HFI.out, HDR.out, List.map_cons, sfillT, Qi, Qt]
        rfl)
       have HXTN := hid (show (vset4 xs (q * 4) (.bool t.1.u) (.int .i64 t.1.k) (.int .i64 t.1.n) t.2).take ((q + 1) * 4) = ((lv ++ [t]).map cellsV).flatten from by
        rw [show (q + 1) * 4 = q * 4 + 4 by omega, zH3 xs (q * 4) (by rw [HXL.out]; omega), HXT.out, Qi, Qu]
        simp [cellsV])
       obtain ⟨⟨tu, tk, tn, tb⟩, ts⟩ := t
       simp only at p0 p1 p2 p3 hts HXTN
       subst hts
       have HST := hid (zI5 (q := q) HO.out (.bool tu) (.int .i64 tk) (.int .i64 tn) (.slice sa tb.length sc))
       have HBS := hid (zBj (i := q * 4) (j := q * 4 + 1) (k := q * 4 + 2) (l := q * 4 + 3) HBr.out hgw (.bool tu) (.int .i64 tk) (.int .i64 tn) (.slice sa tb.length sc))
       have HALN := hid (show ∀ t ∈ lr' ++ (lv ++ [((⟨tu, tk, tn, tb⟩ : Vc), Value.slice sa tb.length sc)]), RdB w.heap.size w3 t.2 t.1.b ∧ ∀ x ∈ t.1.b, x < 256 from fun t ht => by
        rcases Qj.1 ht with h | h
        ·exact HALL.out t (by simp [h])
        ·rcases Qj.1 h with h | h
         ·exact HALL.out t (by simp [h])
         ·rw [Qv.1 h]; exact HRD.out)
       have HCNN := hid (show lr'.length + countB (nl.drop (q + 1)) = len - (q + 1) from by
        have h1 := HCN.out
        rw [HDR.out] at h1
        have h2 := HYN.out
        simp [countB] at h1
        omega)
       clear ok htl hyn
       by_cases hyc1 : yc = 1
       ·subst hyc1
        have hyn1 : yn = 1 := by omega
        have hnil : lr' = [] := by have := HYN.out; exact List.length_eq_zero_iff.1 (by omega)
        subst hnil
        clear HYN
        subst hyn1
        go_wp2_with fail
        go_roundw
        case rel =>
         exact ⟨q + 1, _, _, _, [], lv ++ [(⟨tu, tk, tn, tb⟩, .slice sa tb.length sc)], _, by omega, by go_num, rfl, ⟨zQ8 _ _ _ _, fun t ht => (by cases ht)⟩, rfl, HCNN.out, HFIL.out, by rw [Qk, HLV.out]; rfl, HALN.out, (zGq ..).trans HXL.out, HXTN.out, HST.out, HBS.out⟩
        case measure => simp [intOf]; omega
       ·have hyc2 : ¬ yc = 1 := hyc1
        have hyc3 : 1 <= yc := by omega
        have hyci : (1 : Int) <= (yc : Int) := by omega
        go_wp2_with fail
        go_roundw
        case rel =>
         exact ⟨q + 1, _, _, _, lr', lv ++ [(⟨tu, tk, tn, tb⟩, .slice sa tb.length sc)], _, by omega, by go_num, rfl, HTLP.out, by have := HYN.out; omega, by have := HCNN.out; have := HYN.out; omega, HFIL.out, by rw [Qk, HLV.out]; rfl, HALN.out, (zGq ..).trans HXL.out, HXTN.out, HST.out, HBS.out⟩
        case measure => simp [intOf]; omega
      ·have HFIL := hid (show sfillT k nl vs = (lv ++ [((⟨true, k, 0, []⟩ : Vc), Value.slice none 0 0)]).map Prod.fst ++ sfillT k (nl.drop (q + 1)) (lr.map Prod.fst) from by
        rw [HFI.out, HDR.out, sfillT, Qi, Qt]
        rfl)
       have HXTN := hid (show (vset4 xs (q * 4) (.bool true) (.int .i64 k) (.int .i64 0) (.slice none 0 0)).take ((q + 1) * 4) = ((lv ++ [((⟨true, k, 0, []⟩ : Vc), Value.slice none 0 0)]).map cellsV).flatten from by
        rw [show (q + 1) * 4 = q * 4 + 4 by omega, zH3 xs (q * 4) (by rw [HXL.out]; omega), HXT.out, Qi, Qu]
        simp [cellsV])
       have HST := hid (zI5 (q := q) HO.out (.bool true) (.int .i64 k) (.int .i64 0) (.slice none 0 0))
       have HBS := hid (zBj (i := q * 4) (j := q * 4 + 1) (k := q * 4 + 2) (l := q * 4 + 3) HBr.out hgw (.bool true) (.int .i64 k) (.int .i64 0) (.slice none 0 0))
       have HCNN := hid (show yn + countB (nl.drop (q + 1)) = len - (q + 1) from by
        have h1 := HCN.out
        rw [HDR.out] at h1
        simp [countB] at h1
        omega)
       go_wp2_with fail
       go_roundw
       case rel =>
        refine ⟨q + 1, ya, yn, yc, lr, lv ++ [(⟨true, k, 0, []⟩, .slice none 0 0)], _, by omega, by go_num, rfl, HRP.out, HLRL.out, HCNN.out, HFIL.out, by rw [Qk, HLV.out]; rfl, fun t ht => ?_, (zGq ..).trans HXL.out, HXTN.out, HST.out, HBS.out⟩
        rcases Qj.1 ht with h | h
        ·exact HALL.out t (by simp [h])
        ·rcases Qj.1 h with h | h
         ·exact HALL.out t (by simp [h])
         ·rw [Qv.1 h]; exact ⟨zPx _ _, fun x hx => by cases hx⟩
       case measure => simp [intOf]; omega
     ·have hqn : q = len := by omega
      have HF := hid (show RetV w.heap.size (readT k bs len) (.returned (.tuple #[.slice (some ⟨G, 0, none⟩) len len, .bool true])) wr from by
       rw [HRT2.out]
       refine ⟨_, lv, rfl, ?_, ?_, fun t ht => ?_⟩
       ·rw [HFI.out, List.drop_eq_nil_of_le (by rw [<- HLN.out]; omega), sfillT, Qq]
       ·have h := HXT.out
        rw [hqn, List.take_of_length_le (by rw [HXL.out]; exact Qh _)] at h
        have h2 := HO.out
        rw [h] at h2
        have h3 := HLV.out
        rw [hqn] at h3
        rw [h3]
        exact Joins.ownsRow_le h2 (by rw [HGG.out]; exact HB3.out.size)
       ·have := HALL.out t (List.mem_append_right _ ht)
        exact ⟨this.1.above (zCd HBr.out) (Qh _), this.2⟩)
      have HBF := hid (zAa HB3.out HBr.out)
      clear hqn
      go_wp2_with fail
      go_ret2
      exact ⟨HF.out, HBF.out⟩
end Go.Proofs.YtmpgnjhgegbdkaaGreat
