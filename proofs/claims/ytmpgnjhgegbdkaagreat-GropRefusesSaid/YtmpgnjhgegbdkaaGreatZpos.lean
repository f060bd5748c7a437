import Derived.Test.YtmpgnjhgegbdkaaGreatZcmp
import Derived.Deep.CutBlock
import Derived.Deep.DeepCutAuto
set_option linter.unusedVariables false
set_option linter.unusedSimpArgs false
set_option maxRecDepth 100000
set_option maxHeartbeats 16000000
open Go.Lib (hid)
namespace Go.Proofs.YtmpgnjhgegbdkaaGreat
open Go.RowKit
open _root_.Int renaming toNat_natCast -> Qa
open _root_.List renaming getElem?_map -> Qb, length_map -> Qc, getElem?_eq_getElem -> Qe, mem_of_getElem? -> Qf, getElem?_eq_none -> Qg
open _root_.Nat renaming add_zero -> Qd
open Go renaming cell_of_row -> Qh
def posB (nt : Bool) (k c o : Int) (v : Vc) (zs : List Zt) (cnt : Int) : Bool :=
 if c < 0 then true else match zs[c.toNat]? with
 | none => true
 | some z => if nt = true then decide (z.n < cnt) else if k = 3 then decide (0 < z.n) else (decide (z.n < cnt) && !z.lo.u && !z.hi.u && cmpPosT o v z)
def posT (t : Pt) (zs : List Zt) (cnt : Int) : Bool := match t with
 | .mk k c o v l => if k = 6 then (match l with | .mk k' c' o' v' _ :: _ => posB true k' c' o' v' zs cnt | [] => false) else posB false k c o v zs cnt
def thing (t : Pt) : Prop := match t with | .mk k c o v l => k = 6 -> l ≠ []
def RdZV (w : World) (v : Value) (zs : List Zv) : Prop := RdS w 9 v (zs.map cellsZ) ∧ ∀ z ∈ zs, OkZ w z
theorem RdZV.kept {w w' : World} {v : Value} {zs : List Zv} (h : RdZV w v zs) (hb : Below w.heap.size w w') : RdZV w' v zs := ⟨h.1.kept hb, fun z hz => (h.2 z hz).kept hb⟩
theorem zCs {w : World} {v : Value} {zs : List Zv} (h : RdZV w v zs) : ∃ ao cap, v = .slice ao zs.length cap := by
 obtain ⟨ao, cap, hv⟩ := zAk h.1
 exact ⟨ao, cap, by rw [Qc] at hv; exact hv⟩
theorem zOe (t : Pt) (ht : thing t) (cs : List Value) (zv : Value) (zs : List Zv) (cnt : Int) (w : World) (hr : RdT1 w t cs) (hz : RdZV w zv zs) (hzl : zs.length <= 1000000) :
  Calls Tryz.prog 116 #[.agg cs.toArray, zv, .int .i64 cnt] w fun e w' => e = .returned (.bool (posT t (zs.map Zv.t) cnt)) ∧ Below w.heap.size w w' := by
 obtain ⟨za, zc, rfl⟩ := zCs hz
 obtain ⟨n, hN⟩ : ∃ n, n = zs.length := ⟨_, rfl⟩
 rw [<- hN] at hz hzl ⊢
 have HN := hid hN
 have HZV := hid hz
 obtain ⟨k, c, o, v, l⟩ := t
 unfold RdT1 at hr
 obtain ⟨s, ls, css, rfl, hov, hls, hts⟩ := hr
 obtain ⟨sa, sc, hes⟩ := zAf hov.1
 obtain ⟨ea, ec, hel⟩ := zAk hls
 simp only at hes
 subst hes hel
 obtain ⟨m, hm⟩ : ∃ m, m = css.length := ⟨_, rfl⟩
 rw [<- hm] at hls ⊢
 have HML := hid (hm.trans (zBy hts))
 clear hm
 have HOV := hid hov
 obtain ⟨vu, vk, vn, vb⟩ := v
 unfold cellsP
 simp only
 clear hz hN hov
 have hbx := zAd w (.cells #[.int .i64 k, .int .i64 c, .int .i64 o, .bool vu, .int .i64 vk, .int .i64 vn, .slice sa vb.length sc, .slice ea m ec] 65)
 have hxx := heap_alloc_new w (.cells #[.int .i64 k, .int .i64 c, .int .i64 o, .bool vu, .int .i64 vk, .int .i64 vn, .slice sa vb.length sc, .slice ea m ec] 65)
 by_cases hk6 : k = 6
 ·subst hk6
  have hne : l ≠ [] := ht rfl
  obtain ⟨q, r, hq⟩ : ∃ q r, l = q :: r := by
   match l, hne with
   | q :: r, _ => exact ⟨q, r, rfl⟩
  subst hq
  have hm0 : 0 < m := by rw [HML.out]; simp
  obtain ⟨cs1, hcs1, hrd⟩ := zFq hts (k := 0) (q := q) rfl
  have hat := hls.at hcs1
  obtain ⟨qk, qc, qo, qv, ql⟩ := q
  have HR := hid (show posT (.mk 6 c o ⟨vu, vk, vn, vb⟩ (.mk qk qc qo qv ql :: r)) (zs.map Zv.t) cnt = posB true qk qc qo qv (zs.map Zv.t) cnt by unfold posT; simp)
  unfold RdT1 at hrd
  obtain ⟨es, els, ecss, rfl, hok3, hels, hets⟩ := hrd
  obtain ⟨qsa, qsc, hes⟩ := zAf hok3.1
  obtain ⟨qea, qec, hel⟩ := zAk hels
  simp only at hes
  subst hes hel
  obtain ⟨qm, hqm⟩ : ∃ qm, qm = ecss.length := ⟨_, rfl⟩
  rw [<- hqm] at hat
  obtain ⟨b, off, rfl, hcell⟩ := hat
  obtain ⟨qvu, qvk, qvn, qvb⟩ := qv
  have k0 : w.cell? ⟨b, off + 0 * 8 + 0, none⟩ = some (.int .i64 qk) := hcell 0 _ rfl
  have k1 : w.cell? ⟨b, off + 0 * 8 + 1, none⟩ = some (.int .i64 qc) := hcell 1 _ rfl
  have k2 : w.cell? ⟨b, off + 0 * 8 + 2, none⟩ = some (.int .i64 qo) := hcell 2 _ rfl
  have k3 : w.cell? ⟨b, off + 0 * 8 + 3, none⟩ = some (.bool qvu) := hcell 3 _ rfl
  have k4 : w.cell? ⟨b, off + 0 * 8 + 4, none⟩ = some (.int .i64 qvk) := hcell 4 _ rfl
  have k5 : w.cell? ⟨b, off + 0 * 8 + 5, none⟩ = some (.int .i64 qvn) := hcell 5 _ rfl
  have k6 : w.cell? ⟨b, off + 0 * 8 + 6, none⟩ = some (.slice qsa qvb.length qsc) := hcell 6 _ rfl
  have k7 : w.cell? ⟨b, off + 0 * 8 + 7, none⟩ = some (.slice qea qm qec) := hcell 7 _ rfl
  simp only [Nat.zero_mul, Qd] at k0 k1 k2 k3 k4 k5 k6 k7
  replace k0 := Lib.cell?_alloc_some (W := w) (.cells #[.int .i64 6, .int .i64 c, .int .i64 o, .bool vu, .int .i64 vk, .int .i64 vn, .slice sa vb.length sc, .slice (some ⟨b, off, none⟩) m ec] 65) k0
  replace k1 := Lib.cell?_alloc_some (W := w) (.cells #[.int .i64 6, .int .i64 c, .int .i64 o, .bool vu, .int .i64 vk, .int .i64 vn, .slice sa vb.length sc, .slice (some ⟨b, off, none⟩) m ec] 65) k1
  replace k2 := Lib.cell?_alloc_some (W := w) (.cells #[.int .i64 6, .int .i64 c, .int .i64 o, .bool vu, .int .i64 vk, .int .i64 vn, .slice sa vb.length sc, .slice (some ⟨b, off, none⟩) m ec] 65) k2
  replace k3 := Lib.cell?_alloc_some (W := w) (.cells #[.int .i64 6, .int .i64 c, .int .i64 o, .bool vu, .int .i64 vk, .int .i64 vn, .slice sa vb.length sc, .slice (some ⟨b, off, none⟩) m ec] 65) k3
  replace k4 := Lib.cell?_alloc_some (W := w) (.cells #[.int .i64 6, .int .i64 c, .int .i64 o, .bool vu, .int .i64 vk, .int .i64 vn, .slice sa vb.length sc, .slice (some ⟨b, off, none⟩) m ec] 65) k4
  replace k5 := Lib.cell?_alloc_some (W := w) (.cells #[.int .i64 6, .int .i64 c, .int .i64 o, .bool vu, .int .i64 vk, .int .i64 vn, .slice sa vb.length sc, .slice (some ⟨b, off, none⟩) m ec] 65) k5
  replace k6 := Lib.cell?_alloc_some (W := w) (.cells #[.int .i64 6, .int .i64 c, .int .i64 o, .bool vu, .int .i64 vk, .int .i64 vn, .slice sa vb.length sc, .slice (some ⟨b, off, none⟩) m ec] 65) k6
  replace k7 := Lib.cell?_alloc_some (W := w) (.cells #[.int .i64 6, .int .i64 c, .int .i64 o, .bool vu, .int .i64 vk, .int .i64 vn, .slice sa vb.length sc, .slice (some ⟨b, off, none⟩) m ec] 65) k7
  have hm0i : (0 : Int) < (m : Int) := by omega
  have HBX := hid hbx
  have HXX := hid hxx
  clear hcell hcs1 hok3 hels hets hls hts hne ht hqm hbx hxx HOV
  go_enter Tryz.func116, Tryz.ntmps116
  go_upto_region 4 with (fail)
  obtain ⟨W, hW⟩ : ∃ W : World, W = w.alloc (.cells #[.int .i64 qk, .int .i64 qc, .int .i64 qo, .bool qvu, .int .i64 qvk, .int .i64 qvn, .slice qsa qvb.length qsc, .slice qea qm qec] 65) := ⟨_, rfl⟩
  rw [<- hW]
  have HX := hid (show W.heap[w.heap.size]? = some (.cells #[.int .i64 qk, .int .i64 qc, .int .i64 qo, .bool qvu, .int .i64 qvk, .int .i64 qvn, .slice qsa qvb.length qsc, .slice qea qm qec] 65 (0, 0)) by rw [hW]; exact heap_alloc_new w _)
  have HB := hid (show Below w.heap.size w W by rw [hW]; exact zAd w _)
  clear hW k0 k1 k2 k3 k4 k5 k6 k7
  have hx := HX.out
  have xd0 : W.cell? ⟨w.heap.size, 0, none⟩ = some (.int .i64 qk) := (by rw [Qh W _ 0 _ _ _ hx]; rfl)
  have xd1 : W.cell? ⟨w.heap.size, 1, none⟩ = some (.int .i64 qc) := (by rw [Qh W _ 1 _ _ _ hx]; rfl)
  have xd2 : W.cell? ⟨w.heap.size, 2, none⟩ = some (.int .i64 qo) := (by rw [Qh W _ 2 _ _ _ hx]; rfl)
  have xd3 : W.cell? ⟨w.heap.size, 3, none⟩ = some (.bool qvu) := (by rw [Qh W _ 3 _ _ _ hx]; rfl)
  have xd4 : W.cell? ⟨w.heap.size, 4, none⟩ = some (.int .i64 qvk) := (by rw [Qh W _ 4 _ _ _ hx]; rfl)
  have xd5 : W.cell? ⟨w.heap.size, 5, none⟩ = some (.int .i64 qvn) := (by rw [Qh W _ 5 _ _ _ hx]; rfl)
  have xd6 : W.cell? ⟨w.heap.size, 6, none⟩ = some (.slice qsa qvb.length qsc) := (by rw [Qh W _ 6 _ _ _ hx]; rfl)
  have xd7 : W.cell? ⟨w.heap.size, 7, none⟩ = some (.slice qea qm qec) := (by rw [Qh W _ 7 _ _ _ hx]; rfl)
  clear hx
  by_cases hc0 : qc < 0
  ·have hd : decide (qc < 0) = true := by rw [decide_eq_true_eq]; exact hc0
   have HA := hid (show posB true qk qc qo ⟨qvu, qvk, qvn, qvb⟩ (zs.map Zv.t) cnt = true by unfold posB; rw [if_pos hc0])
   clear hc0
   go_wp2_with fail
   go_ret
   exact ⟨by rw [HR.out, HA.out] <;> rfl, HB.out⟩
  ·have hd : decide (qc < 0) = false := by rw [decide_eq_false_iff_not]; exact hc0
   obtain ⟨i, hi⟩ : ∃ i : Nat, qc = (i : Int) := ⟨qc.toNat, by omega⟩
   subst hi
   by_cases hin : i < n
   ·have hd2 : decide ((n : Int) <= (i : Int)) = false := by rw [decide_eq_false_iff_not]; omega
    have hd3 : decide (n <= i) = false := by rw [decide_eq_false_iff_not]; omega
    have hii : (i : Int) < (n : Int) := by omega
    have hi0 : (0 : Int) <= (i : Int) := by omega
    obtain ⟨z, hz⟩ : ∃ z, zs[i]? = some z := ⟨_, Qe (by rw [<- HN.out]; exact hin)⟩
    have HPB := hid (show posB true qk (i : Int) qo ⟨qvu, qvk, qvn, qvb⟩ (zs.map Zv.t) cnt = if true = true then decide (z.n < cnt) else if qk = 3 then decide (0 < z.n) else (decide (z.n < cnt) && !z.lo.1.u && !z.hi.1.u && cmpPosT qo ⟨qvu, qvk, qvn, qvb⟩ z.t) by unfold posB; rw [if_neg (by omega), Qa, Qb, hz]; rfl)
    have hok := (HZV.out.kept HB.out).2 z (Qf hz)
    obtain ⟨b, off, rfl, hcell⟩ := (HZV.out.kept HB.out).1.at (k := i) (t := cellsZ z) (by rw [Qb, hz]; rfl)
    have HOKZ := hid hok
    obtain ⟨la, lc, hl1⟩ := zAf hok.1.1
    obtain ⟨ha, hc, hh1⟩ := zAf hok.2.1
    obtain ⟨zn, ⟨⟨lu, lk, ln, lb⟩, l1⟩, ⟨⟨hu, hk, hn, hb⟩, h1⟩⟩ := z
    simp only at hl1 hh1
    subst hl1 hh1
    have zd0 : W.cell? ⟨b, off + i * 9 + 0, none⟩ = some (.int .i64 zn) := hcell 0 _ rfl
    have zd1 : W.cell? ⟨b, off + i * 9 + 1, none⟩ = some (.bool lu) := hcell 1 _ rfl
    have zd2 : W.cell? ⟨b, off + i * 9 + 2, none⟩ = some (.int .i64 lk) := hcell 2 _ rfl
    have zd3 : W.cell? ⟨b, off + i * 9 + 3, none⟩ = some (.int .i64 ln) := hcell 3 _ rfl
    have zd4 : W.cell? ⟨b, off + i * 9 + 4, none⟩ = some (.slice la lb.length lc) := hcell 4 _ rfl
    have zd5 : W.cell? ⟨b, off + i * 9 + 5, none⟩ = some (.bool hu) := hcell 5 _ rfl
    have zd6 : W.cell? ⟨b, off + i * 9 + 6, none⟩ = some (.int .i64 hk) := hcell 6 _ rfl
    have zd7 : W.cell? ⟨b, off + i * 9 + 7, none⟩ = some (.int .i64 hn) := hcell 7 _ rfl
    have zd8 : W.cell? ⟨b, off + i * 9 + 8, none⟩ = some (.slice ha hb.length hc) := hcell 8 _ rfl
    simp only [Qd] at zd0
    clear hok hcell hz hc0
    have HF := hid (zAn HB.out (.cells #[.int .i64 zn, .bool lu, .int .i64 lk, .int .i64 ln, .slice la lb.length lc, .bool hu, .int .i64 hk, .int .i64 hn, .slice ha hb.length hc] 103))
    by_cases hcn : zn < cnt
    ·have hd4 : decide (zn < cnt) = true := by rw [decide_eq_true_eq]; exact hcn
     have HQ := hid hd4
     clear hcn
     go_wp2_with fail
     go_ret
     refine ⟨?_, HF.out⟩
     rw [HR.out, HPB.out, if_pos (by trivial), HQ.out] <;> rfl
    ·have hd4 : decide (zn < cnt) = false := by rw [decide_eq_false_iff_not]; exact hcn
     have HQ := hid hd4
     clear hcn
     go_wp2_with fail
     go_ret
     refine ⟨?_, HF.out⟩
     rw [HR.out, HPB.out, if_pos (by trivial), HQ.out] <;> rfl
   ·have hd2 : decide ((n : Int) <= (i : Int)) = true := by rw [decide_eq_true_eq]; omega
    have hd3 : decide (n <= i) = true := by rw [decide_eq_true_eq]; omega
    have HA := hid (show posB true qk (i : Int) qo ⟨qvu, qvk, qvn, qvb⟩ (zs.map Zv.t) cnt = true by unfold posB; rw [if_neg (by omega), Qa, Qg (by rw [Qc, <- HN.out]; omega)])
    clear hc0 hin
    go_wp2_with fail
    go_ret
    exact ⟨by rw [HR.out, HA.out] <;> rfl, HB.out⟩
 ·have hq6 : (k == 6) = false := by rw [beq_eq_false_iff_ne]; exact hk6
  have HR := hid (show posT (.mk k c o ⟨vu, vk, vn, vb⟩ l) (zs.map Zv.t) cnt = posB false k c o ⟨vu, vk, vn, vb⟩ (zs.map Zv.t) cnt by unfold posT; simp [hk6])
  clear hls hts ht
  go_enter Tryz.func116, Tryz.ntmps116
  go_upto_region 4 with (fail)
  obtain ⟨W, hW⟩ : ∃ W : World, W = w.alloc (.cells #[.int .i64 k, .int .i64 c, .int .i64 o, .bool vu, .int .i64 vk, .int .i64 vn, .slice sa vb.length sc, .slice ea m ec] 65) := ⟨_, rfl⟩
  rw [<- hW] at hbx hxx ⊢
  have HB := hid hbx
  have HX := hid hxx
  clear hW hbx hxx hk6
  have hx := HX.out
  have xd0 : W.cell? ⟨w.heap.size, 0, none⟩ = some (.int .i64 k) := (by rw [Qh W _ 0 _ _ _ hx]; rfl)
  have xd1 : W.cell? ⟨w.heap.size, 1, none⟩ = some (.int .i64 c) := (by rw [Qh W _ 1 _ _ _ hx]; rfl)
  have xd2 : W.cell? ⟨w.heap.size, 2, none⟩ = some (.int .i64 o) := (by rw [Qh W _ 2 _ _ _ hx]; rfl)
  have xd3 : W.cell? ⟨w.heap.size, 3, none⟩ = some (.bool vu) := (by rw [Qh W _ 3 _ _ _ hx]; rfl)
  have xd4 : W.cell? ⟨w.heap.size, 4, none⟩ = some (.int .i64 vk) := (by rw [Qh W _ 4 _ _ _ hx]; rfl)
  have xd5 : W.cell? ⟨w.heap.size, 5, none⟩ = some (.int .i64 vn) := (by rw [Qh W _ 5 _ _ _ hx]; rfl)
  have xd6 : W.cell? ⟨w.heap.size, 6, none⟩ = some (.slice sa vb.length sc) := (by rw [Qh W _ 6 _ _ _ hx]; rfl)
  have xd7 : W.cell? ⟨w.heap.size, 7, none⟩ = some (.slice ea m ec) := (by rw [Qh W _ 7 _ _ _ hx]; rfl)
  clear hx
  by_cases hc0 : c < 0
  ·have hd : decide (c < 0) = true := by rw [decide_eq_true_eq]; exact hc0
   have HA := hid (show posB false k c o ⟨vu, vk, vn, vb⟩ (zs.map Zv.t) cnt = true by unfold posB; rw [if_pos hc0])
   clear hc0
   go_wp2_with fail
   go_ret
   exact ⟨by rw [HR.out, HA.out] <;> rfl, HB.out⟩
  ·have hd : decide (c < 0) = false := by rw [decide_eq_false_iff_not]; exact hc0
   obtain ⟨i, hi⟩ : ∃ i : Nat, c = (i : Int) := ⟨c.toNat, by omega⟩
   subst hi
   by_cases hin : i < n
   ·have hd2 : decide ((n : Int) <= (i : Int)) = false := by rw [decide_eq_false_iff_not]; omega
    have hd3 : decide (n <= i) = false := by rw [decide_eq_false_iff_not]; omega
    have hii : (i : Int) < (n : Int) := by omega
    have hi0 : (0 : Int) <= (i : Int) := by omega
    obtain ⟨z, hz⟩ : ∃ z, zs[i]? = some z := ⟨_, Qe (by rw [<- HN.out]; exact hin)⟩
    have HPB := hid (show posB false k (i : Int) o ⟨vu, vk, vn, vb⟩ (zs.map Zv.t) cnt = if false = true then decide (z.n < cnt) else if k = 3 then decide (0 < z.n) else (decide (z.n < cnt) && !z.lo.1.u && !z.hi.1.u && cmpPosT o ⟨vu, vk, vn, vb⟩ z.t) by unfold posB; rw [if_neg (by omega), Qa, Qb, hz]; rfl)
    have hok := (HZV.out.kept HB.out).2 z (Qf hz)
    obtain ⟨b, off, rfl, hcell⟩ := (HZV.out.kept HB.out).1.at (k := i) (t := cellsZ z) (by rw [Qb, hz]; rfl)
    have HOKZ := hid hok
    obtain ⟨la, lc, hl1⟩ := zAf hok.1.1
    obtain ⟨ha, hc, hh1⟩ := zAf hok.2.1
    obtain ⟨zn, ⟨⟨lu, lk, ln, lb⟩, l1⟩, ⟨⟨hu, hk, hn, hb⟩, h1⟩⟩ := z
    simp only at hl1 hh1
    subst hl1 hh1
    have zd0 : W.cell? ⟨b, off + i * 9 + 0, none⟩ = some (.int .i64 zn) := hcell 0 _ rfl
    have zd1 : W.cell? ⟨b, off + i * 9 + 1, none⟩ = some (.bool lu) := hcell 1 _ rfl
    have zd2 : W.cell? ⟨b, off + i * 9 + 2, none⟩ = some (.int .i64 lk) := hcell 2 _ rfl
    have zd3 : W.cell? ⟨b, off + i * 9 + 3, none⟩ = some (.int .i64 ln) := hcell 3 _ rfl
    have zd4 : W.cell? ⟨b, off + i * 9 + 4, none⟩ = some (.slice la lb.length lc) := hcell 4 _ rfl
    have zd5 : W.cell? ⟨b, off + i * 9 + 5, none⟩ = some (.bool hu) := hcell 5 _ rfl
    have zd6 : W.cell? ⟨b, off + i * 9 + 6, none⟩ = some (.int .i64 hk) := hcell 6 _ rfl
    have zd7 : W.cell? ⟨b, off + i * 9 + 7, none⟩ = some (.int .i64 hn) := hcell 7 _ rfl
    have zd8 : W.cell? ⟨b, off + i * 9 + 8, none⟩ = some (.slice ha hb.length hc) := hcell 8 _ rfl
    simp only [Qd] at zd0
    clear hok hcell hz hc0
    have xe0 := Lib.cell?_alloc_some (W := W) (.cells #[.int .i64 zn, .bool lu, .int .i64 lk, .int .i64 ln, .slice la lb.length lc, .bool hu, .int .i64 hk, .int .i64 hn, .slice ha hb.length hc] 103) xd0
    by_cases hk3 : k = 3
    ·have hq3 : (k == 3) = true := by rw [beq_iff_eq]; exact hk3
     have HF := hid (zAn HB.out (.cells #[.int .i64 zn, .bool lu, .int .i64 lk, .int .i64 ln, .slice la lb.length lc, .bool hu, .int .i64 hk, .int .i64 hn, .slice ha hb.length hc] 103))
     have HK3 := hid hk3
     clear hk3
     by_cases hcn : 0 < zn
     ·have hd4 : decide (0 < zn) = true := by rw [decide_eq_true_eq]; exact hcn
      have HQ := hid hd4
      clear hcn
      go_wp2_with fail
      go_ret
      refine ⟨?_, HF.out⟩
      rw [HR.out, HPB.out, if_neg (by simp), if_pos HK3.out, HQ.out] <;> rfl
     ·have hd4 : decide (0 < zn) = false := by rw [decide_eq_false_iff_not]; exact hcn
      have HQ := hid hd4
      clear hcn
      go_wp2_with fail
      go_ret
      refine ⟨?_, HF.out⟩
      rw [HR.out, HPB.out, if_neg (by simp), if_pos HK3.out, HQ.out] <;> rfl
    ·have hq3 : (k == 3) = false := by rw [beq_eq_false_iff_ne]; exact hk3
     have HK3 := hid hk3
     clear hk3
     by_cases hcn : zn < cnt
     ·have hd4 : decide (zn < cnt) = true := by rw [decide_eq_true_eq]; exact hcn
      have HQ := hid hd4
      clear hcn
      obtain ⟨q, hq⟩ : ∃ q, q = cmpPosT o ⟨vu, vk, vn, vb⟩ (Zv.t ⟨zn, (⟨lu, lk, ln, lb⟩, .slice la lb.length lc), (⟨hu, hk, hn, hb⟩, .slice ha hb.length hc)⟩) := ⟨_, rfl⟩
      have HCM := hid (zK6 k (i : Int) o ⟨vu, vk, vn, vb⟩ (.slice sa vb.length sc) (.slice ea m ec) ⟨zn, (⟨lu, lk, ln, lb⟩, .slice la lb.length lc), (⟨hu, hk, hn, hb⟩, .slice ha hb.length hc)⟩ (W.alloc (.cells #[.int .i64 zn, .bool lu, .int .i64 lk, .int .i64 ln, .slice la lb.length lc, .bool hu, .int .i64 hk, .int .i64 hn, .slice ha hb.length hc] 103)) (HOV.out.kept (zAn HB.out _)) (HOKZ.out.kept (zAd W _)))
      rw [<- hq] at HCM
      have HQQ := hid hq
      have HF := hid (zAn HB.out (.cells #[.int .i64 zn, .bool lu, .int .i64 lk, .int .i64 ln, .slice la lb.length lc, .bool hu, .int .i64 hk, .int .i64 hn, .slice ha hb.length hc] 103))
      unfold aggP cellsZ cellsV at HCM
      simp only [List.cons_append, List.nil_append] at HCM
      have xe1 := Lib.cell?_alloc_some (W := W) (.cells #[.int .i64 zn, .bool lu, .int .i64 lk, .int .i64 ln, .slice la lb.length lc, .bool hu, .int .i64 hk, .int .i64 hn, .slice ha hb.length hc] 103) xd1
      have xe2 := Lib.cell?_alloc_some (W := W) (.cells #[.int .i64 zn, .bool lu, .int .i64 lk, .int .i64 ln, .slice la lb.length lc, .bool hu, .int .i64 hk, .int .i64 hn, .slice ha hb.length hc] 103) xd2
      have xe3 := Lib.cell?_alloc_some (W := W) (.cells #[.int .i64 zn, .bool lu, .int .i64 lk, .int .i64 ln, .slice la lb.length lc, .bool hu, .int .i64 hk, .int .i64 hn, .slice ha hb.length hc] 103) xd3
      have xe4 := Lib.cell?_alloc_some (W := W) (.cells #[.int .i64 zn, .bool lu, .int .i64 lk, .int .i64 ln, .slice la lb.length lc, .bool hu, .int .i64 hk, .int .i64 hn, .slice ha hb.length hc] 103) xd4
      have xe5 := Lib.cell?_alloc_some (W := W) (.cells #[.int .i64 zn, .bool lu, .int .i64 lk, .int .i64 ln, .slice la lb.length lc, .bool hu, .int .i64 hk, .int .i64 hn, .slice ha hb.length hc] 103) xd5
      have xe6 := Lib.cell?_alloc_some (W := W) (.cells #[.int .i64 zn, .bool lu, .int .i64 lk, .int .i64 ln, .slice la lb.length lc, .bool hu, .int .i64 hk, .int .i64 hn, .slice ha hb.length hc] 103) xd6
      have xe7 := Lib.cell?_alloc_some (W := W) (.cells #[.int .i64 zn, .bool lu, .int .i64 lk, .int .i64 ln, .slice la lb.length lc, .bool hu, .int .i64 hk, .int .i64 hn, .slice ha hb.length hc] 103) xd7
      clear hq
      cases lu
      ·cases hu
       ·go_wp2_with fail
        refine HCM.out.mono ?_
        rintro e W5 ⟨rfl, hb5⟩
        have HG := hid (zAa HF.out hb5)
        clear hb5
        go_wp2_with fail
        go_ret
        refine ⟨?_, HG.out⟩
        rw [HR.out, HPB.out, if_neg (by simp), if_neg HK3.out, HQ.out, <- HQQ.out] <;> rfl
       ·go_wp2_with fail
        go_ret
        refine ⟨?_, HF.out⟩
        rw [HR.out, HPB.out, if_neg (by simp), if_neg HK3.out, HQ.out] <;> rfl
      ·go_wp2_with fail
       go_ret
       refine ⟨?_, HF.out⟩
       rw [HR.out, HPB.out, if_neg (by simp), if_neg HK3.out, HQ.out] <;> rfl
     ·have hd4 : decide (zn < cnt) = false := by rw [decide_eq_false_iff_not]; exact hcn
      have HQ := hid hd4
      clear hcn
      have HF := hid (zAn HB.out (.cells #[.int .i64 zn, .bool lu, .int .i64 lk, .int .i64 ln, .slice la lb.length lc, .bool hu, .int .i64 hk, .int .i64 hn, .slice ha hb.length hc] 103))
      go_wp2_with fail
      go_ret
      refine ⟨?_, HF.out⟩
      rw [HR.out, HPB.out, if_neg (by simp), if_neg HK3.out, HQ.out] <;> rfl
   ·have hd2 : decide ((n : Int) <= (i : Int)) = true := by rw [decide_eq_true_eq]; omega
    have hd3 : decide (n <= i) = true := by rw [decide_eq_true_eq]; omega
    have HA := hid (show posB false k (i : Int) o ⟨vu, vk, vn, vb⟩ (zs.map Zv.t) cnt = true by unfold posB; rw [if_neg (by omega), Qa, Qg (by rw [Qc, <- HN.out]; omega)])
    clear hc0 hin
    go_wp2_with fail
    go_ret
    exact ⟨by rw [HR.out, HA.out] <;> rfl, HB.out⟩
end Go.Proofs.YtmpgnjhgegbdkaaGreat
