import Derived.Test.YtmpgnjhgegbdkaaGreatBcole
import Derived.Test.YtmpgnjhgegbdkaaGreatIcoli
import Derived.Test.YtmpgnjhgegbdkaaGreatIcolp
set_option linter.unusedVariables false
set_option linter.unusedSimpArgs false
set_option maxRecDepth 100000
set_option maxHeartbeats 8000000
open Go.Lib (hid)
namespace Go.Proofs.YtmpgnjhgegbdkaaGreat.Bc
open Go.RowKit
open Go.RowKit.Below renaming refl -> Qa
open _root_.List renaming length -> Qb, mem_of_getElem? -> Qc, getElem?_eq_getElem -> Qd, getElem?_map -> Qf, length_map -> Qg, mem_map -> Qk, take_add_one -> Ql, mem_append -> Qm, mem_singleton -> Qr, getElem?_eq_some_iff -> Qt, length_take -> Qu, getD_eq_getElem?_getD -> Qx, getElem?_eq_none -> Qy, range -> Qz, take_length -> Jb, length_eq_zero_iff -> Jc, getElem?_set -> Je, extract_eq_take_drop -> Jk, drop_zero -> Jl, take_of_length_le -> Jm, map_map -> Jn, map_append -> Jq
open _root_.Nat renaming le_refl -> Qe, mul_one -> Qh, zero_le -> Qp, eq_zero_or_pos -> Qs, sub_zero -> Qw, lt_or_ge -> Ja, add_assoc -> Jd, zero_add -> Jh, le_trans -> Jr
open _root_.Option renaming map_some -> Qi
open _root_.Array renaming length_toList -> Qj, getElem?_eq_some_iff -> Qn, range -> Qq, getElem?_append_left -> Jf, getElem?_modify -> Jg, size_range -> Ji, toList_extract -> Jj, getElem?_toList -> Jo, getElem?_eq_getElem -> Jp
open Go.IntWalk renaming i64_in -> Qo, u64_in -> Qv
def compQ (xs : List By) : Nat -> List By
 | 0 => []
 | q + 1 => match xs[q]? with
  | none => compQ xs q
  | some z => if 0 < q ∧ xs[q - 1]? = some z then compQ xs q else compQ xs q ++ [z]
theorem zCw {xs : List By} {q : Nat} {z : By} (hz : xs[q]? = some z) (hq : 0 < q) (h : xs[q - 1]? = some z) : compQ xs (q + 1) = compQ xs q := by
 rw [compQ, hz]
 simp only
 rw [if_pos ⟨hq, h⟩]
theorem zCr {xs : List By} {q : Nat} {z : By} (hz : xs[q]? = some z) (h : q = 0 ∨ xs[q - 1]? ≠ some z) : compQ xs (q + 1) = compQ xs q ++ [z] := by
 rw [compQ, hz]
 simp only
 rw [if_neg]
 rintro ⟨h1, h2⟩
 rcases h with h | h
 ·omega
 ·exact h h2
theorem zEu {xs : List By} (hs : ∀ (i : Nat) (a b : By), xs[i]? = some a -> xs[i + 1]? = some b -> ¬ ltB b a) : ∀ q, q <= xs.length -> (compQ xs q).Pairwise ltB ∧ (∀ z, z ∈ compQ xs q ↔ z ∈ xs.take q) ∧ (0 < q -> (compQ xs q).getLast? = xs[q - 1]?)
 | 0, _ => ⟨List.Pairwise.nil, fun z => by simp [compQ], fun h => by omega⟩
 | q + 1, hq => by
  obtain ⟨h1, h2, h3⟩ := zEu hs q (by omega)
  obtain ⟨z, hz⟩ : ∃ z, xs[q]? = some z := ⟨_, Qd (by omega)⟩
  have htk : xs.take (q + 1) = xs.take q ++ [z] := by rw [Ql, hz]; rfl
  by_cases he : 0 < q ∧ xs[q - 1]? = some z
  ·rw [zCw hz he.1 he.2, htk]
   refine ⟨h1, fun y => ?_, fun _ => ?_⟩
   ·rw [h2, Qm, Qr]
    refine ⟨.inl, fun h => h.elim id fun e => ?_⟩
    rw [e]
    refine Qc (i := q - 1) ?_
    rw [List.getElem?_take, if_pos (by omega)]
    exact he.2
   ·rw [h3 he.1, he.2, show q + 1 - 1 = q by omega, hz]
  ·rw [zCr hz (by
    rcases Qs q with h | h
    ·exact .inl h
    ·exact .inr fun e => he ⟨h, e⟩), htk]
   refine ⟨?_, fun y => ?_, fun _ => ?_⟩
   ·rw [List.pairwise_append]
    refine ⟨h1, by simp, fun a ha b hb => ?_⟩
    rw [Qr] at hb
    subst hb
    have hqp : 0 < q := by
     rcases Qs q with h | h
     ·subst h; simp [compQ] at ha
     ·exact h
    obtain ⟨y, hy⟩ : ∃ y, xs[q - 1]? = some y := ⟨_, Qd (by omega)⟩
    have hyb : ¬ ltB b y := hs (q - 1) y b hy (by rw [show q - 1 + 1 = q by omega]; exact hz)
    have hne : y ≠ b := fun e => he ⟨hqp, by rw [hy, e]⟩
    have hlast := h3 hqp
    rw [hy] at hlast
    have hay : ¬ ltB y a := by
     obtain ⟨i, hi⟩ := List.getElem?_of_mem ha
     rw [List.getLast?_eq_getElem?] at hlast
     have hil := (Qt.1 hi).1
     rcases Ja i ((compQ xs q).length - 1) with h | h
     ·exact fun h3 => zF0 (zCa h1 h hi hlast) h3
     ·have : i = (compQ xs q).length - 1 := by omega
      rw [this, hlast] at hi
      have := Option.some.inj hi
      subst this
      exact zDu _
    exact zLm hay ((zIu hne).resolve_right hyb)
   ·rw [Qm, Qm, h2]
   ·rw [List.getLast?_append, show q + 1 - 1 = q by omega, hz]
    rfl
theorem zFo {l xs : List By} (hp : ∀ z, z ∈ xs ↔ z ∈ l) (hs : ∀ (i : Nat) (a b : By), xs[i]? = some a -> xs[i + 1]? = some b -> ¬ ltB b a) : compQ xs xs.length = wordsT l := by
 obtain ⟨h1, h2, _⟩ := zEu hs xs.length (Qe _)
 refine zGw h1 (zBg l) fun z => ?_
 rw [h2, Jb, hp, zAx]
def compP (ps : Row) : Nat -> Row
 | 0 => []
 | q + 1 => match ps[q]? with
  | none => compP ps q
  | some p => if 0 < q ∧ (xs ps)[q - 1]? = some p.2 then compP ps q else compP ps q ++ [p]
theorem zGk {ps : Row} {q : Nat} {p : Value × By} (hz : ps[q]? = some p) (hq : 0 < q) (h : (xs ps)[q - 1]? = some p.2) : compP ps (q + 1) = compP ps q := by
 rw [compP, hz]
 simp only
 rw [if_pos ⟨hq, h⟩]
theorem zFd {ps : Row} {q : Nat} {p : Value × By} (hz : ps[q]? = some p) (h : q = 0 ∨ (xs ps)[q - 1]? ≠ some p.2) : compP ps (q + 1) = compP ps q ++ [p] := by
 rw [compP, hz]
 simp only
 rw [if_neg]
 rintro ⟨h1, h2⟩
 rcases h with h | h
 ·omega
 ·exact h h2
theorem zLp (ps : Row) : ∀ q, q <= ps.length -> xs (compP ps q) = compQ (xs ps) q
 | 0, _ => rfl
 | q + 1, h => by
  have ih := zLp ps q (by omega)
  obtain ⟨p, hp⟩ : ∃ p, ps[q]? = some p := ⟨_, Qd (by omega)⟩
  by_cases he : 0 < q ∧ (xs ps)[q - 1]? = some p.2
  ·rw [zGk hp he.1 he.2, zCw (zA8 hp) he.1 he.2, ih]
  ·have h1 : q = 0 ∨ (xs ps)[q - 1]? ≠ some p.2 := by
    rcases Qs q with h | h
    ·exact .inl h
    ·exact .inr fun e => he ⟨h, e⟩
   rw [zFd hp h1, zCr (zA8 hp) h1, <- ih]
   obtain ⟨u, x⟩ := p
   exact zDv _ _ _
theorem zFe (ps : Row) : ∀ q p, p ∈ compP ps q -> p ∈ ps
 | 0, p, h => by simp [compP] at h
 | q + 1, p, h => by
  rw [compP] at h
  split at h
  ·exact zFe ps q p h
  ·rename_i z hz
   split at h
   ·exact zFe ps q p h
   ·rcases Qm.1 h with h | h
    ·exact zFe ps q p h
    ·rw [Qr.1 h]
     exact Qc hz
theorem zSf (ps : Row) (k : Nat) : vs (ps.take k) = (vs ps).take k := by unfold vs; rw [List.map_take]
theorem zFz (X : Nat) (v1 v2 : Value) (a b : By) (w : World) (hx : w.cell? ⟨X, 2, none⟩ = some (.func (.func 152) #[] #[])) (h1 : Rd w v1 (a.map u8v)) (h2 : Rd w v2 (b.map u8v)) (ha : Fit a) (hb : Fit b) :
  Calls Tryz.prog 174 #[v1, v2, .pointer (some ⟨X, 0, none⟩)] w fun e w' => e = .returned (.bool (decide (a = b))) ∧ w' = w := by
 obtain ⟨a1, c1, e1⟩ := zD6 (p := (v1, a)) h1
 obtain ⟨a2, c2, e2⟩ := zD6 (p := (v2, b)) h2
 change v1 = .slice a1 (Qb a) c1 at e1
 change v2 = .slice a2 (Qb b) c2 at e2
 subst e1
 subst e2
 by_cases hab : a = b
 ·have HC := hid (zCd _ _ a b 0 w (by rw [hab]; exact zFc b) h1 h2 ha hb)
  have HN := hid (decide_eq_true hab)
  clear hab h1 h2 ha hb
  go_enter Tryz.func174, Tryz.ntmps174
  go_wp2_with fail
  refine HC.out.mono ?_
  rintro e w2 ⟨rfl, rfl⟩
  go_wp2_with fail
  go_ret
  exact ⟨by rw [HN.out]; rfl, rfl⟩
 ·obtain ⟨cc, hcc⟩ : ∃ cc, cc = cmpB a b := ⟨_, rfl⟩
  have hcn : cc ≠ 0 := by rw [hcc]; exact zHp hab
  have hcb : (cc == 0) = false := by rw [beq_eq_false_iff_ne]; exact hcn
  have HC := hid (zCd _ _ a b cc w hcc.symm h1 h2 ha hb)
  have HN := hid (show decide (a = b) = false from decide_eq_false hab)
  clear hcc hab h1 h2 ha hb
  go_enter Tryz.func174, Tryz.ntmps174
  go_wp2_with fail
  refine HC.out.mono ?_
  rintro e w2 ⟨rfl, rfl⟩
  go_wp2_with fail
  go_ret
  exact ⟨by rw [HN.out]; rfl, rfl⟩
theorem zMq (l : Row) (lv : Value) (w : World) (hl : l.length <= 100000) (hr : Rd w lv (vs l)) (he : Els w l) :
  Calls Tryz.prog 171 #[lv] w fun e w' => ∃ v, e = .returned v ∧ OwnR w.heap.size w' v l ∧ Below w.heap.size w w' := by
 obtain ⟨ao, cap, rfl⟩ := zAh hr
 rw [zA1] at hr ⊢
 have HR := hid hr
 rcases ao with _ | ⟨b, off, p⟩
 ·obtain ⟨ao', cap', hv, hn, _⟩ := hr
  simp only [Value.slice.injEq, zA1] at hv hn
  have hcap := hn.1 hv.1.symm
  have hl0 : l = [] := Jc.1 (by omega)
  have hc0 : cap = 0 := by omega
  clear hv hn hcap HR
  subst hl0
  subst hc0
  have heq := fun (w' : World) => Lib.run_eql_slice_nil (P := Tryz.prog) w' 41 29 none 0 0 0 0 Tryz.underlying41
  go_enter Tryz.func171, Tryz.ntmps171
  go_wp2_with fail
  go_ret
  exact ⟨_, rfl, zLn _ _, Qa _ _⟩
 ·obtain ⟨n, hn⟩ : ∃ n, n = l.length := ⟨_, rfl⟩
  rw [<- hn] at HR ⊢
  have HN := hid hn
  rw [<- hn] at hl
  have HES := hid he.ones
  clear hr hn he
  have heq := fun (w' : World) => Lib.run_eql_slice_nil (P := Tryz.prog) w' 41 29 (some ⟨b, off, p⟩) n cap 0 0 Tryz.underlying41
  have HRS := hid fun (w' : World) (h : Below w.heap.size w w') => zAs (HR.out.kept h)
  have HONE := hid (zAr HES.out)
  go_enter Tryz.func171, Tryz.ntmps171
  have hpos := HN.out
  have HOE := hid (show (w.alloc (.cells #[] 29)).ownsRow w.heap.size 29 1 (.slice (some ⟨w.heap.size, 0, none⟩) 0 0) 0 [] from World.ownsRow_lit w #[] 0 (Qe _) (by unfold maxLen; omega) rfl)
  have HRA := hid (HRS.out _ (zAd w (.cells #[] 29)))
  have hszB : w.heap.size <= (w.alloc (.cells #[] 29)).heap.size := by simp
  clear hpos
  go_wp2_with (at_builtin; go_must (refine zAf elmR rfl _ _ rfl w.heap.size _ _ _ rfl HOE.out _ ((vs l).map fun u => [u]) rfl HRA.out HONE.out (by simp [zA1]; have := HN.out; omega) hszB n (by have := HN.out; simp [zA1]; omega) ?_); intro ao4 cap4 w4 hown4 hgrow4 hnew4; have HO4 := hid hown4; have HG4 := hid hgrow4; clear hown4 hgrow4 hnew4)
  go_ret
  refine ⟨_, rfl, ?_, ?_⟩
  ·have h := HO4.out
   rw [zAp, List.nil_append] at h
   exact OwnR.of h
  ·exact zAk (zAd w _) hszB (show (w.alloc (.cells #[] 29)).grownBy w4 (Value.slice (some ⟨w.heap.size, 0, none⟩) 0 0).ownBlock from HG4.out) (zAg HOE.out)
theorem zS0 (w : World) : (zeroValue 29).run Tryz.prog w = .ok (.slice none 0 0) w := Tryz.zeroValue29 w
theorem zN8 {base g n vc : Nat} {xs : List Value} {w0 w : World} (h : w.ownsRow base 29 1 (.slice (some ⟨g, 0, none⟩) n vc) n xs) (hg : w0.grownBy w (some g)) (m c : Nat) (hm : n + m <= vc) (hp : 0 < m) :
  ∃ wc, (∀ ty, (Builtin.clear_ #[41] ty #[.slice (some ⟨g, n, none⟩) m c]).run Tryz.prog w = .ok (.tuple #[]) wc) ∧ wc.ownsRow base 29 1 (.slice (some ⟨g, 0, none⟩) n vc) n xs ∧ w0.grownBy wc (some g) := by
 obtain ⟨cur, hc, hnc, hcm, hcl, hct, hb⟩ := zCo h
 rw [Qh] at hcl hct
 have hfit : n + m * 1 <= cur.length := by rw [hcl]; omega
 refine ⟨_, fun ty => zFv (P := Tryz.prog) w 41 29 ty [.slice none 0 0] _ Tryz.underlying41 zS0 rfl (by simp [Value.oneCell']) g n m c cur 29 hc hfit hp, ?_, zAc hg (zG1 w g _)⟩
 have hzl : ((List.replicate m ([.slice none 0 0] : List Value)).flatten).length = m * 1 := by
  rw [zC0 _ 1 (fun t ht => by rw [List.eq_of_mem_replicate ht]; rfl), List.length_replicate]
 refine zDk (setRow_heap w g cur.toArray _ _ _ hc) hnc hcm ?_ ?_ hb
 ·rw [length_splice _ _ _ (by rw [hzl]; exact hfit), Qh]; exact hcl
 ·rw [Qh, <- hct]
  unfold splice
  rw [List.take_append_of_le_length (by rw [Qu]; omega), List.take_take, Nat.min_self]
theorem zLq (ps : Row) (base X : Nat) (v : Value) (w : World) (hl : ps.length <= 100000) (hI : ∀ x ∈ xs ps, Fit x) (hown : OwnR base w v ps) (he : ∀ w', w.grownBy w' v.ownBlock -> Els w' ps) (hX : w.heap[X]? = some (.cells #[.func (.func 168) #[] #[], .func (.func 169) #[] #[], .func (.func 152) #[] #[], .func (.func 77) #[] #[]] 192 (0, 0))) (hXv : v.ownBlock ≠ some X) :
  Calls Tryz.prog 173 #[v, .func (.func 174) #[] #[.pointer (some ⟨X, 0, none⟩)]] w fun e w' => ∃ v', e = .returned v' ∧ OwnR base w' v' (compP ps ps.length) ∧ w.grownBy w' v.ownBlock ∧ v'.ownBlock = v.ownBlock := by
 obtain ⟨ao, cap, rfl⟩ := hown.shape
 obtain ⟨n, hn⟩ : ∃ n, n = ps.length := ⟨_, rfl⟩
 rw [<- hn] at hl hXv he ⊢
 have HI := hid hI
 have HE0 := hid he
 have hown' : w.ownsRow base 29 1 (.slice ao n cap) n (vs ps) := by rw [hn]; exact hown
 have HO := hid hown'
 have HN := hid hn
 have HNX := hid (show n = (xs ps).length by rw [zAt]; exact hn)
 by_cases h2 : n < 2
 ·have h2i : (n : Int) < 2 := by omega
  have HE := hid (show compP ps n = ps from by
   rw [hn]
   match ps, hn with
   | [], _ => rfl
   | [a], _ => rfl
   | a :: b :: r, hn => simp at hn; omega)
  clear hown hown' hn he hI
  go_enter Tryz.func173, Tryz.ntmps173
  go_wp2_with fail
  go_ret
  refine ⟨_, rfl, ?_, World.grownBy.refl _ _, rfl⟩
  rw [HE.out]
  exact OwnR.of HO.out
 ·have h2i : ¬ (n : Int) < 2 := by omega
  obtain ⟨g, rfl⟩ : ∃ g, ao = some ⟨g, 0, none⟩ := by
   rcases hown'.2 with ⟨_, h0⟩ | ⟨g, c, cur, h1, _⟩
   ·omega
   ·simp only [Value.slice.injEq] at h1; exact ⟨g, h1.1⟩
  have hXg : X ≠ g := fun e => hXv (by rw [e]; rfl)
  have hnc : n <= cap := by obtain ⟨_, _, h, _⟩ := zCo hown'; exact h
  have hgb : base <= g := zAg hown' g rfl
  have HXC := hid (show ∀ w', w.grownBy w' (some g) -> w'.cell? ⟨X, 2, none⟩ = some (.func (.func 152) #[] #[]) from fun w' hg => (zAv ((hg.block X (Qn.1 hX).1 (fun e => hXg (Option.some.inj e))).trans hX)).2.2.1)
  clear hown hown' hn hX hXv he hI
  go_enter Tryz.func173, Tryz.ntmps173
  go_wp2_with fail
  go_loopw [5] (fun k wr => ∃ q : Nat, 1 <= q ∧ q <= n ∧ k = .int .i64 (q : Int) ∧ compP ps q = ps.take q ∧ ∃ d, wr = w.drewN d) (fun k _ => n - (intOf k).toNat)
  case atStart => exact ⟨1, Qe _, by omega, rfl, (by
   obtain ⟨z, hz⟩ : ∃ z, ps[0]? = some z := ⟨_, Qd (by rw [<- HN.out]; omega)⟩
   rw [zFd hz (.inl rfl), Ql, hz]
   rfl), 0, rfl⟩
  case round =>
   obtain ⟨q, hq1, hq, rfl, hcq, d, hwr⟩ := hrel
   have HCQ := hid hcq
   have HGR := hid (show w.grownBy wr (some g) from by rw [hwr]; exact zA2 _ _ _)
   have HOR := hid (show wr.ownsRow base 29 1 (.slice (some ⟨g, 0, none⟩) n cap) n (vs ps) from by rw [hwr]; exact HO.out)
   have HWR := hid hwr
   clear hcq hwr
   by_cases hlt : q < n
   ·have hlti : (q : Int) < (n : Int) := by omega
    have hq0 : (0 : Int) <= (q : Int) := by omega
    have hqm : IntKind.i64.wrap ((q : Int) - 1) = ((q - 1 : Nat) : Int) := by rw [Qo _ (by omega)]; omega
    have hqm2 : (((q - 1 : Nat) : Int)).toNat = q - 1 := by omega
    have hqm3 : (0 : Int) <= ((q - 1 : Nat) : Int) := by omega
    have hqm4 : ((q - 1 : Nat) : Int) < (n : Int) := by omega
    have hqm5 : (q : Int) - 1 = ((q - 1 : Nat) : Int) := by omega
    have hels := HE0.out wr HGR.out
    obtain ⟨za, zc, z, hzq, hze⟩ := zBp hels (q := q) (by rw [<- HN.out]; exact hlt)
    obtain ⟨ya, yc, y, hyq, hye⟩ := zBp hels (q := q - 1) (by rw [<- HN.out]; omega)
    have hx1 : wr.cell? ⟨g, q, none⟩ = some (.slice za (Qb z) zc) := by rw [HOR.out.cellAt q (by omega)]; unfold vs; rw [Qf, hzq]; rfl
    have hx2 : wr.cell? ⟨g, q - 1, none⟩ = some (.slice ya (Qb y) yc) := by rw [HOR.out.cellAt (q - 1) (by omega)]; unfold vs; rw [Qf, hyq]; rfl
    have cx := HXC.out wr HGR.out
    have HDC := hid fun nq => zFz X _ _ z y (wr.drewN nq) cx (hze.kept (below_draws (Qa _ _) nq)) (hye.kept (below_draws (Qa _ _) nq)) (HI.out z (Qc (zA8 hzq))) (HI.out y (Qc (zA8 hyq)))
    have HZ := hid hzq
    have HY := hid (zA8 hyq)
    clear hzq hyq hze hye hels
    by_cases hzy : z = y
    ·have HZY := hid hzy
     rw [decide_eq_true hzy] at HDC
     clear hzy
     go_upto_region 6 with (fail)
     go_quiet ((go_at_call 174; exact Calls.quiet_of_same (HDC.out _)))
     have hcq1 : ¬ (cap = q) := by omega
     have hcq2 : (cap == q) = false := by rw [beq_eq_false_iff_ne]; exact hcq1
     have HGR1 := hid (show w.grownBy (wr.drewN nq) (some g) from zAc HGR.out (zA2 _ _ _))
     have HOR1 := hid (show (wr.drewN nq).ownsRow base 29 1 (.slice (some ⟨g, 0, none⟩) n cap) n (vs ps) from HOR.out)
     have HC1 := hid (show compP ps (q + 1) = ps.take q from by rw [zGk HZ.out (by omega) (by rw [HY.out, HZY.out]), HCQ.out])
     have hql := Nat.le_of_lt hlt
     have hqi : (q : Int) <= (n : Int) := by omega
     clear hx1 hx2 cx HDC HGR HOR HWR
     obtain ⟨W3, hW3⟩ := zEm HGR1.out
     rw [<- hW3] at HGR1 HOR1 ⊢
     clear hW3
     go_wp2_with fail
     go_loopw [5, 7] (fun k k2 wr => ∃ (K J : Nat) (ys : Row), 1 <= J ∧ q + J <= n ∧ k = .int .i64 (K : Int) ∧ k2 = .int .i64 (J : Int) ∧ K + 1 <= q + J ∧ ys.length = n ∧ ys.take K = compP ps (q + J) ∧ (∀ j, q + J <= j + 1 -> ys[j]? = ps[j]?) ∧ wr.ownsRow base 29 1 (.slice (some ⟨g, 0, none⟩) n cap) n (vs ys) ∧ w.grownBy wr (some g)) (fun _ k2 _ => n - (intOf k2).toNat)
     case atStart => exact ⟨q, 1, ps, Qe _, by omega, rfl, rfl, Qe _, HN.out.symm, HC1.out.symm, (fun j _ => rfl), HOR1.out, HGR1.out⟩
     case round =>
      obtain ⟨K, J, ys, hJ1, hJn, rfl, rfl, hKJ, hyl, hyt, hyj, hown3, hgr3⟩ := hrel
      have HYL := hid hyl
      have HYT := hid hyt
      have HYJ := hid hyj
      have HO3 := hid hown3
      have HG3 := hid hgr3
      clear hyl hyt hyj hown3 hgr3
      by_cases hlt2 : J < n - q
      ·have hsub : (((n - q : Nat)) : Int) = (n : Int) - (q : Int) := by omega
       have hlt2i : (J : Int) < ((n - q : Nat) : Int) := by omega
       have hJ0 : (0 : Int) <= (J : Int) := by omega
       have hJm : IntKind.i64.wrap ((J : Int) - 1) = ((J - 1 : Nat) : Int) := by rw [Qo _ (by omega)]; omega
       have hJm2 : (((J - 1 : Nat) : Int)).toNat = J - 1 := by omega
       have hJm3 : (0 : Int) <= ((J - 1 : Nat) : Int) := by omega
       have hJm4 : ((J - 1 : Nat) : Int) < ((n - q : Nat) : Int) := by omega
       have hJm5 : (J : Int) - 1 = ((J - 1 : Nat) : Int) := by omega
       have hK0 : (0 : Int) <= (K : Int) := by omega
       have hKn : (K : Int) < (n : Int) := by omega
       have hels := HE0.out wr HG3.out
       obtain ⟨za, zc, z1, hz1, hze⟩ := zBp hels (q := q + J) (by rw [<- HN.out]; omega)
       obtain ⟨ya, yc, y1, hy1, hye⟩ := zBp hels (q := q + J - 1) (by rw [<- HN.out]; omega)
       have hx1 : wr.cell? ⟨g, q + J, none⟩ = some (.slice za (Qb z1) zc) := by rw [HO3.out.cellAt (q + J) (by omega)]; unfold vs; rw [Qf, HYJ.out _ (by omega), hz1]; rfl
       have hx2 : wr.cell? ⟨g, q + (J - 1), none⟩ = some (.slice ya (Qb y1) yc) := by rw [HO3.out.cellAt (q + (J - 1)) (by omega)]; unfold vs; rw [Qf, HYJ.out _ (by omega), show q + (J - 1) = q + J - 1 by omega, hy1]; rfl
       have cx := HXC.out wr HG3.out
       have HDC := hid fun nq => zFz X _ _ z1 y1 (wr.drewN nq) cx (hze.kept (below_draws (Qa _ _) nq)) (hye.kept (below_draws (Qa _ _) nq)) (HI.out z1 (Qc (zA8 hz1))) (HI.out y1 (Qc (zA8 hy1)))
       have HZ1 := hid hz1
       have HY1 := hid (zA8 hy1)
       clear hz1 hy1 hze hye hels
       by_cases hzy1 : z1 = y1
       ·have HZY := hid hzy1
        rw [decide_eq_true hzy1] at HDC
        clear hzy1
        go_upto_region 11 with (fail)
        go_quiet ((go_at_call 174; exact Calls.quiet_of_same (HDC.out _)))
        go_wp2_with fail
        go_roundw
        case rel => exact ⟨K, J + 1, ys, by omega, by omega, rfl, by go_num, by omega, HYL.out, (by rw [<- Jd, zGk HZ1.out (by omega) (by rw [HY1.out, HZY.out])]; exact HYT.out), (fun j hj => HYJ.out j (by omega)), HO3.out, zAc HG3.out (zA2 _ _ _)⟩
        case measure => simp [intOf]; omega
       ·have HZY := hid hzy1
        rw [decide_eq_false hzy1] at HDC
        clear hzy1
        have hcK : ∃ u, wr.cell? ⟨g, K, none⟩ = some u := by
         rw [HO3.out.cellAt K (by omega)]
         exact ⟨_, Qd (by rw [zA1, HYL.out]; omega)⟩
        obtain ⟨uK, hcK2⟩ := hcK
        have hfK := HO3.out.frozenAt K
        have hst := fun nq => World.ownsRow.stored (show (wr.drewN nq).ownsRow base 29 1 (.slice (some ⟨g, 0, none⟩) n cap) n (vs ys) from HO3.out) K (.slice za (Qb z1) zc)
        have HST := hid hst
        clear hst
        go_upto_region 11 with (fail)
        go_quiet ((go_at_call 174; exact Calls.quiet_of_same (HDC.out _)))
        go_wp2_with fail
        go_roundw
        case rel =>
         have hkl : K < ys.length := by rw [HYL.out]; omega
         refine ⟨K + 1, J + 1, ys.set K (.slice za (Qb z1) zc, z1), by omega, by omega, by go_num, by go_num, by omega, by rw [List.length_set]; exact HYL.out, ?_, fun j hj => ?_, ?_, ?_⟩
         ·rw [<- Jd, zFd HZ1.out (.inr (by rw [HY1.out]; intro h; exact HZY.out (Option.some.inj h).symm)), <- HYT.out, Ql, List.take_set, Je, if_pos rfl, if_pos hkl, List.set_eq_of_length_le (by rw [Qu]; omega)]
          rfl
         ·rw [Je, if_neg (by omega)]
          exact HYJ.out j (by omega)
         ·rw [zIv]
          exact (HST.out _).1
         ·exact zAc HG3.out (zAc (zA2 _ _ _) (HST.out _).2)
        case measure => simp [intOf]; omega
      ·have hJq : q + J = n := by omega
       have hsub : (((n - q : Nat)) : Int) = (n : Int) - (q : Int) := by omega
       have hlt2i : ¬ (J : Int) < ((n - q : Nat) : Int) := by omega
       have hK0 : (0 : Int) <= (K : Int) := by omega
       have hKn : (K : Int) <= (n : Int) := by omega
       have hKn2 : K < n := by omega
       have hcK1 : ¬ (cap = K) := by omega
       have hcK2 : (cap == K) = false := by rw [beq_eq_false_iff_ne]; exact hcK1
       have hKc : K <= cap := by omega
       have hKci : (K : Int) <= (cap : Int) := by omega
       obtain ⟨wc, hcl, hoc, hgc⟩ := zN8 (zK9 HO3.out K (by omega)) HG3.out (n - K) (cap - K) (by omega) (by omega)
       rw [Qh, <- zSf, HYT.out, hJq] at hoc
       have HOC := hid (OwnR.of hoc)
       have HGC := hid hgc
       have HKL := hid (show (compP ps n).length = K from by rw [<- hJq, <- HYT.out, Qu, HYL.out]; omega)
       clear hoc hgc
       go_wp2_with fail
       go_ret
       exact ⟨_, rfl, HOC.out, HGC.out, rfl⟩
    ·have HZY := hid hzy
     rw [decide_eq_false hzy] at HDC
     clear hzy
     go_upto_region 6 with (fail)
     go_quiet ((go_at_call 174; exact Calls.quiet_of_same (HDC.out _)))
     go_wp2_with fail
     go_roundw
     case rel =>
      refine ⟨q + 1, by omega, by omega, by go_num, ?_, d + nq, by rw [HWR.out, World.drewN_drewN]⟩
      rw [zFd HZ.out (.inr (by rw [HY.out]; intro h; exact HZY.out (Option.some.inj h).symm)), HCQ.out, Ql, HZ.out]
      rfl
     case measure => simp [intOf]; omega
   ·have hqn : q = n := by omega
    subst hqn
    have hlti : ¬ (q : Int) < (q : Int) := by omega
    have HE := hid (show compP ps q = ps from by rw [HCQ.out, HN.out, Jb])
    go_wp2_with fail
    go_ret
    refine ⟨_, rfl, ?_, HGR.out, rfl⟩
    rw [HE.out]
    exact OwnR.of HOR.out
theorem zLr (ps : Row) (x : By) (xv v : Value) (w : World) (hl : ps.length <= 100000) (hI : ∀ y ∈ xs ps, Fit y) (hs : (xs ps).Pairwise ltB) (hx : x ∈ xs ps) (hr : Rd w v (vs ps)) (he : Els w ps) (hxr : Rd w xv (x.map u8v)) :
  Calls Tryz.prog 175 #[v, xv, .func (.func 152) #[] #[]] w fun e w' => e = .returned (.tuple #[.int .i64 (placeT (xs ps) x : Nat), .bool true]) ∧ Below w.heap.size w w' := by
 obtain ⟨va, vc, rfl⟩ := zAh hr
 obtain ⟨xa, xc, e1⟩ := zD6 (p := (xv, x)) hxr
 change xv = .slice xa (Qb x) xc at e1
 subst e1
 have HXR := hid hxr
 have HE := hid he
 have HI := hid hI
 have HFX := hid (hI x hx)
 obtain ⟨n, hn⟩ : ∃ n, n = ps.length := ⟨_, rfl⟩
 rw [zA1, <- hn] at hr ⊢
 rw [<- hn] at hl
 have HN := hid hn
 have HNX := hid (show n = (xs ps).length by rw [zAt]; exact hn)
 have HR := hid hr
 obtain ⟨p, hp⟩ : ∃ p, p = placeT (xs ps) x := ⟨_, rfl⟩
 have hpn : p < n := by rw [hp, HNX.out]; exact zBh hs hx
 have HPX := hid (show (xs ps)[p]? = some x from by rw [hp]; exact zCb hs hx)
 have HUP := hid (fun (i j : Nat) (a b : By) (h : i < j) (ha : (xs ps)[i]? = some a) (hb : (xs ps)[j]? = some b) => zCa hs h ha hb)
 rw [<- hp]
 clear hn hr hs hx hp he hI hxr
 go_enter Tryz.func175, Tryz.ntmps175
 go_wp2_with fail
 go_loopw [9, 10] (fun a c wr => ∃ i j : Nat, i <= p ∧ p <= j ∧ j <= n ∧ a = .int .i64 (i : Int) ∧ c = .int .i64 (j : Int) ∧ Below w.heap.size w wr) (fun a c _ => (intOf c).toNat - (intOf a).toNat)
 case atStart => exact ⟨0, n, Qp _, by omega, Qe _, rfl, rfl, Qa _ _⟩
 case round =>
  obtain ⟨i, j, hip, hpj, hjn, rfl, rfl, hb⟩ := hrel
  have HB := hid hb
  obtain ⟨b, off, rfl, hcell⟩ := (zBo (HR.out.kept hb)).2 (by omega)
  by_cases hlt : i < j
  ·obtain ⟨H, hH⟩ : ∃ H, H = (i + j) / 2 := ⟨_, rfl⟩
   have h1 : i <= H ∧ H < j := by omega
   obtain ⟨hiH, hHj⟩ := h1
   have hHn : H < n := by omega
   have hHni : (H : Int) < (n : Int) := by omega
   have hH0 : (0 : Int) <= (H : Int) := by omega
   have e1 : IntKind.i64.wrap ((i : Int) + (j : Int)) = (i : Int) + (j : Int) := Qo _ (by omega)
   have e2 : IntKind.u64.wrap ((i : Int) + (j : Int)) = (i : Int) + (j : Int) := Qv _ (by omega)
   have e3 : ((i : Int) + (j : Int)) / 2 = (H : Int) := by rw [hH]; omega
   have e4 : IntKind.i64.wrap (H : Int) = (H : Int) := Qo _ (by omega)
   obtain ⟨za, zc, z, hz1, hze⟩ := zBp HE.out (q := H) (by rw [<- HN.out]; exact hHn)
   have hx1 : wr.cell? ⟨b, off + H, none⟩ = some (.slice za (Qb z) zc) := hcell H _ hz1
   have HX := hid (zA8 hz1)
   have HFZ := hid (HI.out z (Qc (zA8 hz1)))
   have HZE := hid (hze.kept HB.out)
   have HXE := hid (HXR.out.kept HB.out)
   clear hz1 hcell hb hH hze
   have hij2 : (i : Int) < (j : Int) := by omega
   by_cases hc : ltB z x
   ·have HCZ := hid (zCd _ _ z x (-1) wr (by unfold ltB at hc; rcases zS8.tri z x with h | h | h <;> omega) HZE.out HXE.out HFZ.out HFX.out)
    have hHp : H < p := by
     rcases Nat.lt_trichotomy H p with h | h | h
     ·exact h
     ·have h2 := HX.out
      rw [h, HPX.out] at h2
      have := Option.some.inj h2
      subst this
      exact absurd hc (zDu _)
     ·exact absurd (HUP.out p H x z h HPX.out HX.out) (zF0 hc)
    clear hc
    go_wp2_with fail
    refine HCZ.out.mono ?_
    rintro e w2 ⟨rfl, rfl⟩
    go_wp2_with fail
    go_roundw
    case rel => exact ⟨H + 1, j, by omega, hpj, hjn, by go_num, rfl, HB.out⟩
    case measure => simp [intOf]; omega
   ·have hHp : p <= H := by
     rcases Ja H p with h | h
     ·exact absurd (HUP.out H p z x h HX.out HPX.out) hc
     ·exact h
    by_cases hc2 : z = x
    ·have HCZ := hid (zCd _ _ z x 0 wr ((zS8.eq z x).2 hc2) HZE.out HXE.out HFZ.out HFX.out)
     clear hc hc2
     go_wp2_with fail
     refine HCZ.out.mono ?_
     rintro e w2 ⟨rfl, rfl⟩
     go_wp2_with fail
     go_roundw
     case rel => exact ⟨i, H, hip, hHp, by omega, rfl, rfl, HB.out⟩
     case measure => simp [intOf]; omega
    ·have HCZ := hid (zCd _ _ z x 1 wr (by unfold ltB at hc; have h0 := zHp hc2; rcases zS8.tri z x with h | h | h <;> omega) HZE.out HXE.out HFZ.out HFX.out)
     clear hc hc2
     go_wp2_with fail
     refine HCZ.out.mono ?_
     rintro e w2 ⟨rfl, rfl⟩
     go_wp2_with fail
     go_roundw
     case rel => exact ⟨i, H, hip, hHp, by omega, rfl, rfl, HB.out⟩
     case measure => simp [intOf]; omega
  ·have hij2 : i = p := by omega
   have hij3 : j = p := by omega
   subst hij3
   subst hij2
   have hijn : ¬ (i : Int) < (i : Int) := by omega
   have hini : (i : Int) < (n : Int) := by omega
   have hi0 : (0 : Int) <= (i : Int) := by omega
   obtain ⟨za, zc, z, hz1, hze⟩ := zBp HE.out (q := i) (by rw [<- HN.out]; exact hpn)
   have hx1 : wr.cell? ⟨b, off + i, none⟩ = some (.slice za (Qb z) zc) := hcell i _ hz1
   have hzx := zA8 hz1
   rw [HPX.out] at hzx
   obtain rfl : x = z := Option.some.inj hzx
   have HCZ := hid (zCd _ _ x x 0 wr (zFc x) (hze.kept HB.out) (HXR.out.kept HB.out) HFX.out HFX.out)
   clear hzx hz1 hcell hb hze
   go_wp2_with fail
   refine HCZ.out.mono ?_
   rintro e w2 ⟨rfl, rfl⟩
   go_wp2_with fail
   go_ret2
   exact ⟨rfl, HB.out⟩
open Go.Shelf Go.Sort in
theorem zN9 {α : Type} [Inhabited α] (enc : α -> Value) (w : World) (g m : Nat) (cur : List Value) (T : TypeId) (d : Array α) (os : Array Obj) (hg : w.heap[g]? = some (.cells cur.toArray T (0, 0))) (hd : d.size <= cur.length) :
  (sortWorld enc w g 0 m d os).heap[g]? = some (.cells (d.toList.map enc ++ cur.drop d.size).toArray T (0, 0)) := by
 have hlt := (Qn.1 hg).1
 unfold sortWorld putRow mapBlock grow Go.Sort.ahead
 simp only
 rw [Jf (by simpa using hlt), Jg, if_pos rfl, hg, Qi]
 unfold onCells
 simp only
 congr 2
 unfold putCells
 apply Array.ext_getElem?
 intro k
 rw [Array.getElem?_mapIdx]
 simp only [List.getElem?_toArray, Qp, true_and, Jh, Qw]
 by_cases hk : k < d.size
 ·rw [List.getElem?_append_left (by simpa using hk), Qf, Qd (l := d.toList) (by simpa using hk), Qd (l := cur) (by omega), Qi, Qi, if_pos hk, getElem!_pos d k hk, Array.getElem_toList]
 ·rw [List.getElem?_append_right (by simpa using hk), List.getElem?_drop]
  simp only [Qg, Qj]
  rw [show d.size + (k - d.size) = k by omega]
  rcases h : cur[k]? with _ | u
  ·rfl
  ·rw [Qi, if_neg hk]
open Go.Shelf Go.Sort in
theorem zFr {α : Type} [Inhabited α] (enc : α -> Value) (w : World) (g m : Nat) (d : Array α) (os : Array Obj) : w.grownBy (sortWorld enc w g 0 m d os) (some g) := by
 refine ⟨rfl, rfl, rfl, ?_, fun k hk hne => ?_⟩
 ·unfold sortWorld putRow mapBlock grow Go.Sort.ahead
  simp
 ·unfold sortWorld putRow mapBlock grow Go.Sort.ahead
  simp only
  rw [Jf (by simpa using hk), Jg, if_neg (fun e => hne (by rw [e]))]
def nth (ps : Row) (i : Nat) : Value × By := ps.getD i (.slice none 0 0, [])
theorem zIw {ps : Row} {i : Nat} (h : i < ps.length) : ps[i]? = some (nth ps i) := by
 unfold nth
 rw [Qx, Qd h]
 rfl
theorem zPu {ps : Row} {i : Nat} (h : ¬ i < ps.length) : nth ps i = (.slice none 0 0, []) := by
 unfold nth
 rw [Qx, Qy (by omega)]
 rfl
theorem zLs {w : World} {ps : Row} (h : Els w ps) (i : Nat) : Rd w (nth ps i).1 ((nth ps i).2.map u8v) := by
 by_cases hi : i < ps.length
 ·exact h _ (Qc (zIw hi))
 ·rw [zPu hi]; exact Rd.nil w
theorem zM8 {ps : Row} (h : ∀ x ∈ xs ps, Fit x) (i : Nat) : Fit (nth ps i).2 := by
 by_cases hi : i < ps.length
 ·exact h _ (Qc (zA8 (zIw hi)))
 ·rw [zPu hi]; exact ⟨fun a ha => by simp at ha, by simp⟩
theorem zSg {w : World} {ps : Row} (h : Els w ps) (i : Nat) : (nth ps i).1.oneCell' = true := by
 obtain ⟨ao, cap, hv, _⟩ := zLs h i
 rw [hv]
 rfl
theorem zPv (ps : Row) : (Qz ps.length).map (nth ps) = ps := by
 apply List.ext_getElem?
 intro i
 rw [Qf]
 by_cases hi : i < ps.length
 ·rw [List.getElem?_range hi, Qi, zIw hi]
 ·rw [Qy (by simpa using hi), Qy (by omega)]; rfl
def cmpI (ps : Row) (i j : Nat) : Int := cmpB (nth ps i).2 (nth ps j).2
open Go.Shelf Go.Sort in
theorem ltI (ps : Row) (i j : Nat) : ltOf (cmpI ps) i j = decide (ltB (nth ps i).2 (nth ps j).2) := rfl
open Go.Shelf Go.Sort in
theorem swoI (ps : Row) : SWO (ltOf (cmpI ps)) where
 irrefl x := by rw [ltI]; exact decide_eq_false (zDu _)
 trans x y z h1 h2 := by
  rw [ltI, decide_eq_true_iff] at *
  exact zFb h1 h2
 ntrans x y z h1 h2 := by
  rw [ltI, decide_eq_false_iff_not] at *
  exact zPr h2 h1
open Go.Shelf Go.Sort in
theorem zOa (ps : Row) (base g cap : Nat) (w : World) (hl : ps.length <= 100000) (hI : ∀ x ∈ xs ps, Fit x) (hown : OwnR base w (.slice (some ⟨g, 0, none⟩) ps.length cap) ps) (he : ∀ w', w.grownBy w' (some g) -> Els w' ps) :
  Calls Tryz.prog 172 #[.slice (some ⟨g, 0, none⟩) ps.length cap, .func (.func 152) #[] #[]] w fun e w' => e = .returned (.tuple #[]) ∧ ∃ ys : Row, ys.length = ps.length ∧ ys.Perm ps ∧ (∀ (i : Nat) (a b : By), (xs ys)[i]? = some a -> (xs ys)[i + 1]? = some b -> ¬ ltB b a) ∧ OwnR base w' (.slice (some ⟨g, 0, none⟩) ps.length cap) ys ∧ w.grownBy w' (some g) := by
 obtain ⟨cur, hg, hnc, hcm, hcl, hct, hb⟩ := zCo hown
 have hels := he w (World.grownBy.refl _ _)
 have eg : ∀ args w, (callFunc 152 args).run Tryz.prog w = .ok (.enter 152 args) w := enters_of Tryz.func152 (by kernel_rfl) rfl
 have hH : Holds (fun i : Nat => (nth ps i).1) w g 0 (Qq ps.length) := fun j hj => by
  have hj2 : j < ps.length := by simpa using hj
  rw [Jh]
  refine ⟨?_, zHy hown j⟩
  rw [World.ownsRow.cellAt hown j (by omega)]
  unfold vs
  rw [Qf, zIw hj2, Qi, getElem!_pos (Qq ps.length) j hj, Array.getElem_range]
 have hcon := Any.slices_SortFunc Tryz.sortB (fun i : Nat => (nth ps i).1) (fun i => zSg hels i) (cmpI ps) (swoI ps) 152 #[] g 0 cap (Qq ps.length) w eg (CmpReads.lays fun m os dk _ x y => (zCd _ _ _ _ _ _ rfl (zLs (he _ (zFr _ w g m dk os)) x) (zLs (he _ (zFr _ w g m dk os)) y) (zM8 hI x) (zM8 hI y)).mono fun e w' h => ⟨h.1, 0, h.2⟩) hH (Qn.1 hg).1 (by simp; omega)
 change Calls Tryz.prog 172 _ _ _ at hcon
 rw [Ji] at hcon
 refine hcon.mono ?_
 rintro e w' ⟨he2, d', m, os, hp, hs, rfl⟩
 have hsz : d'.size = ps.length := by rw [hp.1, Ji]
 have hperm : d'.toList.Perm (Qz ps.length) := by
  have h := hp.2.2
  rw [Jj, Jj] at h
  have e1 : d'.toList.extract 0 ps.length = d'.toList := by rw [Jk, Jl, Qw]; exact Jm (by simp; omega)
  have e2 : (Qq ps.length).toList.extract 0 ps.length = Qz ps.length := by rw [Jk, Jl, Qw, Array.toList_range]; exact Jm (by simp)
  rw [e1, e2] at h
  exact h
 refine ⟨he2, d'.toList.map (nth ps), by rw [Qg, Qj]; exact hsz, ?_, fun i a b ha hb2 => ?_, ?_, zFr _ w g m d' os⟩
 ·have h := hperm.map (nth ps)
  rwa [zPv] at h
 ·have e1 : xs (d'.toList.map (nth ps)) = d'.toList.map fun i => (nth ps i).2 := by unfold xs; rw [Jn]; rfl
  rw [e1] at ha hb2
  have hi2 := (Qt.1 hb2).1
  rw [Qg, Qj] at hi2
  have h := hs i (i + 1) (Qp _) (by omega) (by omega)
  rw [ltI, getElem!_pos d' (i + 1) hi2, getElem!_pos d' i (by omega), decide_eq_false_iff_not] at h
  rw [Qf, Jo, Jp (by omega)] at ha
  rw [Qf, Jo, Jp hi2] at hb2
  have h1 := Option.some.inj ha
  have h2 := Option.some.inj hb2
  rw [<- h1, <- h2]
  exact h
 ·rw [Qh] at hcl hct
  have hh := zN9 (fun i : Nat => (nth ps i).1) w g m cur 29 d' os hg (by rw [hsz, hcl]; exact hnc)
  have hle : ps.length <= cur.length := by rw [hcl]; exact hnc
  have e1 : vs (d'.toList.map (nth ps)) = d'.toList.map fun i => (nth ps i).1 := by unfold vs; rw [Jn]; rfl
  refine OwnR.of (n := ps.length) ?_
  rw [e1]
  refine zDk hh hnc hcm ?_ ?_ hb
  ·rw [List.length_append, Qg, List.length_drop, Qj, hsz, Qh, <- hcl]; omega
  ·rw [Qh, List.take_left' (by rw [Qg, Qj, hsz])]
theorem zFp (fv : Value) (w : World) : Calls Tryz.prog 207 #[.slice none 0 0, .int .i64 0, .int .i64 0, fv] w fun e w' => e = .returned (.tuple #[]) ∧ w' = w := by
 go_enter Tryz.func207, Tryz.ntmps207
 go_wp2_with fail
 refine wp_loop_rounds 1 ?_
 rw [rounds_succ]
 go_wp2_with fail
 go_end0
 exact ⟨rfl, rfl⟩
theorem zIb (fv : Value) (w : World) : Calls Tryz.prog 195 #[.slice none 0 0, .int .i64 0, .int .i64 0, .int .i64 0, fv] w fun e w' => e = .returned (.tuple #[]) ∧ w' = w := by
 have HI := hid (zFp fv w)
 go_enter Tryz.func195, Tryz.ntmps195
 go_wp2_with fail
 refine wp_loop_rounds 1 ?_
 rw [rounds_succ]
 go_wp2_with fail
 refine HI.out.mono ?_
 rintro e w2 ⟨rfl, rfl⟩
 go_wp2_with fail
 (try simp only [Exit.inBlock, Exit.then])
 refine bodyPost_ret (results_none rfl _ _ _) rfl ?_
 exact ⟨rfl, rfl⟩
theorem zOb (w : World) : Calls Tryz.prog 172 #[.slice none 0 0, .func (.func 152) #[] #[]] w fun e w' => e = .returned (.tuple #[]) ∧ w' = w := by
 have HL := hid (zLh w)
 have HP := hid (zIb (.func (.func 152) #[] #[]) w)
 go_enter Tryz.func172, Tryz.ntmps172
 go_wp2_with fail
 refine HL.out.mono ?_
 rintro e w2 ⟨rfl, rfl⟩
 go_wp2_with fail
 refine HP.out.mono ?_
 rintro e w3 ⟨rfl, rfl⟩
 go_wp2_with fail
 go_end0
 exact ⟨rfl, rfl⟩
theorem zPw (ps : Row) (base : Nat) (v : Value) (w : World) (hl : ps.length <= 100000) (hI : ∀ x ∈ xs ps, Fit x) (hown : OwnR base w v ps) (he : ∀ w', w.grownBy w' v.ownBlock -> Els w' ps) :
  Calls Tryz.prog 172 #[v, .func (.func 152) #[] #[]] w fun e w' => e = .returned (.tuple #[]) ∧ ∃ ys : Row, ys.length = ps.length ∧ ys.Perm ps ∧ (∀ (i : Nat) (a b : By), (xs ys)[i]? = some a -> (xs ys)[i + 1]? = some b -> ¬ ltB b a) ∧ OwnR base w' v ys ∧ w.grownBy w' v.ownBlock := by
 rcases hown.2 with ⟨hv, h0⟩ | ⟨g, cap, cur, hv, _⟩
 ·subst hv
  have h00 : ps = [] := Jc.1 h0
  refine (zOb w).mono ?_
  rintro e w' ⟨he2, rfl⟩
  exact ⟨he2, ps, rfl, List.Perm.refl _, (fun i a b ha _ => by have := (Qt.1 ha).1; rw [zAt, h0] at this; omega), hown, World.grownBy.refl _ _⟩
 ·subst hv
  exact zOa ps base g cap w hl hI hown he
theorem zHd (ps : Row) (lv : Value) (w : World) (hI : ∀ x ∈ xs ps, Fit x) (hl : ps.length <= 65535) (hr : Rd w lv (vs ps)) (he : Els w ps) :
  Calls Tryz.prog 134 #[.agg #[.func (.func 168) #[] #[], .func (.func 169) #[] #[], .func (.func 152) #[] #[], .func (.func 77) #[] #[]], lv] w fun e w' => ∃ v, e = .returned v ∧ OwnB w.heap.size w' v (dictT (xs ps)) ∧ Below w.heap.size w w' := by
 obtain ⟨ao, cap, rfl⟩ := zAh hr
 obtain ⟨n, hn⟩ : ∃ n, n = ps.length := ⟨_, rfl⟩
 rw [zA1, <- hn] at hr ⊢
 rw [<- hn] at hl
 have HR := hid hr
 have HN := hid hn
 have HI := hid hI
 have HE := hid he
 have HNX := hid (show n = (xs ps).length by rw [zAt]; exact hn)
 clear hr hn hI he
 go_enter Tryz.func134, Tryz.ntmps134
 go_upto_region 1 with (fail)
 obtain ⟨W1, hW1⟩ : ∃ W1 : World, W1 = w.alloc (.cells #[.func (.func 168) #[] #[], .func (.func 169) #[] #[], .func (.func 152) #[] #[], .func (.func 77) #[] #[]] 192) := ⟨_, rfl⟩
 obtain ⟨X, hX⟩ : ∃ X, X = w.heap.size := ⟨_, rfl⟩
 have hxb : W1.heap[X]? = some (.cells #[.func (.func 168) #[] #[], .func (.func 169) #[] #[], .func (.func 152) #[] #[], .func (.func 77) #[] #[]] 192 (0, 0)) := by rw [hW1, hX]; exact heap_alloc_new w _
 have HB1 := hid (show Below w.heap.size w W1 by rw [hW1]; exact zAd w _)
 rw [<- hW1, <- hX]
 have HXX := hid (show X = w.heap.size ∧ X < W1.heap.size from ⟨hX, (Qn.1 hxb).1⟩)
 have HX := hid fun (w' : World) (h : Below W1.heap.size W1 w') => zAv ((h.block X HXX.out.2).trans hxb)
 have HXB := hid fun (w' : World) (h : Below W1.heap.size W1 w') => ((h.block X HXX.out.2).trans hxb)
 clear hW1 hX hxb
 have HR1 := hid (HR.out.kept HB1.out)
 have HE1 := hid (HE.out.kept HB1.out)
 have HCL := hid (zMq ps (.slice ao n cap) W1 (by rw [<- HN.out]; omega) HR1.out HE1.out)
 go_wp2_with fail
 refine HCL.out.mono ?_
 rintro e w2 ⟨v1, rfl, hown2, hb2⟩
 have HO2 := hid hown2
 have HB2 := hid hb2
 have cf2 := (HX.out w2 hb2).2.2.1
 have HSO := hid (zPw ps W1.heap.size v1 w2 (by rw [<- HN.out]; omega) HI.out hown2 (fun w' hg => HE1.out.kept (zAk hb2 hb2.size hg (zBw hown2))))
 clear hown2 hb2
 go_wp2_with fail
 refine HSO.out.mono ?_
 rintro e w3 ⟨rfl, ys, hyl, hyp, hys, hown3, hg3⟩
 have HB3 := hid (zAk HB2.out HB2.out.size hg3 (zBw HO2.out))
 have HPE := hid (show ∀ p ∈ ys, p ∈ ps from fun p hp => hyp.mem_iff.1 hp)
 have HIY := hid (show ∀ x ∈ xs ys, Fit x from fun x hx => by
  obtain ⟨p, hp, rfl⟩ := Qk.1 hx
  exact HI.out p.2 (Qk.2 ⟨p, HPE.out p hp, rfl⟩))
 have HWT := hid (show xs (compP ys ys.length) = wordsT (xs ps) from by
  rw [zLp ys _ (Qe _), <- zAt ys]
  exact zFo (fun z => (hyp.map Prod.snd).mem_iff) hys)
 have HCO := hid (zLq ys W1.heap.size X v1 w3 (by rw [hyl, <- HN.out]; omega) HIY.out hown3 (fun w' hg => fun p hp => (HE1.out p (HPE.out p hp)).kept (zAk HB3.out HB3.out.size hg (zBw hown3))) (HXB.out w3 HB3.out) (fun e => by have h1 := zBw HO2.out X e; have h2 := HXX.out.2; omega))
 have HO3 := hid hown3
 clear cf2 hyl hyp hys hown3 hg3
 go_wp2_with fail
 refine HCO.out.mono ?_
 rintro e w4 ⟨v4, rfl, hown4, hg4, hv4⟩
 have HB4 := hid (zAk HB3.out HB3.out.size hg4 (zBw HO3.out))
 obtain ⟨wo, wdc, rfl⟩ := hown4.shape
 obtain ⟨pw, hpw⟩ : ∃ pw, pw = compP ys ys.length := ⟨_, rfl⟩
 rw [<- hpw] at hown4 HWT ⊢
 have HPW2 := hid (show ∀ p ∈ pw, p ∈ ps from fun p hp => HPE.out p (zFe ys ys.length p (by rw [<- hpw]; exact hp)))
 obtain ⟨kw, hkw0⟩ : ∃ kw, kw = pw.length := ⟨_, rfl⟩
 have hkw : kw = (wordsT (xs ps)).length := by rw [hkw0, <- zAt, HWT.out]
 have HKW0 := hid hkw0
 rw [<- hkw0]
 have hkwn : kw <= n := by rw [hkw, HNX.out]; exact zA9 _
 rw [<- hkw0] at hown4
 clear hpw
 obtain ⟨W4, hW4⟩ : ∃ W4, W4 = w4 := ⟨_, rfl⟩
 rw [<- hW4] at hown4 HB4 ⊢
 have HO4 := hid hown4
 have HKW := hid hkw
 have HRW := hid (show Rd W4 (.slice wo kw wdc) (vs pw) from OwnR.rd hown4)
 have HEW := hid (show Els W4 pw from fun p hp => (HE1.out p (HPW2.out p hp)).kept HB4.out)
 have HIW := hid (show ∀ x ∈ xs pw, Fit x from fun x hx => by
  obtain ⟨p, hp, rfl⟩ := Qk.1 hx
  exact HI.out p.2 (Qk.2 ⟨p, HPW2.out p hp, rfl⟩))
 have hsz4 := HB4.out.size
 have c4 := HX.out W4 HB4.out
 obtain ⟨c40, c41, c42, c43⟩ := c4
 have HXC := hid fun (w' : World) (h : Below W4.heap.size W4 w') => HX.out w' (HB4.out.trans (h.mono hsz4))
 obtain ⟨kn, hkn⟩ : ∃ kn, kn = (numC kw).length := ⟨_, rfl⟩
 obtain ⟨kp, hkp⟩ : ∃ kp, kp = (plainT (wordsT (xs ps))).length := ⟨_, rfl⟩
 have HNU := hid (show ∀ w0 w', Below w0.heap.size w0 w' -> Below W4.heap.size W4 w' -> Calls Tryz.prog 46 #[.slice none 0 0, .int .u64 (kw : Int)] w' fun e w'' => ∃ ao5 cap5, e = .returned (.slice ao5 kn cap5) ∧ w''.ownsRow W4.heap.size 5 1 (.slice ao5 kn cap5) kn ((numC kw).map u8v) ∧ Below w0.heap.size w0 w'' ∧ Below W4.heap.size W4 w'' from fun w0 w' h0 h4 => by
  refine (zM5 kw w' (by omega)).mono ?_
  rintro e w'' ⟨ao5, cap5, he, ho, hb⟩
  rw [<- hkn] at he ho
  exact ⟨ao5, cap5, he, by have h := zAo ho h4.size; rw [<- hkn] at h; exact h, zAa h0 hb, zAa h4 hb⟩)
 have HPL := hid (show ∀ w0 w', Below w0.heap.size w0 w' -> Below W4.heap.size W4 w' -> Calls Tryz.prog 132 #[.agg #[.func (.func 168) #[] #[], .func (.func 169) #[] #[], .func (.func 152) #[] #[], .func (.func 77) #[] #[]], .slice wo kw wdc] w' fun e w'' => ∃ ao6 cap6, e = .returned (.slice ao6 kp cap6) ∧ Rd w'' (.slice ao6 kp cap6) ((plainT (wordsT (xs ps))).map u8v) ∧ Below w0.heap.size w0 w'' ∧ Below W4.heap.size W4 w'' from fun w0 w' h0 h4 => by
  refine (zDl pw _ w' HIW.out (by rw [<- HKW0.out]; omega) (HRW.out.kept h4) (HEW.out.kept h4)).mono ?_
  rintro e w'' ⟨v, he, ho, hb⟩
  rw [HWT.out] at ho
  obtain ⟨ao6, cap6, rfl⟩ := ho.shape
  have hrd := OwnB.rd ho
  rw [<- hkp] at he hrd
  exact ⟨ao6, cap6, he, hrd, zAa h0 hb, zAa h4 hb⟩)
 have HKP := hid hkp
 have HKN := hid hkn
 have HKNL := hid (show kn <= 10 from by rw [hkn]; exact (zA5 9 kw).1)
 have HKPL := hid (show kp <= 5000000 from by rw [hkp]; have := zA3 (wordsT (xs ps)) (fun x hx => HI.out x ((zAx _ x).1 hx)); rw [<- hkw] at this; omega)
 have HONP := hid (zAr (zAq (plainT (wordsT (xs ps)))))
 have hwkw : IntKind.u64.wrap (kw : Int) = (kw : Int) := Qv _ (by omega)
 have HGC := hid (show ∀ w', Below W4.heap.size W4 w' -> Below w.heap.size w w' from fun w' h => HB1.out.trans ((HB4.out.trans (h.mono hsz4)).mono HB1.out.size))
 have hS4 : Below W4.heap.size W4 W4 := Qa _ _
 clear hown4 hg4 hv4 hW4 hkw hkw0 hkn hkp HO2 HO3 HB2 HB3 HSO HCO HCL HXB
 go_upto_region 4 with (fail)
 go_cut [6] (fun v wx => ∃ ao7 cap7, v = .slice ao7 (kn + kp) cap7 ∧ wx.ownsRow W4.heap.size 5 1 (.slice ao7 (kn + kp) cap7) (kn + kp) ((numC kw ++ plainT (wordsT (xs ps))).map u8v) ∧ Below W4.heap.size W4 wx)
 case first =>
  go_region_law
   (first
    | (go_simp; go_at_call 46; have h6 := hS6; refine (HNU.out w6 _ ?_ ?_).mono ?_; (repeat (first | assumption | exact Qa _ _ | refine zAj ?_ _ | refine zAn ?_)); (repeat (first | assumption | exact Qa _ _ | refine zAj ?_ _ | refine zAn ?_)); rintro e w5 ⟨ao5, cap5, rfl, hown5, hb65, hS5⟩; have hT : Below w6.heap.size w6 w5 := hb65; have cf : w5.cell? ⟨X, 0, none⟩ = some (.func (.func 168) #[] #[]) := (HXC.out w5 hS5).1)
    | (go_simp; go_at_call 46; refine (HNU.out W4 _ ?_ ?_).mono ?_; (repeat (first | assumption | exact Qa _ _ | refine zAj ?_ _ | refine zAn ?_)); (repeat (first | assumption | exact Qa _ _ | refine zAj ?_ _ | refine zAn ?_)); rintro e w5 ⟨ao5, cap5, rfl, hown5, _, hS5⟩; have hd0 := (HXC.out w5 hS5).1; have hd1 := (HXC.out w5 hS5).2.1; have hd2 := (HXC.out w5 hS5).2.2.1; have hd3 := (HXC.out w5 hS5).2.2.2)
    | (go_simp; go_at_call 132; have h5 := hS5; refine (HPL.out w5 _ ?_ ?_).mono ?_; (repeat (first | assumption | exact Qa _ _ | refine zAj ?_ _ | refine zAn ?_)); (repeat (first | assumption | exact Qa _ _ | refine zAj ?_ _ | refine zAn ?_)); rintro e w6 ⟨ao6, cap6, rfl, hown6, hb56, hS6⟩; have hU : Below w5.heap.size w5 w6 := hb56)
    | (go_simp; go_at_call 132; refine (HPL.out W4 _ ?_ ?_).mono ?_; (repeat (first | assumption | exact Qa _ _ | refine zAj ?_ _ | refine zAn ?_)); (repeat (first | assumption | exact Qa _ _ | refine zAj ?_ _ | refine zAn ?_)); rintro e w6 ⟨ao6, cap6, rfl, hown6, _, hS6⟩)
    | (have h := hT; (refine zBc zBf (by rfl) _ _ (by rfl) W4.heap.size (.slice ao5 kn cap5) kn ((numC kw).map u8v) (by rfl) hown5 (.slice ao6 kp cap6) (((plainT (wordsT (xs ps))).map u8v).map fun u => [u]) (by rfl) (zAs (show Rd _ (.slice ao6 kp cap6) ((plainT (wordsT (xs ps))).map u8v) from by exact Rd.kept hown6 hb65)) HONP.out (by simp; have := HKPL.out; have := HKNL.out; have := HKP.out; omega) hS5.size (kn + kp) (by simp; exact HKP.out.symm) ?_; intro ao7 cap7 w7 hown7 hgrow7 hnew7; have hS7 : Below W4.heap.size W4 w7 := zAk hS5 hS5.size (show World.grownBy _ w7 (Value.slice ao5 kn cap5).ownBlock from hgrow7) (zAg hown5)))
    | (have h := hU; (refine zBc zBf (by rfl) _ _ (by rfl) W4.heap.size (.slice ao5 kn cap5) kn ((numC kw).map u8v) (by rfl) (hown5.kept (zAb hb56 none) (by cases h : (Value.slice ao5 kn cap5).ownBlock with | none => exact .inl rfl | some g => exact .inr (by simp))) (.slice ao6 kp cap6) (((plainT (wordsT (xs ps))).map u8v).map fun u => [u]) (by rfl) (zAs (show Rd _ (.slice ao6 kp cap6) ((plainT (wordsT (xs ps))).map u8v) from by exact Rd.kept hown6 (Qa _ _))) HONP.out (by simp; have := HKPL.out; have := HKNL.out; have := HKP.out; omega) hS6.size (kn + kp) (by simp; exact HKP.out.symm) ?_; intro ao7 cap7 w7 hown7 hgrow7 hnew7; have hS7 : Below W4.heap.size W4 w7 := zAk hS6 hS6.size (show World.grownBy _ w7 (Value.slice ao5 kn cap5).ownBlock from hgrow7) (zAg hown5)))
    | fail)
  all_goals
   go_wp2_with fail
   go_meet
   exact ⟨ao7, cap7, rfl, by rw [Jq]; rw [zAp] at hown7; exact hown7, hS7⟩
 case rest =>
  obtain ⟨ao7, cap7, rfl, hown7, hbel7⟩ := hcut
  obtain ⟨W7, hW7⟩ : ∃ W7 : World, W7 = wc := ⟨_, rfl⟩
  rw [<- hW7] at hown7 hbel7 ⊢
  clear hW7
  have HO7 := hid hown7
  have HB7 := hid (HGC.out W7 hbel7)
  have HRW7 := hid (HRW.out.kept hbel7)
  have HEW7 := hid (HEW.out.kept hbel7)
  have HXC7 := hid (show ∀ w', Below W7.heap.size W7 w' -> w'.cell? ⟨X, 2, none⟩ = some (.func (.func 152) #[] #[]) from fun w' h => (HXC.out w' (hbel7.trans (h.mono hbel7.size))).2.2.1)
  have HSZ7 := hid (show w.heap.size <= W4.heap.size from (HGC.out W4 hS4).size)
  have HS47 := hid hbel7.size
  obtain ⟨ei, he1, he2, he3, he4⟩ := info_parts zH6
  obtain ⟨W8, hmk, hown8, hg8⟩ := run_make_full (P := Tryz.prog) W7 W7.heap.size 159 105 ei (.int .u64 0) 1 Tryz.underlying159 he1 he2 he3 .i64 .i64 n (by rw [he4]; omega) (by unfold maxLen; omega) (Qe _)
  obtain ⟨G, hG⟩ : ∃ G, G = W7.heap.size := ⟨_, rfl⟩
  rw [<- hG] at hmk hown8
  have HO8 := hid (show W8.ownsRow G 105 1 (.slice (some ⟨G, 0, none⟩) n n) n ((fillT (placeT (wordsT (xs ps))) (xs ps) 0 n 0).map u64v) from by
   rw [show (Value.int .u64 0).cells = #[Value.int .u64 0] from rfl, Qh, toList_madeCells_one] at hown8
   rw [zEf, List.map_replicate]
   exact hown8)
  have HB8 := hid (show Below W7.heap.size W7 W8 from ⟨hg8.os, hg8.tape, hg8.output, hg8.size, fun i hi => hg8.block i hi (by simp)⟩)
  have HGG := hid hG
  clear hown8 hg8 he1 he2 he3 he4 hG hown7 hbel7 c40 c41 c42 c43 hS4 HNU HPL HXC HRW HGC HONP
  go_upto_region 6 with (fail)
  clear hmk
  go_wp2_with fail
  go_loopw [34] (fun i wr => ∃ q : Nat, q <= n ∧ i = .int .i64 (q : Int) ∧ wr.ownsRow G 105 1 (.slice (some ⟨G, 0, none⟩) n n) n ((fillT (placeT (wordsT (xs ps))) (xs ps) 0 n q).map u64v) ∧ Below W7.heap.size W7 wr) (fun i _ => n - (intOf i).toNat)
  case atStart => exact ⟨0, Qp _, rfl, HO8.out, HB8.out⟩
  case round =>
   obtain ⟨q, hq, rfl, hown, hbel⟩ := hrel
   have HO := hid hown
   have HBL := hid hbel
   clear hown hbel
   by_cases hlt : q < n
   ·have hlti : (q : Int) < (n : Int) := by omega
    have hq0 : (0 : Int) <= (q : Int) := by omega
    obtain ⟨b, off, rfl, hcell⟩ := (zBo (HR.out.kept (HB7.out.trans (HBL.out.mono HB7.out.size)))).2 (by omega)
    obtain ⟨za, zc, p, hat0, hze⟩ := zBp HE.out (q := q) (by rw [<- HN.out]; exact hlt)
    have hx : wr.cell? ⟨b, off + q, none⟩ = some (.slice za (Qb p) zc) := hcell q _ hat0
    have hat := zA8 hat0
    have HD := hid (zEe (placeT (wordsT (xs ps))) 0 HNX.out.symm hlt hat)
    have hmem : p ∈ wordsT (xs ps) := (zAx _ p).2 (Qc hat)
    have HBS := hid (zLr pw p (.slice za (Qb p) zc) (.slice wo kw wdc) wr (by rw [<- HKW0.out]; omega) HIW.out (by rw [HWT.out]; exact zBg _) (by rw [HWT.out]; exact hmem) (HRW7.out.kept HBL.out) (HEW7.out.kept HBL.out) (hze.kept (HB7.out.trans (HBL.out.mono HB7.out.size))))
    rw [HWT.out] at HBS
    have hpl := zBh (zBg _) hmem
    obtain ⟨t, ht⟩ : ∃ t : Nat, t = placeT (wordsT (xs ps)) p := ⟨_, rfl⟩
    rw [<- ht, <- HKW.out] at hpl
    rw [<- ht] at HBS
    have htw : IntKind.u64.wrap (t : Int) = (t : Int) := Qv _ (by omega)
    have HTT := hid ht
    have cx := HXC7.out wr HBL.out
    clear hcell hat ht hmem hat0 hze
    go_wp2_with fail
    refine HBS.out.mono ?_
    rintro e w10 ⟨rfl, hb10⟩
    have HO10 := hid (show w10.ownsRow G 105 1 (.slice (some ⟨G, 0, none⟩) n n) n ((fillT (placeT (wordsT (xs ps))) (xs ps) 0 n q).map u64v) from HO.out.kept (zAb hb10 none) (.inr (by simp [Value.ownBlock])))
    have HB10 := hid (zAa HBL.out hb10)
    have hcG2 : ∃ u, w10.cell? ⟨G, q, none⟩ = some u := by
     rw [HO10.out.cellAt q (by omega)]
     exact ⟨_, Qd (by rw [Qg, zE9 _ _ HNX.out.symm hq]; exact hlt)⟩
    obtain ⟨uG, hcG3⟩ := hcG2
    have hfG := HO10.out.frozenAt q
    have hst := HO10.out.stored q (.int .u64 (t : Int))
    have HST := hid hst
    clear hst hb10 hx cx
    go_wp2_with fail
    go_roundw
    case rel =>
     refine ⟨q + 1, by omega, by go_num, ?_, ?_⟩
     ·rw [HD.out, <- HTT.out, List.map_set]
      have h := HST.out.1
      exact h
     ·exact HB10.out.setCell (p := ⟨G, q, none⟩) (by show _ <= G; rw [HGG.out]; exact Qe _) _
    case measure => simp [intOf]; omega
   ·have hqn : q = n := by omega
    subst hqn
    have hlti : ¬ (q : Int) < (q : Int) := by omega
    have HUR := hid (show Rd wr (.slice (some ⟨G, 0, none⟩) q q) (((xs ps).map (placeT (wordsT (xs ps)))).map u64v) from by
     have h := Rd.of_owns HO.out
     rw [zFa _ _ HNX.out.symm] at h
     exact h)
    obtain ⟨us, hus⟩ : ∃ us, us = (xs ps).map (placeT (wordsT (xs ps))) := ⟨_, rfl⟩
    rw [<- hus] at HUR
    have HLEN := hid (show us.length = q by rw [hus, Qg, HNX.out])
    have H64 := hid (show ∀ i, us.getD i 0 < 18446744073709551616 from fun i => by
     rw [Qx]
     cases hz : us[i]? with
     | none => decide
     | some x =>
      rw [hus] at hz
      obtain ⟨m, hm, rfl⟩ := Qk.1 (Qc hz)
      have h1 := zBh (zBg _) ((zAx _ m).2 hm)
      rw [<- HKW.out] at h1
      show placeT (wordsT (xs ps)) m < _
      omega)
    have HUS := hid hus
    have HPW := hid (zEd kw (by omega) wr)
    have hbl := (bitLen_le (kw - 1) (by omega)).1
    obtain ⟨wd, hwd⟩ : ∃ wd, wd = Lib.bitLen (kw - 1) := ⟨_, rfl⟩
    rw [<- hwd] at hbl HPW
    have HWD := hid hwd
    have HPA := hid (zF7 (wd : Int) (some ⟨G, 0, none⟩) q q us wr HUR.out H64.out (by omega))
    have hhe : heldN (wd : Int) = wd := zF4 wd hbl
    rw [hhe] at HPA
    have hpkl := zAy wd us
    have hpk2 : wd * us.length <= 64 * 65535 := Nat.mul_le_mul hbl (by rw [HLEN.out]; exact hl)
    obtain ⟨kq, hkq⟩ : ∃ kq, kq = (packB wd us).length := ⟨_, rfl⟩
    have hkql : kq <= 600000 := by rw [hkq, hpkl]; omega
    have HKQ := hid hkq
    have HO9 := hid (show wr.ownsRow W4.heap.size 5 1 (.slice ao7 (kn + kp) cap7) (kn + kp) ((numC kw ++ plainT (wordsT (xs ps))).map u8v) from HO7.out.kept (zAb HBL.out none) (by cases h : (Value.slice ao7 (kn + kp) cap7).ownBlock with | none => exact .inl rfl | some g => exact .inr (by simp)))
    clear hus hwd hhe hpkl hpk2 hkq HUR
    go_wp2_with fail
    refine HPW.out.mono ?_
    rintro e w9 ⟨rfl, rfl⟩
    go_wp2_with fail
    refine HPA.out.mono ?_
    rintro e w10 ⟨ao10, cap10, rfl, hown10, hb10⟩
    have HB10 := hid (zAa HBL.out hb10)
    have HR10 := hid (zAs (show Rd w10 (.slice ao10 kq cap10) ((packB wd us).map u8v) from by have := Rd.of_owns hown10; rw [Qg, <- HKQ.out] at this; exact this))
    rw [Qg, <- HKQ.out]
    have HO10 := hid (show w10.ownsRow W4.heap.size 5 1 (.slice ao7 (kn + kp) cap7) (kn + kp) ((numC kw ++ plainT (wordsT (xs ps))).map u8v) from HO9.out.kept (zAb hb10 none) (by cases h : (Value.slice ao7 (kn + kp) cap7).ownBlock with | none => exact .inl rfl | some g => exact .inr (by simp)))
    have HON := hid (zAr (zAq (packB wd us)))
    have hsz10 : W4.heap.size <= w10.heap.size := Jr HS47.out HB10.out.size
    have hkpl := HKPL.out
    have hknl := HKNL.out
    clear hown10 hb10 HPA HO9
    go_wp2_with (at_builtin; go_must (refine zAf zBf rfl _ _ rfl W4.heap.size _ _ _ rfl HO10.out _ (((packB wd us).map u8v).map fun u => [u]) rfl HR10.out HON.out (by simp; have := HKQ.out; omega) hsz10 (kn + kp + kq) (by have := HKQ.out; simp; omega) ?_); intro ao11 cap11 w11 hown11 hgrow11 hnew11; have HO11 := hid hown11; have HG11 := hid hgrow11; clear hown11 hgrow11 hnew11)
    go_ret
    have hbw10 : Below w.heap.size w w10 := HB7.out.trans (HB10.out.mono HB7.out.size)
    refine ⟨_, rfl, ?_, zAk hbw10 hbw10.size (show w10.grownBy w11 (Value.slice ao7 (kn + kp) cap7).ownBlock from HG11.out) (fun k hk => Jr HSZ7.out (zAg HO10.out k hk))⟩
    have h := HO11.out
    rw [zAp, <- Jq] at h
    have h2 := OwnB.of (zAo h HSZ7.out)
    have e : dictT (xs ps) = numC kw ++ plainT (wordsT (xs ps)) ++ packB wd us := by
     unfold dictT
     rw [<- HKW.out, <- HWD.out, <- HUS.out]
    rw [e]
    exact h2
end Go.Proofs.YtmpgnjhgegbdkaaGreat.Bc
