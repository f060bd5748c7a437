import Derived.Test.YtmpgnjhgegbdkaaGreatIcola
import Derived.Test.YtmpgnjhgegbdkaaGreatBcolm
import Derived.Test.YtmpgnjhgegbdkaaGreatReadg
import Derived.Test.YtmpgnjhgegbdkaaGreatLsix
import Derived.Deep.QuietTactic
import Derived.BigQuiet
import Derived.Test.YtmpgnjhgegbdkaaGreatIcole
import Derived.Deep.DeepCutAuto
set_option linter.unusedVariables false
set_option linter.unusedSimpArgs false
set_option maxRecDepth 100000
set_option maxHeartbeats 8000000
open Go.Lib (hid)
namespace Go.Proofs.YtmpgnjhgegbdkaaGreat.Bc
open Go.RowKit
open _root_.List renaming length -> Qa, length_map -> Qc, mem_of_getElem? -> Qd, getElem?_eq_some_iff -> Qg, mem_singleton -> Qi, length_append -> Qj, map_drop -> Qk, getElem?_append_left -> Ql, getElem?_append_right -> Qm, mem_cons_self -> Qn, mem_map -> Qo, getElem?_map -> Qp, length_take -> Qr, mem_of_mem_drop -> Qt, length_eq_zero_iff -> Qv, replicate -> Qw, map_append -> Qx, length_drop -> Qy, drop_of_length_le -> Qz, drop_drop -> Jb, append_assoc -> Jc, mem_cons -> Jd, mem_cons_of_mem -> Je, mem_append -> Jf
open Go.RowKit.Below renaming refl -> Qb
open _root_.Nat renaming le_refl -> Qe, zero_le -> Qh, le_trans -> Qq, add_zero -> Qs, lt_or_ge -> Qu, lt_of_lt_of_le -> Jg
open _root_.Array renaming getElem?_eq_some_iff -> Qf
open Go.IntWalk renaming u64_in -> Ja, i64_in -> Ji
open Go.World renaming grownBy_alloc -> Jh
open Go renaming heap_setCell_same -> Jj, heap_alloc_new -> Jk
theorem zM6 : (Tryz.prog.info? 29).map (fun i => (i.zero, i.size, i.bytes)) = some (some (.slice none 0 0), 1, 24) := by kernel_rfl
theorem elmR : Elm Tryz.prog 41 29 1 24 := zFw Tryz.underlying41 zM6 rfl (by decide) (by decide)
abbrev Row := List (Value × By)
def vs (ps : Row) : List Value := ps.map Prod.fst
def xs (ps : Row) : List By := ps.map Prod.snd
def Els (w : World) (ps : Row) : Prop := ∀ p ∈ ps, Rd w p.1 (p.2.map u8v)
theorem Els.kept {w w' : World} {ps : Row} (h : Els w ps) (hb : Below w.heap.size w w') : Els w' ps := fun p hp => (h p hp).kept hb
theorem Els.ones {w : World} {ps : Row} (h : Els w ps) : ∀ u ∈ vs ps, u.oneCell' = true := fun u hu => by
 obtain ⟨p, hp, rfl⟩ := Qo.1 hu
 obtain ⟨ao, cap, hv, _⟩ := h p hp
 rw [hv]
 rfl
def OwnR (base : Nat) (w : World) (v : Value) (ps : Row) : Prop := w.ownsRow base 29 1 v ps.length (vs ps)
theorem OwnR.shape {base : Nat} {w : World} {v : Value} {ps : Row} (h : OwnR base w v ps) : ∃ ao cap, v = .slice ao ps.length cap := zB2 h
theorem OwnR.rd {base : Nat} {w : World} {v : Value} {ps : Row} (h : OwnR base w v ps) : Rd w v (vs ps) := Rd.of_owns h
theorem OwnR.of {base : Nat} {w : World} {v : Value} {n : Nat} {ps : Row} (h : w.ownsRow base 29 1 v n (vs ps)) : OwnR base w v ps := by
 have h1 := h.1
 unfold vs at h1
 rw [Qc, Nat.mul_one] at h1
 subst h1
 exact h
theorem zLn (base : Nat) (w : World) : OwnR base w (.slice none 0 0) [] := World.ownsRow_nil ..
theorem zBw {base : Nat} {w : World} {v : Value} {ps : Row} (h : OwnR base w v ps) : ∀ k, v.ownBlock = some k -> base <= k := zAg h
theorem zPs {base : Nat} {w w' : World} {v : Value} {ps : Row} (h : OwnR base w v ps) (hb : Below w.heap.size w w') : OwnR base w' v ps :=
 h.kept (zAb hb none) (by cases h : v.ownBlock with | none => exact .inl rfl | some g => exact .inr (by simp))
theorem zBo {w : World} {ao : Option Addr} {len cap : Nat} {ps : Row} (h : Rd w (.slice ao len cap) (vs ps)) :
  len = ps.length ∧ (0 < len -> ∃ b off, ao = some ⟨b, off, none⟩ ∧ ∀ (i : Nat) (p : Value × By), ps[i]? = some p -> w.cell? ⟨b, off + i, none⟩ = some p.1) := by
 obtain ⟨ao', cap', hv, _, hc⟩ := h
 unfold vs at hv hc
 simp only [Qc, Value.slice.injEq] at hv hc
 obtain ⟨rfl, rfl, rfl⟩ := hv
 refine ⟨rfl, fun hp => ?_⟩
 obtain ⟨b, off, ha, hcell⟩ := hc hp
 refine ⟨b, off, ha, fun i p hi => ?_⟩
 have hlt := (Qg.1 hi).1
 rw [hcell i hlt, List.getD_eq_getElem?_getD, Qp, hi]
 rfl
theorem zD6 {w : World} {p : Value × By} (h : Rd w p.1 (p.2.map u8v)) : ∃ ao cap, p.1 = .slice ao p.2.length cap := by
 obtain ⟨ao, cap, hv, _⟩ := h
 rw [Qc] at hv
 exact ⟨ao, cap, hv⟩
theorem zA1 (ps : Row) : (vs ps).length = ps.length := Qc ..
theorem zAt (ps : Row) : (xs ps).length = ps.length := Qc ..
theorem zLo (base : Nat) (v y : Value) (bs : List Nat) (x : By) (w : World) (hy : Rd w y (x.map u8v)) (hx : x.length <= 1000) (hown : OwnB base w v bs) (hb : base <= w.heap.size) (hl : bs.length <= 9000000) :
  Calls Tryz.prog 168 #[v, y] w fun e w' => ∃ v', e = .returned v' ∧ OwnB base w' v' (bs ++ putT x) ∧ w.grownBy w' v.ownBlock ∧ (∀ g, v'.ownBlock = some g -> v.ownBlock = some g ∨ w.heap.size <= g) := by
 obtain ⟨ao, cap, rfl⟩ := hown.shape
 have HN := hid (zNl (.slice none 0 0) y [] x w (Rd.nil w) hy (by decide) (by omega))
 have HO := hid hown
 have hpl : (putT x).length <= 1010 := by
  have := (zA5 9 x.length).1
  unfold putT bytesC numC
  rw [Qj]
  omega
 obtain ⟨ay, cy, hyv⟩ : ∃ ay cy, y = .slice ay x.length cy := by
  obtain ⟨a, c, h, _⟩ := hy
  rw [Qc] at h
  exact ⟨a, c, h⟩
 subst hyv
 clear hown hy
 go_enter Tryz.func168, Tryz.ntmps168
 go_wp2_with fail
 refine HN.out.mono ?_
 rintro e w2 ⟨ao2, cap2, rfl, hown2, hb2⟩
 have HR2 := hid (zAs (show Rd w2 (.slice ao2 (putT x).length cap2) ((putT x).map u8v) from by have := Rd.of_owns hown2; rw [Qc] at this; simpa [putT] using this))
 have HO2 := hid (show OwnB base w2 (.slice ao bs.length cap) bs from zBm HO.out hb2)
 have HB2 := hid hb2
 have hlen : ((([] : List Nat) ++ bytesC x).map u8v).length = (putT x).length := by simp [putT]
 rw [hlen]
 have HON := hid (zAr (zAq (putT x)))
 have hb3 : base <= w2.heap.size := Qq hb hb2.size
 clear hown2 hb2 hlen
 go_wp2_with (at_builtin; go_must (refine zAf zBf rfl _ _ rfl base _ _ _ rfl HO2.out _ (((putT x).map u8v).map fun u => [u]) rfl HR2.out HON.out (by simp; omega) hb3 (bs.length + (putT x).length) (by simp) ?_); intro ao4 cap4 w4 hown4 hgrow4 hnew4; have HO4 := hid hown4; have HG4 := hid hgrow4; have HN4 := hid hnew4; clear hown4 hgrow4 hnew4)
 go_ret
 refine ⟨_, rfl, ?_, ?_, fun g hg => ?_⟩
 ·have h := HO4.out
  rw [zAp, <- Qx] at h
  exact OwnB.of h
 ·exact zAc (zAb HB2.out _) HG4.out
 ·rcases HN4.out g hg with h | h
  ·exact .inl h
  ·right; rw [h]; exact HB2.out.size
def RetB (B r : Nat) (x : By) (left : List Nat) (bad : Bool) (w : World) (e : Ending) (w' : World) : Prop :=
 ∃ v, e = .returned v ∧ OwnB w.heap.size w' v x ∧ IsRB B w' r left bad ∧ w.grownBy w' (some r)
theorem zN6 (B r : Nat) (left : List Nat) (bad : Bool) (w : World) (most : Int) (h : IsRB B w r left bad) (h256 : ∀ x ∈ left, x < 256) (hbig : left.length <= 140737488355328) (u n : Nat) (hn : nextC left = some (u, n)) (hn1 : 0 < n) (hn2 : n <= left.length)
  (hm0 : 0 <= most) (hm1 : (u : Int) <= most) (hm2 : most <= 9223372036854775807) (hu : n + u <= left.length) :
  Calls Tryz.prog 52 #[.pointer (some ⟨r, 0, none⟩), .int .i64 most] w (RetB B r ((left.drop n).take u) (left.drop (n + u)) bad w) := by
 obtain ⟨v, hv, hr, hd⟩ := h
 obtain ⟨c0, c1, f0, f1⟩ := zBb hv
 have hr2 := hr
 obtain ⟨ao, cap, hvs, hrr⟩ := hr2
 clear hrr
 rw [Qc] at hvs
 subst hvs
 have HN := hid hn
 obtain ⟨len, hlen⟩ : ∃ len, len = left.length := ⟨_, rfl⟩
 have hrk := hr
 rw [<- hlen] at c0 hbig hn2 hu hv hr hd
 have HDB := hid hd
 have HV := hid hv
 have HR := hid hr
 have HLEN := hid hlen
 clear hv hr hn hlen hrk hd
 obtain ⟨b, off, rfl, hcell⟩ := (zA0 HR.out).2 (by omega)
 have HAP := hid (HDB.out b off len cap rfl (by omega))
 have hcl := zBr HR.out
 clear hcell
 have hne : ((n : Int) == 0) = false := by rw [beq_eq_false_iff_ne]; omega
 have hrlt : r < w.heap.size := (Qf.1 HV.out).1
 have HRL := hid hrlt
 have HXL := hid (show (((left.drop n).take u).map u8v).length = u by rw [Qc, Qr, Qy, <- HLEN.out]; omega)
 clear hrlt
 by_cases hcn : cap = n
 ·obtain rfl : u = 0 := by omega
  have hln : len = n := by omega
  subst hcn
  subst hln
  go_enter Tryz.func52, Tryz.ntmps52
  go_wp2_with fail
  refine (zCi _ _ _ left w HR.out h256 hbig).mono ?_
  rw [HN.out]
  rintro e w1 ⟨rfl, rfl⟩
  go_wp2_with fail
  refine (zCu _ [] w (zBx _ _ _) (by simp)).mono ?_
  rintro e w1 ⟨ao1, cap1, rfl, hown, hb⟩
  have hV1 := (hb.block r HRL.out).trans HV.out
  obtain ⟨d0, d1, g0, g1⟩ := zBb hV1
  have HV1 := hid hV1
  have HO := hid hown
  have HB := hid hb
  clear hown hb hV1 c0 c1 f0 f1
  go_wp2_with fail
  go_ret
  have hdr : left.drop len = [] := Qz (by rw [<- HLEN.out]; omega)
  rw [Qs, hdr, List.take_zero]
  refine ⟨_, rfl, OwnB.of (n := 0) (bs := []) ?_, ⟨_, Jj w1 r 0 _ _ _ HV1.out, zBx _ _ _, fun b' off' n' c' hv' hp => by simp only [Value.slice.injEq] at hv'; omega⟩, zAc (zAb HB.out _) (zAi _ _ _)⟩
  exact HO.out.kept (zAi w1 ⟨r, 0, none⟩ _) (by
   rcases HO.out.2 with ⟨h, _⟩ | ⟨g', cap', cur, h, hbg, _⟩
   ·left; rw [h]; rfl
   ·right; rw [h]; intro he; cases he; have := HRL.out; omega)
 ·have hd := zHk (zCe HR.out hn2) (show u <= len - n by omega)
  rw [<- Qk, <- List.map_take] at hd
  have HD := hid hd
  clear hd
  go_enter Tryz.func52, Tryz.ntmps52
  go_wp2_with fail
  refine (zCi _ _ _ left w HR.out h256 hbig).mono ?_
  rw [HN.out]
  rintro e w1 ⟨rfl, rfl⟩
  go_wp2_with fail
  refine (zCu _ ((left.drop n).take u) w HD.out (by rw [Qr]; omega)).mono ?_
  rintro e w1 ⟨ao1, cap1, rfl, hown, hb⟩
  rw [HXL.out] at hown ⊢
  have hV1 := (hb.block r HRL.out).trans HV.out
  obtain ⟨d0, d1, g0, g1⟩ := zBb hV1
  have HV1 := hid hV1
  have HO := hid hown
  have HB := hid hb
  clear hown hb hV1 c0 c1 f0 f1
  go_wp2_with fail
  ·go_ret
   have hz : len - (n + u) = 0 := by omega
   refine ⟨_, rfl, OwnB.of (n := u) ?_, ⟨_, Jj w1 r 0 _ _ _ HV1.out, ?_, fun b' off' n' c' hv' hp => ?_⟩, zAc (zAb HB.out _) (zAi _ _ _)⟩
   ·exact HO.out.kept (zAi w1 ⟨r, 0, none⟩ _) (by
     rcases HO.out.2 with ⟨h, _⟩ | ⟨g', cap', cur, h, hbg, _⟩
     ·left; rw [h]; rfl
     ·right; rw [h]; intro he; cases he; have := HRL.out; omega)
   ·rw [hz, Qz (by rw [<- HLEN.out]; omega)]
    exact zBx _ _ _
   ·simp only [Value.slice.injEq] at hv'
    omega
  ·go_ret
   refine ⟨_, rfl, OwnB.of (n := u) ?_, ⟨_, Jj w1 r 0 _ _ _ HV1.out, ?_, fun b' off' n' c' hv' hp => ?_⟩, zAc (zAb HB.out _) (zAi _ _ _)⟩
   ·exact HO.out.kept (zAi w1 ⟨r, 0, none⟩ _) (by
     rcases HO.out.2 with ⟨h, _⟩ | ⟨g', cap', cur, h, hbg, _⟩
     ·left; rw [h]; rfl
     ·right; rw [h]; intro he; cases he; have := HRL.out; omega)
   ·have hd := (zCe HR.out hu).kept HB.out
    rw [<- Qk] at hd
    refine zKv hd fun b' off' c' n' hv' hp => ?_
    simp only [Value.slice.injEq, Option.some.injEq, Addr.mk.injEq] at hv'
    rw [<- hv'.1.1]
    exact HAP.out.2
   ·simp only [Value.slice.injEq, Option.some.injEq, Addr.mk.injEq] at hv'
    rw [<- hv'.1.1]
    exact HAP.out
theorem zN7 (r : Nat) (left : List Nat) (bad : Bool) (w : World) (most : Int) (h : IsR w r left bad) (h256 : ∀ x ∈ left, x < 256) (hbig : left.length <= 140737488355328) (u n : Nat) (hn : nextC left = some (u, n)) (hn1 : 0 < n) (hn2 : n <= left.length)
  (hm0 : 0 <= most) (hm1 : most < (u : Int)) (hm2 : most <= 9223372036854775807) (hu : u < 18446744073709551616) :
  Calls Tryz.prog 52 #[.pointer (some ⟨r, 0, none⟩), .int .i64 most] w fun e w' => e = .returned (.slice none 0 0) ∧ IsR w' r [] true ∧ w.grownBy w' (some r) := by
 have HI := hid h
 obtain ⟨v, hv, hr⟩ := h
 obtain ⟨c0, c1, f0, f1⟩ := zBb hv
 have HR := hid hr
 have hr2 := hr
 obtain ⟨ao, cap, hvs, hrr⟩ := hr2
 clear hrr
 rw [Qc] at hvs
 subst hvs
 have HN := hid hn
 obtain ⟨len, hlen⟩ : ∃ len, len = left.length := ⟨_, rfl⟩
 rw [<- hlen] at c0 hbig hn2 HR
 have hne : ((n : Int) == 0) = false := by rw [beq_eq_false_iff_ne]; omega
 clear hv hr hn hlen
 go_enter Tryz.func52, Tryz.ntmps52
 go_wp2_with fail
 refine (zCi ao len cap left w HR.out h256 hbig).mono ?_
 rw [HN.out]
 rintro e w1 ⟨rfl, rfl⟩
 go_wp2_with fail
 refine (zF6 r left bad w HI.out).mono ?_
 rintro e w2 ⟨rfl, hi, hg⟩
 have HI2 := hid hi
 have HG2 := hid hg
 clear hi hg
 go_wp2_with fail
 go_ret
 exact ⟨rfl, HI2.out, HG2.out⟩
theorem zHf (B r : Nat) (left : List Nat) (bad : Bool) (w : World) (h : IsRB B w r left bad) (h256 : ∀ x ∈ left, x < 256) (hbig : left.length <= 1000000) :
  Calls Tryz.prog 169 #[.pointer (some ⟨r, 0, none⟩)] w (RetB B r (takeR left bad).1 (takeR left bad).2.1 (takeR left bad).2.2 w) := by
 have HC : Calls Tryz.prog 52 #[.pointer (some ⟨r, 0, none⟩), .int .i64 64] w (RetB B r (takeR left bad).1 (takeR left bad).2.1 (takeR left bad).2.2 w) := by
  unfold takeR
  cases hq : nextC left with
  | none =>
   refine (zMe r left bad w 64 h.isR h256 (by omega) hq).mono ?_
   rintro e w' ⟨rfl, h1, h2⟩
   exact ⟨_, rfl, zA6 _ _, zGc h1, h2⟩
  | some p =>
   obtain ⟨u, n⟩ := p
   obtain ⟨hn1, hn2⟩ := zDx left u n hq
   simp only
   by_cases h1 : 64 < u
   ·rw [if_pos (.inl h1)]
    refine (zN7 r left bad w 64 h.isR h256 (by omega) u n hq hn1 hn2 (by decide) (by omega) (by decide) (zJr hq)).mono ?_
    rintro e w' ⟨rfl, h1, h2⟩
    exact ⟨_, rfl, zA6 _ _, zGc h1, h2⟩
   ·by_cases h2 : left.length < n + u
    ·rw [if_pos (.inr h2)]
     refine (zKx r left bad w 64 h.isR h256 (by omega) u n hq hn1 hn2 (by decide) (by omega) (by decide) h2).mono ?_
     rintro e w' ⟨rfl, h1, h2⟩
     exact ⟨_, rfl, zA6 _ _, zGc h1, h2⟩
    ·rw [if_neg (by omega)]
     exact zN6 B r left bad w 64 h h256 (by omega) u n hq hn1 hn2 (by decide) (by omega) (by decide) (by omega)
 have HN := hid HC
 clear h h256 HC
 go_enter Tryz.func169, Tryz.ntmps169
 go_wp2_with fail
 refine HN.out.mono ?_
 rintro e w2 ⟨v2, rfl, hown2, h2, hg2⟩
 obtain ⟨ao, cap, rfl⟩ := hown2.shape
 have H2 := hid h2
 have HG2 := hid hg2
 have HO2 := hid hown2
 clear h2 hg2 hown2 HN
 go_wp2_with fail
 go_ret
 exact ⟨_, rfl, HO2.out, H2.out, HG2.out⟩
theorem zM7 {ps : Row} {q : Nat} {p : Value × By} (h : ps[q]? = some p) : (xs ps).take (q + 1) = (xs ps).take q ++ [p.2] := by
 obtain ⟨hq, rfl⟩ := Qg.1 h
 rw [List.take_succ_eq_append_getElem (by rw [zAt]; exact hq)]
 simp [xs]
theorem zA8 {ps : Row} {q : Nat} {p : Value × By} (h : ps[q]? = some p) : (xs ps)[q]? = some p.2 := by
 unfold xs
 rw [Qp, h]
 rfl
theorem zBp {w : World} {ps : Row} {q : Nat} (he : Els w ps) (hq : q < ps.length) : ∃ va vc x, ps[q]? = some (Value.slice va (Qa x) vc, x) ∧ Rd w (Value.slice va (Qa x) vc) (x.map u8v) := by
 have h := List.getElem?_eq_getElem hq
 obtain ⟨p, hp⟩ : ∃ p, p = ps[q] := ⟨_, rfl⟩
 rw [<- hp] at h
 have h1 := he p (Qd h)
 obtain ⟨v, x⟩ := p
 obtain ⟨va, vc, hv⟩ := zD6 h1
 have hv2 : v = .slice va (Qa x) vc := hv
 clear hv hp
 subst hv2
 exact ⟨va, vc, x, h, h1⟩
theorem zHo (ps : Row) (p : Nat) : xs (ps.drop p) = (xs ps).drop p := by unfold xs; rw [Qk]
theorem zSe (ps : Row) (p : Nat) : vs (ps.drop p) = (vs ps).drop p := by unfold vs; rw [Qk]
theorem Els.drop {w : World} {ps : Row} (h : Els w ps) (k : Nat) : Els w (ps.drop k) := fun p hp => h p (Qt hp)
theorem zDl (ps : Row) (lv : Value) (w : World) (hI : ∀ x ∈ xs ps, Fit x) (hl : ps.length <= 100000) (hr : Rd w lv (vs ps)) (he : Els w ps) :
  Calls Tryz.prog 132 #[.agg #[.func (.func 168) #[] #[], .func (.func 169) #[] #[], .func (.func 152) #[] #[], .func (.func 77) #[] #[]], lv] w fun e w' => ∃ v, e = .returned v ∧ OwnB w.heap.size w' v (plainT (xs ps)) ∧ Below w.heap.size w w' := by
 obtain ⟨ao, cap, rfl⟩ := zAh hr
 obtain ⟨n, hn⟩ : ∃ n, n = ps.length := ⟨_, rfl⟩
 rw [zA1, <- hn] at hr ⊢
 have HR := hid hr
 have HE := hid he
 have HN := hid hn
 have HI := hid hI
 rw [<- hn] at hl
 clear hr hn hI he
 go_enter Tryz.func132, Tryz.ntmps132
 go_upto_region 1 with (fail)
 obtain ⟨W1, hW1⟩ : ∃ W1 : World, W1 = w.alloc (.cells #[.func (.func 168) #[] #[], .func (.func 169) #[] #[], .func (.func 152) #[] #[], .func (.func 77) #[] #[]] 192) := ⟨_, rfl⟩
 obtain ⟨X, hX⟩ : ∃ X, X = w.heap.size := ⟨_, rfl⟩
 have hxb : W1.heap[X]? = some (.cells #[.func (.func 168) #[] #[], .func (.func 169) #[] #[], .func (.func 152) #[] #[], .func (.func 77) #[] #[]] 192 (0, 0)) := by rw [hW1, hX]; exact Jk w _
 have HB1 := hid (show Below w.heap.size w W1 by rw [hW1]; exact zAd w _)
 rw [<- hW1, <- hX]
 have HXX := hid (show X = w.heap.size ∧ X < W1.heap.size from ⟨hX, (Qf.1 hxb).1⟩)
 have HX := hid fun (w' : World) (h : Below W1.heap.size W1 w') => zAv ((h.block X HXX.out.2).trans hxb)
 clear hW1 hX hxb
 have HR1 := hid (HR.out.kept HB1.out)
 have HE1 := hid (HE.out.kept HB1.out)
 go_wp2_with fail
 go_loopw [5, 10] (fun b i wr => ∃ q : Nat, q <= n ∧ i = .int .i64 (q : Int) ∧ OwnB W1.heap.size wr b (plainT ((xs ps).take q)) ∧ Below W1.heap.size W1 wr) (fun _ i _ => n - (intOf i).toNat)
 case atStart => exact ⟨0, Qh _, rfl, zA6 _ _, Qb _ _⟩
 case round =>
  obtain ⟨q, hq, rfl, hown, hbel⟩ := hrel
  have HO := hid hown
  have HBL := hid hbel
  clear hown hbel
  by_cases hlt : q < n
  ·have hlti : (q : Int) < (n : Int) := by omega
   have hq0 : (0 : Int) <= (q : Int) := by omega
   obtain ⟨va, vc, x, hat, hel⟩ := zBp HE1.out (q := q) (by rw [<- HN.out]; exact hlt)
   obtain ⟨b, off, rfl, hcell⟩ := (zBo (HR1.out.kept HBL.out)).2 (by omega)
   have hx : wr.cell? ⟨b, off + q, none⟩ = some (.slice va (Qa x) vc) := hcell q _ hat
   have cf := (HX.out wr HBL.out).1
   have hI1 : Fit x := HI.out x (Qd (zA8 hat))
   have hpl := zA3 ((xs ps).take q) (fun y hy => HI.out y (List.mem_of_mem_take hy))
   rw [Qr] at hpl
   have hpl2 : (plainT ((xs ps).take q)).length <= 9000000 := by omega
   have HP := hid (zLo W1.heap.size _ (.slice va x.length vc) (plainT ((xs ps).take q)) x wr (hel.kept HBL.out) (by have := hI1.2; omega) HO.out HBL.out.size hpl2)
   have HZ := hid (zM7 hat)
   clear hcell hpl hpl2 hel hat hI1
   go_wp2_with fail
   refine HP.out.mono ?_
   rintro e w2 ⟨v2, rfl, hown2, hg2, hn2⟩
   have HO2 := hid (show OwnB W1.heap.size w2 v2 (plainT ((xs ps).take (q + 1))) by rw [HZ.out, zFk]; exact hown2)
   have HB2 := hid (zAk HBL.out HBL.out.size hg2 (zBd HO.out))
   clear hown2 hg2 hn2 hx cf
   go_wp2_with fail
   go_roundw
   case rel =>
    exact ⟨q + 1, by omega, by go_num, HO2.out, HB2.out⟩
   case measure => simp [intOf]; omega
  ·have hqn : q = n := by omega
   subst hqn
   have hlti : ¬ (q : Int) < (q : Int) := by omega
   go_wp2_with fail
   go_ret
   refine ⟨_, rfl, ?_, HB1.out.trans (HBL.out.mono HB1.out.size)⟩
   have h := HO.out
   rw [HN.out, <- zAt, List.take_length] at h
   exact zAo h HB1.out.size
theorem zCd (v1 v2 : Value) (x y : By) (c : Int) (w : World) (h : cmpB x y = c) (h1 : Rd w v1 (x.map u8v)) (h2 : Rd w v2 (y.map u8v)) (hx : Fit x) (hy : Fit y) : Calls Tryz.prog 152 #[v1, v2] w fun e w' => e = .returned (.int .i64 c) ∧ w' = w := by
 refine (zGy v1 v2 x y w h1 h2 hx.1 hy.1).mono ?_
 rintro e w' ⟨rfl, rfl⟩
 exact ⟨by rw [h], rfl⟩
theorem zHp {a b : By} (h : a ≠ b) : cmpB a b ≠ 0 := fun e => h ((zS8.eq a b).1 e)
theorem zFc (a : By) : cmpB a a = 0 := (zS8.eq a a).2 rfl
def Lead (l : List By) (n : Nat) : Prop := 0 < n ∧ n <= l.length ∧ (∀ j, j < n -> l[j]? = l[0]?) ∧ (l[n]? ≠ l[0]?)
theorem zH9 {l : List By} {m n : Nat} (hm : Lead l m) (hn : Lead l n) : m = n := by
 obtain ⟨h1, h2, h3, h4⟩ := hm
 obtain ⟨g1, g2, g3, g4⟩ := hn
 rcases Nat.lt_trichotomy m n with h | h | h
 ·exact absurd (g3 m h) h4
 ·exact h
 ·exact absurd (h3 n h) g4
theorem zG5 {l : List By} {n : Nat} (h : Lead l n) : ∃ a, l[0]? = some a ∧ runsT l = numC n ++ putT a ++ runsT (l.drop n) := by
 obtain ⟨m, a, h1, h2, h3, h4, h5, h6, h7, h8⟩ := zB9 l (by have := h.1; have := h.2.1; omega)
 have : Lead l m := ⟨h1, h2, fun j hj => by rw [h5 j hj, h4], by rw [h4]; exact h6⟩
 obtain rfl := zH9 this h
 exact ⟨a, h4, h7⟩
theorem zIa (ps : Row) (lv : Value) (w : World) (hI : ∀ x ∈ xs ps, Fit x) (hp : 0 < ps.length) (hl : ps.length <= 100000) (hr : Rd w lv (vs ps)) (he : Els w ps) :
  Calls Tryz.prog 170 #[.agg #[.func (.func 168) #[] #[], .func (.func 169) #[] #[], .func (.func 152) #[] #[], .func (.func 77) #[] #[]], lv] w fun e w' => ∃ n, e = .returned (.int .i64 ((n : Nat) : Int)) ∧ Lead (xs ps) n ∧ Below w.heap.size w w' := by
 obtain ⟨ao, cap, rfl⟩ := zAh hr
 obtain ⟨n, hn⟩ : ∃ n, n = ps.length := ⟨_, rfl⟩
 rw [zA1, <- hn] at hr ⊢
 rw [<- hn] at hl hp
 have HR := hid hr
 have HE := hid he
 have HN := hid (show n = (xs ps).length by rw [zAt]; exact hn)
 have HNP := hid hn
 have HI := hid hI
 clear hr hn he hI
 go_enter Tryz.func170, Tryz.ntmps170
 go_upto_region 1 with (fail)
 obtain ⟨W1, hW1⟩ : ∃ W1 : World, W1 = w.alloc (.cells #[.func (.func 168) #[] #[], .func (.func 169) #[] #[], .func (.func 152) #[] #[], .func (.func 77) #[] #[]] 192) := ⟨_, rfl⟩
 obtain ⟨X, hX⟩ : ∃ X, X = w.heap.size := ⟨_, rfl⟩
 have hxb : W1.heap[X]? = some (.cells #[.func (.func 168) #[] #[], .func (.func 169) #[] #[], .func (.func 152) #[] #[], .func (.func 77) #[] #[]] 192 (0, 0)) := by rw [hW1, hX]; exact Jk w _
 have HB1 := hid (show Below w.heap.size w W1 by rw [hW1]; exact zAd w _)
 rw [<- hW1, <- hX]
 have HXX := hid (show X = w.heap.size ∧ X < W1.heap.size from ⟨hX, (Qf.1 hxb).1⟩)
 have HX := hid fun (w' : World) (h : Below W1.heap.size W1 w') => zAv ((h.block X HXX.out.2).trans hxb)
 clear hW1 hX hxb
 have HR1 := hid (HR.out.kept HB1.out)
 have HE1 := hid (HE.out.kept HB1.out)
 go_wp2_with fail
 go_loopw [5] (fun i wr => ∃ q : Nat, 1 <= q ∧ q <= n ∧ i = .int .i64 (q : Int) ∧ (∀ j, j < q -> (xs ps)[j]? = (xs ps)[0]?) ∧ Below W1.heap.size W1 wr) (fun i _ => n - (intOf i).toNat)
 case atStart => exact ⟨1, Qe _, hp, rfl, (fun j hj => by rw [show j = 0 by omega]), Qb _ _⟩
 case round =>
  obtain ⟨q, hq1, hq, rfl, hall, hbel⟩ := hrel
  have HALL := hid hall
  have HBL := hid hbel
  clear hall hbel
  obtain ⟨b, off, rfl, hcell⟩ := (zBo (HR1.out.kept HBL.out)).2 hp
  obtain ⟨va, vc, a, hat0, hel0⟩ := zBp HE1.out (q := 0) (by rw [<- HNP.out]; exact hp)
  have hx0 : wr.cell? ⟨b, off + 0, none⟩ = some (.slice va (Qa a) vc) := hcell 0 _ hat0
  rw [Qs] at hx0
  have hn0 : (0 : Int) < (n : Int) := by omega
  have hq0 : (0 : Int) <= (q : Int) := by omega
  have cf := (HX.out wr HBL.out).2.2.1
  have HEL0 := hid (hel0.kept HBL.out)
  have HA0 := hid (zA8 hat0)
  have HF0 := hid (HI.out a (Qd (zA8 hat0)))
  clear hat0 hel0
  by_cases hlt : q < n
  ·have hlti : (q : Int) < (n : Int) := by omega
   have hltb : decide ((q : Int) < (n : Int)) = true := decide_eq_true hlti
   obtain ⟨ua, uc, z, hat1, hel1⟩ := zBp HE1.out (q := q) (by rw [<- HNP.out]; exact hlt)
   have hx : wr.cell? ⟨b, off + q, none⟩ = some (.slice ua (Qa z) uc) := hcell q _ hat1
   have HEL1 := hid (hel1.kept HBL.out)
   have HZ0 := hid (zA8 hat1)
   have HF1 := hid (HI.out z (Qd (zA8 hat1)))
   clear hat1 hcell hel1
   by_cases haz : a = z
   ·have HAZ := hid haz
    have HC := hid fun w' (h : Below wr.heap.size wr w') => zCd _ _ a z 0 w' (by rw [HAZ.out]; exact zFc z) (HEL0.out.kept h) (HEL1.out.kept h) HF0.out HF1.out
    clear haz
    go_upto_region 2 with (fail)
    go_quiet ((go_at_call 152; exact Calls.quiet_of_same (HC.out _ (by first | exact Qb _ _ | exact zAj (Qb _ _) _ | exact zAn (Qb _ _)))))
    go_wp2_with fail
    go_roundw
    case rel => exact ⟨q + 1, by omega, by omega, by go_num, fun j hj => by
     rcases Qu j q with h | h
     ·exact HALL.out j h
     ·rw [show j = q by omega, HZ0.out, HA0.out, HAZ.out], zAj HBL.out _⟩
    case measure => simp [intOf]; omega
   ·obtain ⟨c, hc⟩ : ∃ c, c = cmpB a z := ⟨_, rfl⟩
    have hcn : c ≠ 0 := by rw [hc]; exact zHp haz
    have hcb : (c == 0) = false := by rw [beq_eq_false_iff_ne]; exact hcn
    have HAZ := hid haz
    have HCC := hid hc
    have HC := hid fun w' (h : Below wr.heap.size wr w') => zCd _ _ a z c w' HCC.out.symm (HEL0.out.kept h) (HEL1.out.kept h) HF0.out HF1.out
    clear hc haz
    go_upto_region 2 with (fail)
    go_quiet ((go_at_call 152; exact Calls.quiet_of_same (HC.out _ (by first | exact Qb _ _ | exact zAj (Qb _ _) _ | exact zAn (Qb _ _)))))
    go_wp2_with fail
    go_ret
    exact ⟨q, rfl, ⟨by omega, by rw [<- HN.out]; omega, HALL.out, by rw [HZ0.out, HA0.out]; intro h; exact HAZ.out (Option.some.inj h).symm⟩, HB1.out.trans ((zAj HBL.out _).mono HB1.out.size)⟩
  ·have hqn : q = n := by omega
   subst hqn
   have hltb : decide ((q : Int) < (q : Int)) = false := by simp
   have hlti : ¬ (q : Int) < (q : Int) := by omega
   go_upto_region 2 with (fail)
   go_quiet (fail)
   go_wp2_with fail
   go_ret
   exact ⟨q, rfl, ⟨by omega, by rw [<- HN.out]; omega, HALL.out, by rw [HA0.out, List.getElem?_eq_none (by rw [<- HN.out]; omega)]; intro h; cases h⟩, HB1.out.trans ((zAj HBL.out _).mono HB1.out.size)⟩
theorem zG6 (ps : Row) (lv : Value) (w : World) (hI : ∀ x ∈ xs ps, Fit x) (hl : ps.length <= 100000) (hr : Rd w lv (vs ps)) (he : Els w ps) :
  Calls Tryz.prog 133 #[.agg #[.func (.func 168) #[] #[], .func (.func 169) #[] #[], .func (.func 152) #[] #[], .func (.func 77) #[] #[]], lv] w fun e w' => ∃ v, e = .returned v ∧ OwnB w.heap.size w' v (runsT (xs ps)) ∧ Below w.heap.size w w' := by
 obtain ⟨ao0, cap0, rfl⟩ := zAh hr
 have HR := hid hr
 have HI := hid hI
 have HLL := hid hl
 have HE := hid he
 rw [zA1] at HR ⊢
 clear hr hI he
 go_enter Tryz.func133, Tryz.ntmps133
 go_upto_region 1 with (fail)
 obtain ⟨W1, hW1⟩ : ∃ W1 : World, W1 = w.alloc (.cells #[.func (.func 168) #[] #[], .func (.func 169) #[] #[], .func (.func 152) #[] #[], .func (.func 77) #[] #[]] 192) := ⟨_, rfl⟩
 obtain ⟨X, hX⟩ : ∃ X, X = w.heap.size := ⟨_, rfl⟩
 have hxb : W1.heap[X]? = some (.cells #[.func (.func 168) #[] #[], .func (.func 169) #[] #[], .func (.func 152) #[] #[], .func (.func 77) #[] #[]] 192 (0, 0)) := by rw [hW1, hX]; exact Jk w _
 have HB1 := hid (show Below w.heap.size w W1 by rw [hW1]; exact zAd w _)
 rw [<- hW1, <- hX]
 have HXX := hid (show X = w.heap.size ∧ X < W1.heap.size from ⟨hX, (Qf.1 hxb).1⟩)
 have HX := hid fun (w' : World) (h : Below W1.heap.size W1 w') => zAv ((h.block X HXX.out.2).trans hxb)
 clear hW1 hX hxb
 have HR1 := hid (HR.out.kept HB1.out)
 have HE1 := hid (HE.out.kept HB1.out)
 go_wp2_with fail
 go_loopw [1, 5] (fun lv b wr => ∃ p : Nat, ∃ bs : List Nat, p <= ps.length ∧ Rd W1 lv (vs (ps.drop p)) ∧ OwnB W1.heap.size wr b bs ∧ bs.length <= 84 * p ∧ bs ++ runsT ((xs ps).drop p) = runsT (xs ps) ∧ Below W1.heap.size W1 wr) (fun lv _ _ => lenV lv)
 case atStart => exact ⟨0, [], Qh _, HR1.out, zA6 _ _, by simp, by simp, Qb _ _⟩
 case round =>
  obtain ⟨p, bs, hp, hrd, hown, hbl, hbs, hbel⟩ := hrel
  obtain ⟨m, hm⟩ : ∃ m, m = ps.drop p := ⟨_, rfl⟩
  rw [<- zHo, <- hm] at hbs
  rw [<- hm] at hrd
  obtain ⟨ao, cap, rfl⟩ := zAh hrd
  obtain ⟨k, hk⟩ : ∃ k, k = m.length := ⟨_, rfl⟩
  rw [zA1, <- hk] at hrd ⊢
  have hkp : k + p = ps.length := by rw [hk, hm, Qy]; omega
  have HRD := hid hrd
  have HO := hid hown
  have HBS := hid hbs
  have HBL := hid hbel
  have HM := hid hm
  have HK := hid hk
  have HKP := hid hkp
  have HBLN := hid hbl
  have HPL := hid hp
  have hk5 : k <= 100000 := by have := HLL.out; omega
  clear hrd hown hbs hbel hm hk hkp hl hbl hp
  by_cases h0 : k = 0
  ·subst h0
   have hg : decide ((0 : Int) > 0) = false := by decide
   go_wp2_with fail
   go_ret
   refine ⟨_, rfl, ?_, HB1.out.trans (HBL.out.mono HB1.out.size)⟩
   have h := HBS.out
   have : m = [] := Qv.1 HK.out.symm
   rw [this] at h
   simp [runsT, grp, xs] at h
   rw [show runsT (xs ps) = bs by rw [h]; rfl]
   exact zAo HO.out HB1.out.size
  ·have hkpos : 0 < k := by omega
   have hki : (0 : Int) < (k : Int) := by omega
   have hg : decide ((k : Int) > 0) = true := by rw [decide_eq_true_iff]; exact hki
   obtain ⟨cf0, cf1, cf2, cf3⟩ := HX.out wr HBL.out
   have HRU := hid (zIa m (.slice ao k cap) wr (fun x hx => HI.out x (by rw [HM.out, zHo] at hx; exact Qt hx)) (by rw [<- HK.out]; exact hkpos) (by rw [<- HK.out]; exact hk5) (HRD.out.kept HBL.out) ((HM.out ▸ HE1.out.drop p : Els W1 m).kept HBL.out))
   go_wp2_with fail
   refine HRU.out.mono ?_
   rintro e w2 ⟨q, rfl, hlead, hb2⟩
   obtain ⟨a, ha0, hra⟩ := zG5 hlead
   have hq1 := hlead.1
   have hqk : q <= k := by rw [HK.out, <- zAt]; exact hlead.2.1
   have hwq : IntKind.u64.wrap (q : Int) = (q : Int) := Ja _ (by omega)
   have HRA := hid hra
   have HA0 := hid ha0
   have HB2 := hid (show Below W1.heap.size W1 w2 from HBL.out.trans (hb2.mono HBL.out.size))
   have HO2 := hid (zBm HO.out hb2)
   have HNU := hid fun w' => zEj (.slice none 0 0) [] q w' (Rd.nil w') (by decide) (by omega)
   clear hlead ha0 hra hb2 cf0 cf1 cf2 cf3 HRU HO
   go_wp2_with fail
   refine (HNU.out w2).mono ?_
   rintro e w3 ⟨ao3, cap3, rfl, hown3, hb3⟩
   have hnl := (zA5 9 q).1
   have hnlen : (numC q).length <= 10 := hnl
   have HR3 := hid (zAs (show Rd w3 (.slice ao3 (numC q).length cap3) ((numC q).map u8v) from by have := Rd.of_owns hown3; rw [Qc] at this; simpa using this))
   have hlen3 : ((([] : List Nat) ++ numC q).map u8v).length = (numC q).length := by simp
   rw [hlen3]
   obtain ⟨ab, cb, rfl⟩ := HO2.out.shape
   have HO3 := hid (zBm HO2.out hb3)
   have HB3 := hid (show Below W1.heap.size W1 w3 from HB2.out.trans (hb3.mono HB2.out.size))
   have HON := hid (zAr (zAq (numC q)))
   have hbl2 : bs.length <= 8400000 := by have := HBLN.out; have := HKP.out; have := HLL.out; omega
   clear hown3 hb3 hlen3 hnl HO2
   go_wp2_with (at_builtin; go_must (refine zAf zBf rfl _ _ rfl W1.heap.size _ _ _ rfl HO3.out _ (((numC q).map u8v).map fun u => [u]) rfl HR3.out HON.out (by simp; omega) HB3.out.size (bs.length + (numC q).length) (by simp) ?_); intro ao4 cap4 w4 hown4 hgrow4 hnew4; have HO4 := hid hown4; have HG4 := hid hgrow4; clear hown4 hgrow4 hnew4)
   have HOB4 := hid (show OwnB W1.heap.size w4 (.slice ao4 (bs.length + (numC q).length) cap4) (bs ++ numC q) from OwnB.of (by have h := HO4.out; rw [zAp, <- Qx] at h; exact h))
   have HB4 := hid (zAk HB3.out HB3.out.size (show w3.grownBy w4 (Value.slice ab bs.length cb).ownBlock from HG4.out) (zBd HO3.out))
   obtain ⟨B, off, rfl, hcell⟩ := (zBo (HRD.out.kept HB4.out)).2 hkpos
   obtain ⟨va, vc, a0, hat0, hel0⟩ := zBp (show Els W1 m from HM.out ▸ HE1.out.drop p) (q := 0) (by rw [<- HK.out]; exact hkpos)
   have hx0 : w4.cell? ⟨B, off + 0, none⟩ = some (.slice va (Qa a0) vc) := hcell 0 _ hat0
   rw [Qs] at hx0
   obtain rfl : a0 = a := by have h := zA8 hat0; rw [HA0.out] at h; exact (Option.some.inj h).symm
   have hIa : Fit a0 := HI.out a0 (by have h := Qd HA0.out; rw [HM.out, zHo] at h; exact Qt h)
   have HEL := hid hel0
   clear hat0 hel0
   have cf0 := (HX.out w4 HB4.out).1
   have hbn : (bs ++ numC q).length <= 9000000 := by rw [Qj]; omega
   have HP := hid fun w' (h : Below w4.heap.size w4 w') => zLo W1.heap.size _ (.slice va a0.length vc) (bs ++ numC q) a0 w' (HEL.out.kept (HB4.out.trans (h.mono HB4.out.size))) (by have := hIa.2; omega) (zBm HOB4.out h) (Qq HB4.out.size h.size) hbn
   have hpl := (zBy a0 hIa).1
   clear hcell HO4 HG4 HO3 HR3 HON HNU
   go_upto_region 5 with (fail)
   go_region_law
    (first
     | (go_simp; go_at_call 168; refine (HP.out _ ?_).mono ?_; (exact zAm _ _); rintro e w5 ⟨v5, rfl, hown5, hg5, hn5⟩)
     | fail)
   all_goals
    have HO5 := hid (show OwnB W1.heap.size w5 v5 (bs ++ numC q ++ putT a0) from hown5)
    have HB5 := hid (zAk (zAn HB4.out) HB4.out.size hg5 (zBd HOB4.out))
    have hlen5 : (bs ++ numC q ++ putT a0).length <= 84 * (p + q) := by have := HBLN.out; simp only [Qj]; omega
    have hbs5 : bs ++ numC q ++ putT a0 ++ runsT ((xs ps).drop (p + q)) = runsT (xs ps) := by
     rw [<- HBS.out, HRA.out, HM.out, zHo, Jb]
     simp only [Jc]
    have HL5 := hid hlen5
    have HS5 := hid hbs5
    have hq0 : (0 : Int) <= (q : Int) := by omega
    have hqki : (q : Int) <= (k : Int) := by omega
    have HMD := hid (show m.drop q = ps.drop (p + q) by rw [HM.out, Jb])
    clear hown5 hg5 hn5 hlen5 hbs5 hx0 cf0 HP
    by_cases hck : cap = q
    ·have hkq : k = q := by have := zBr HRD.out; omega
     have HRE := hid (show Rd W1 (.slice (some ⟨B, off, none⟩) 0 0) (vs (ps.drop (p + q))) from by
      have h0 : ps.drop (p + q) = [] := List.drop_eq_nil_of_le (by have := HKP.out; omega)
      rw [h0]
      exact zBx W1 _ 0)
     subst hck
     have hkc : k <= cap := by omega
     go_wp2_with fail
     go_roundw
     case rel => exact ⟨p + cap, _, by have := HKP.out; omega, HRE.out, HO5.out, HL5.out, HS5.out, HB5.out⟩
     case measure => simp [lenV]; omega
    ·have hck2 : (cap == q) = false := by rw [beq_eq_false_iff_ne]; exact hck
     have HRE := hid (show Rd W1 (.slice (some ⟨B, off + q, none⟩) (k - q) (cap - q)) (vs (ps.drop (p + q))) from by
      have h := zCe HRD.out hqk
      rw [<- zSe, HMD.out] at h
      exact h)
     go_wp2_with fail
     go_roundw
     case rel => exact ⟨p + q, _, by have := HKP.out; omega, HRE.out, HO5.out, HL5.out, HS5.out, HB5.out⟩
     case measure => simp [lenV]; omega
def Apart (l : List Value) : Prop := ∀ (i j : Nat) (a b : Value) (g : Nat), l[i]? = some a -> l[j]? = some b -> a.ownBlock = some g -> b.ownBlock = some g -> i = j
theorem Apart.snoc {l : List Value} {u : Value} (h : Apart l) (hu : ∀ g, u.ownBlock = some g -> ∀ a ∈ l, a.ownBlock ≠ some g) : Apart (l ++ [u]) := by
 intro i j a b g hi hj ha hb
 rcases Qu i l.length with h1 | h1 <;> rcases Qu j l.length with h2 | h2
 ·rw [Ql h1] at hi
  rw [Ql h2] at hj
  exact h i j a b g hi hj ha hb
 ·rw [Ql h1] at hi
  rw [Qm h2] at hj
  have e := Qi.1 (Qd hj)
  subst e
  exact absurd ha (hu g hb a (Qd hi))
 ·rw [Qm h1] at hi
  rw [Ql h2] at hj
  have e := Qi.1 (Qd hi)
  subst e
  exact absurd hb (hu g ha b (Qd hj))
 ·rw [Qm h1] at hi
  rw [Qm h2] at hj
  have l1 := (Qg.1 hi).1
  have l2 := (Qg.1 hj).1
  rw [List.length_singleton] at l1 l2
  omega
theorem Apart.set {l : List Value} {k : Nat} {u : Value} (h : Apart l) (hu : ∀ g, u.ownBlock = some g -> ∀ i a, i ≠ k -> l[i]? = some a -> a.ownBlock ≠ some g) : Apart (l.set k u) := by
 intro i j a b g hi hj ha hb
 rw [List.getElem?_set] at hi hj
 by_cases h1 : k = i <;> by_cases h2 : k = j
 ·omega
 ·rw [if_pos h1] at hi
  rw [if_neg h2] at hj
  split at hi
  ·cases hi
   exact absurd hb (hu g ha j b (fun e => h2 e.symm) hj)
  ·cases hi
 ·rw [if_neg h1] at hi
  rw [if_pos h2] at hj
  split at hj
  ·cases hj
   exact absurd ha (hu g hb i a (fun e => h1 e.symm) hi)
  ·cases hj
 ·rw [if_neg h1] at hi
  rw [if_neg h2] at hj
  exact h i j a b g hi hj ha hb
structure OwnE (base : Nat) (w : World) (v : Value) (ps : Row) : Prop where
 row : OwnR base w v ps
 els : ∀ p ∈ ps, OwnB base w p.1 p.2
 apart : Apart (v :: vs ps)
theorem zDj {base : Nat} {w : World} {T : TypeId} {sz n g : Nat} {v : Value} {l : List Value} (h : w.ownsRow base T sz v n l) (hg : v.ownBlock = some g) : g < w.heap.size := by
 rcases h.2 with ⟨rfl, _⟩ | ⟨g', cap, cur, rfl, _, hh, _⟩
 ·cases hg
 ·cases hg
  exact (Qf.1 hh).1
theorem OwnE.blocks {base : Nat} {w : World} {v : Value} {ps : Row} (h : OwnE base w v ps) : ∀ u ∈ v :: vs ps, ∀ g, u.ownBlock = some g -> base <= g ∧ g < w.heap.size := by
 intro u hu g hg
 rcases Jd.1 hu with rfl | hu
 ·exact ⟨zBw h.row g hg, zDj h.row hg⟩
 ·obtain ⟨p, hp, rfl⟩ := Qo.1 hu
  exact ⟨zBd (h.els p hp) g hg, zDj (h.els p hp) hg⟩
theorem OwnE.Els {base : Nat} {w : World} {v : Value} {ps : Row} (h : OwnE base w v ps) : Els w ps := fun p hp => (h.els p hp).rd
theorem OwnE.kept {base : Nat} {w w' : World} {v : Value} {ps : Row} {row : Option Nat} (h : OwnE base w v ps) (hg : w.grownBy w' row) (hne : ∀ u ∈ v :: vs ps, u.ownBlock = none ∨ u.ownBlock ≠ row) : OwnE base w' v ps :=
 ⟨World.ownsRow.kept h.row hg (hne v Qn), fun p hp => World.ownsRow.kept (h.els p hp) hg (hne p.1 (Je _ (Qo.2 ⟨p, hp, rfl⟩))), h.apart⟩
theorem OwnE.keptR {base r : Nat} {w w' : World} {v : Value} {ps : Row} (h : OwnE base w v ps) (hg : w.grownBy w' (some r)) (hr : r < base) : OwnE base w' v ps :=
 h.kept hg fun u hu => .inr fun e => by have := (h.blocks u hu r e).1; omega
theorem OwnE.keptB {base : Nat} {w w' : World} {v : Value} {ps : Row} (h : OwnE base w v ps) (hb : Below w.heap.size w w') : OwnE base w' v ps :=
 h.kept (zAb hb none) fun u _ => by cases h : u.ownBlock with | none => exact .inl rfl | some g => exact .inr (by simp)
theorem OwnE.mono {base base' : Nat} {w : World} {v : Value} {ps : Row} (h : OwnE base w v ps) (hb : base' <= base) : OwnE base' w v ps :=
 ⟨zAo h.row hb, fun p hp => zAo (h.els p hp) hb, h.apart⟩
theorem zHg {base : Nat} {w : World} {v : Value} (h : OwnR base w v []) : OwnE base w v [] := ⟨h, fun p hp => by simp at hp, fun i j a b g hi hj ha hb => by
 have l1 := (Qg.1 hi).1
 have l2 := (Qg.1 hj).1
 simp [vs] at l1 l2
 omega⟩
theorem zEn (ps : Row) (u : Value) (x : By) : vs (ps ++ [(u, x)]) = vs ps ++ [u] := by simp [vs]
theorem zDv (ps : Row) (u : Value) (x : By) : xs (ps ++ [(u, x)]) = xs ps ++ [x] := by simp [xs]
theorem OwnE.snoc {base B : Nat} {w w' : World} {v v' u : Value} {ps : Row} {x : By} (h : OwnE base w v ps) (hu : OwnB B w u x) (hB : base <= B) (hf : ∀ a ∈ v :: vs ps, ∀ g, a.ownBlock = some g -> g < B)
  (h9 : w'.ownsRow base 29 1 v' (ps.length + 1) (vs ps ++ [u])) (hg : w.grownBy w' v.ownBlock) (hn : ∀ g, v'.ownBlock = some g -> v.ownBlock = some g ∨ w.heap.size <= g) : OwnE base w' v' (ps ++ [(u, x)]) := by
 have hap := h.apart
 have hnv : ∀ p ∈ ps, p.1.ownBlock = none ∨ p.1.ownBlock ≠ v.ownBlock := fun p hp => by
  obtain ⟨i, hi⟩ := List.getElem?_of_mem hp
  cases e : p.1.ownBlock with
  | none => exact .inl rfl
  | some g =>
   right
   intro e2
   have := hap 0 (i + 1) v p.1 g rfl (by rw [List.getElem?_cons_succ]; unfold vs; rw [Qp, hi]; rfl) e2.symm e
   omega
 refine ⟨OwnR.of (n := ps.length + 1) (by rw [zEn]; exact h9), fun p hp => ?_, ?_⟩
 ·rcases Jf.1 hp with hp | hp
  ·exact World.ownsRow.kept (h.els p hp) hg (hnv p hp)
  ·obtain rfl := Qi.1 hp
   refine World.ownsRow.kept (zAo hu hB) hg ?_
   cases e : u.ownBlock with
   | none => exact .inl rfl
   | some g =>
    right
    intro e2
    have h1 := hf v Qn g e2.symm
    have h2 := zBd hu g e
    omega
 ·rw [zEn, <- List.cons_append]
  have h1 : Apart (v' :: vs ps) := by
   have := h.apart.set (k := 0) (u := v') (fun g hg2 i a hi ha e => by
    rcases hn g hg2 with h3 | h3
    ·have := hap i 0 a v g ha rfl e h3
     omega
    ·have := (h.blocks a (Qd ha) g e).2
     omega)
   exact this
  refine h1.snoc fun g hg2 a ha e => ?_
  have hbg := zBd hu g hg2
  have hlt := zDj hu hg2
  rcases Jd.1 ha with rfl | ha
  ·rcases hn g e with h3 | h3
   ·have := hf v Qn g h3
    omega
   ·omega
  ·have := hf a (Je _ ha) g e
   omega
def RetOpt (base : Nat) (o : Option (List By)) (e : Ending) (w' : World) : Prop := match o with
 | some l => ∃ v ps, e = .returned (.tuple #[v, .bool true]) ∧ OwnE base w' v ps ∧ xs ps = l
 | none => e = .returned (.tuple #[.slice none 0 0, .bool false])
theorem zC2 {left : List Nat} {bad : Bool} (h : ∀ x ∈ left, x < 256) : ∀ k, (∀ x ∈ (rdPlain k left bad).2.1, x < 256) ∧ (rdPlain k left bad).2.1.length <= left.length
 | 0 => ⟨h, Qe _⟩
 | k + 1 => by
  obtain ⟨h1, h2⟩ := zC2 h k
  rw [rdPlain]
  exact ⟨zB4 h1, Qq (zB5 _ _) h2⟩
theorem zD5 (base r : Nat) (left : List Nat) (bad : Bool) (ps : Row) (v : Value) (w : World) (h : IsR w r left bad) (hbig : left.length <= 1000000) (hown : OwnE base w v ps) :
  Calls Tryz.prog 184 #[.pointer (some ⟨r, 0, none⟩), v] w fun e w' => RetOpt base (wholeT (xs ps) left bad) e w' ∧ Below w.heap.size w w' := by
 have HOK := hid (zDh r left bad w h)
 have HRE := hid (zCj r left bad w h (by omega))
 have HO := hid hown
 clear h hown
 go_enter Tryz.func184, Tryz.ntmps184
 go_wp2_with fail
 refine HOK.out.mono ?_
 rintro e w2 ⟨rfl, rfl⟩
 cases bad
 ·go_wp2_with fail
  refine HRE.out.mono ?_
  rintro e w3 ⟨ao, cap, rfl, hown3, hb3⟩
  have HB3 := hid hb3
  have HO3 := hid (HO.out.keptB hb3)
  rw [Qc]
  clear hown3 hb3
  by_cases h0 : left.length = 0
  ·have hg : decide ((left.length : Int) > 0) = false := by rw [decide_eq_false_iff_not]; omega
   have hl0 : left = [] := Qv.1 h0
   subst hl0
   go_wp2_with fail
   go_ret2
   exact ⟨⟨_, ps, rfl, HO3.out, rfl⟩, HB3.out⟩
  ·have hg : decide ((left.length : Int) > 0) = true := by rw [decide_eq_true_iff]; omega
   have hg2 : (0 : Int) < (left.length : Int) := by omega
   have hno : wholeT (xs ps) left false = none := by
    unfold wholeT
    rw [if_neg]
    rintro ⟨_, h⟩
    exact h0 (by rw [h]; rfl)
   have HNO := hid hno
   clear hno
   go_wp2_with fail
   go_ret2
   rw [HNO.out]
   exact ⟨rfl, HB3.out⟩
 ·go_wp2_with fail
  go_ret2
  exact ⟨rfl, Qb _ _⟩
theorem zEz (u : Value) (h : u.oneCell' = true) : Ones 1 [[u]] := fun t ht => by rw [Qi.1 ht]; exact ⟨rfl, fun a ha => by rw [Qi.1 ha]; exact h⟩
theorem zC4 : ∃ ei, Tryz.prog.info? 29 = some ei ∧ ei.zero = some (.slice none 0 0) ∧ ei.size = 1 ∧ ei.bytes = 24 := by
 have h := zM6
 cases hq : Tryz.prog.info? 29 with
 | none => rw [hq] at h; cases h
 | some i =>
  rw [hq] at h
  simp only [Option.map_some, Option.some.injEq, Prod.mk.injEq] at h
  exact ⟨i, rfl, h.1, h.2.1, h.2.2⟩
theorem zGe (r : Nat) (left : List Nat) (bad : Bool) (c : Nat) (w : World) (h : IsR w r left bad) (h256 : ∀ x ∈ left, x < 256) (hbig : left.length <= 1000000) (hc : c <= 65535) :
  Calls Tryz.prog 140 #[.agg #[.func (.func 168) #[] #[], .func (.func 169) #[] #[], .func (.func 152) #[] #[], .func (.func 77) #[] #[]], .pointer (some ⟨r, 0, none⟩), .int .i64 (c : Int)] w fun e w' => RetOpt w.heap.size (wholeT (rdPlain c left bad).1 (rdPlain c left bad).2.1 (rdPlain c left bad).2.2) e w' ∧ w.grownBy w' (some r) := by
 have hrl := h.lt
 have H := hid h
 have HM := hid (fun k => zC2 (bad := bad) h256 k)
 have HL := hid (zCx left bad)
 clear h h256
 go_enter Tryz.func140, Tryz.ntmps140
 go_upto_region 1 with (fail)
 obtain ⟨W1, hW1⟩ : ∃ W1 : World, W1 = w.alloc (.cells #[.func (.func 168) #[] #[], .func (.func 169) #[] #[], .func (.func 152) #[] #[], .func (.func 77) #[] #[]] 192) := ⟨_, rfl⟩
 obtain ⟨X, hX⟩ : ∃ X, X = w.heap.size := ⟨_, rfl⟩
 have hxb : W1.heap[X]? = some (.cells #[.func (.func 168) #[] #[], .func (.func 169) #[] #[], .func (.func 152) #[] #[], .func (.func 77) #[] #[]] 192 (0, 0)) := by rw [hW1, hX]; exact Jk w _
 have HB1 := hid (show Below w.heap.size w W1 by rw [hW1]; exact zAd w _)
 rw [<- hW1, <- hX]
 have HXX := hid (show X = w.heap.size ∧ X < W1.heap.size from ⟨hX, (Qf.1 hxb).1⟩)
 have HX := hid fun (w' : World) (h : Below W1.heap.size W1 w') => zAv ((h.block X HXX.out.2).trans hxb)
 clear hW1 hX hxb
 have HRB := hid (IsRB.mono (zEl (H.out.kept HB1.out)) (Qe _))
 have HX2 := hid (show ∀ wr : World, W1.grownBy wr (some r) -> wr.cell? ⟨X, 1, none⟩ = some (.func (.func 169) #[] #[]) from fun wr hg => hg.cell (HX.out W1 (Qb _ _)).2.1 (by rw [HXX.out.1]; simp; omega))
 have hrW : r < W1.heap.size := Jg hrl HB1.out.size
 have hc0 : (0 : Int) <= (c : Int) := by omega
 obtain ⟨ei, he1, he2, he3, he4⟩ := zC4
 obtain ⟨W2, hmk, hown2, hg2⟩ := run_make_own (P := Tryz.prog) W1 W1.heap.size 41 29 ei (.slice none 0 0) 1 Tryz.underlying41 he1 he2 he3 .i64 .i64 c (by rw [he4]; omega) (by unfold maxLen; omega) (Qe _)
 obtain ⟨mv, hmv⟩ : ∃ mv, mv = Value.slice (some ⟨W1.heap.size, 0, none⟩) 0 c := ⟨_, rfl⟩
 rw [<- hmv] at hmk hown2
 have HO2 := hid (zHg (show OwnR W1.heap.size W2 mv [] from hown2))
 have HG2 := hid (show W1.grownBy W2 (some r) from zB1 hg2)
 have HRB2 := hid (HRB.out.own hg2 (fun k e => by cases e) hrW)
 clear hown2 hg2 he1 he2 he3 he4 hmv
 go_upto_region 2 with (fail)
 clear hmk
 go_wp2_with fail
 go_loopw [8, 12] (fun v i wr => ∃ q : Nat, ∃ ps : Row, q <= c ∧ i = .int .i64 (q : Int) ∧ xs ps = (rdPlain q left bad).1 ∧ OwnE W1.heap.size wr v ps ∧ IsRB W1.heap.size wr r (rdPlain q left bad).2.1 (rdPlain q left bad).2.2 ∧ W1.grownBy wr (some r)) (fun _ i _ => c - (intOf i).toNat)
 case atStart => exact ⟨0, [], Qh _, rfl, rfl, HO2.out, HRB2.out, HG2.out⟩
 case round =>
  obtain ⟨q, ps, hq, rfl, hxs, hown, hrb, hgr⟩ := hrel
  have hlen : ps.length = q := by rw [<- zAt, hxs]; exact HL.out q
  obtain ⟨ao, cap, rfl⟩ := hown.row.shape
  rw [hlen] at hown ⊢
  have HLEN := hid hlen
  have HXS := hid hxs
  have HO := hid hown
  have HRBQ := hid hrb
  have HG := hid hgr
  have hszr : W1.heap.size <= wr.heap.size := hgr.size
  clear hown hrb hgr hxs hlen
  by_cases hlt : q < c
  ·have hlti : (q : Int) < (c : Int) := by omega
   have hq0 : (0 : Int) <= (q : Int) := by omega
   have cf := HX2.out wr HG.out
   obtain ⟨hm1, hm2⟩ := HM.out q
   have HT := hid (zHf W1.heap.size r _ _ wr HRBQ.out hm1 (by omega))
   clear hm1 hm2
   go_wp2_with fail
   refine HT.out.mono ?_
   rintro e w3 ⟨uv, rfl, hu3, hrb3, hg3⟩
   obtain ⟨x, hx⟩ : ∃ x, x = (takeR (rdPlain q left bad).2.1 (rdPlain q left bad).2.2).1 := ⟨_, rfl⟩
   rw [<- hx] at hu3
   obtain ⟨ua, uc, rfl⟩ := hu3.shape
   have HU := hid hu3
   have HXX2 := hid hx
   have HO3 := hid (HO.out.keptR hg3 hrW)
   have HF := hid (fun a ha g hg => (HO.out.blocks a ha g hg).2)
   have HG3 := hid (show W1.grownBy w3 (some r) from zAc HG.out hg3)
   have HRB3 := hid hrb3
   have hsz3 : W1.heap.size <= w3.heap.size := HG3.out.size
   clear hrb3 hg3 hx cf HT hu3 HO
   have HOA := hid (show (w3.alloc (.cells #[.slice ua (Qa x) uc] 29)).ownsRow W1.heap.size 29 1 (.slice ao q cap) q (vs ps) from by have h := World.ownsRow.alloc HO3.out.row (.cells #[.slice ua (Qa x) uc] 29); rw [HLEN.out] at h; exact h)
   have HLT := hid (zBa w3 #[.slice ua (Qa x) uc] 29 1 rfl)
   have hszB : W1.heap.size <= (w3.alloc (.cells #[.slice ua (Qa x) uc] 29)).heap.size := zA7 hsz3 _
   have HONE := hid (zEz (.slice ua (Qa x) uc) rfl)
   go_wp2_with (at_builtin; go_must (refine zAf elmR rfl _ _ rfl W1.heap.size _ _ _ rfl HOA.out _ [[.slice ua (Qa x) uc]] rfl HLT.out HONE.out (by simp; omega) hszB (q + 1) rfl ?_); intro ao9 cap9 w9 hown9 hgrow9 hnew9; have HO9 := hid hown9; have HG9 := hid hgrow9; have HN9 := hid hnew9; clear hown9 hgrow9 hnew9)
   go_roundw
   case rel =>
    have hg9 : w3.grownBy w9 (Value.slice ao q cap).ownBlock := zAc (zBz (Jh w3 _ none)) HG9.out
    have hk9 : ∀ k, (Value.slice ao q cap).ownBlock = some k -> W1.heap.size <= k := zBw HO3.out.row
    refine ⟨q + 1, ps ++ [(.slice ua (Qa x) uc, x)], by omega, by go_num, ?_, ?_, ?_, zDe (base := 0) HG3.out hg9 hk9⟩
    ·rw [zDv, HXS.out, rdPlain, HXX2.out]
    ·refine HO3.out.snoc HU.out hszr HF.out ?_ hg9 ?_
     ·rw [HLEN.out]
      have h := HO9.out
      simpa using h
     ·intro g hg
      rcases HN9.out g hg with h | h
      ·exact .inl h
      ·right; rw [h]; simp
    ·have h := HRB3.out.own hg9 hk9 hrW
     rw [rdPlain]
     exact h
   case measure => simp [intOf]; omega
  ·have hqc : q = c := by omega
   subst hqc
   have hlti : ¬ (q : Int) < (q : Int) := by omega
   have hm2 := (HM.out q).2
   have HW := hid (zD5 W1.heap.size r _ _ ps _ wr HRBQ.out.isR (by omega) HO.out)
   clear hm2
   go_wp2_with fail
   refine HW.out.mono ?_
   rintro e w5 ⟨hret, hb5⟩
   have HG5 := hid (show w.grownBy w5 (some r) from zAc (zAc (zAb HB1.out _) HG.out) (zAb hb5 _))
   rw [HXS.out] at hret
   obtain ⟨o, ho⟩ : ∃ o, o = wholeT (rdPlain q left bad).1 (rdPlain q left bad).2.1 (rdPlain q left bad).2.2 := ⟨_, rfl⟩
   rw [<- ho] at hret
   have HOO := hid ho
   have hHW := HB1.out.size
   clear ho hb5 HW
   cases o with
   | none =>
    obtain rfl : e = .returned (.tuple #[.slice none 0 0, .bool false]) := hret
    go_wp2_with fail
    go_ret2
    rw [<- HOO.out]
    exact ⟨rfl, HG5.out⟩
   | some lz =>
    obtain ⟨v5, ps5, rfl, hown5, hxs5⟩ := hret
    have HO5 := hid hown5
    have HX5 := hid hxs5
    clear hown5 hxs5
    go_wp2_with fail
    go_ret2
    rw [<- HOO.out]
    exact ⟨⟨_, ps5, rfl, HO5.out.mono hHW, HX5.out⟩, HG5.out⟩
theorem zG8 {l : List By} {z a : By} (hl : 0 < l.length) (h : l[l.length - 1]? = some a) : lastIs l z = decide (a = z) := by
 unfold lastIs
 rw [List.getLast?_eq_getElem?, h]
 by_cases e : a = z
 ·subst e; simp
 ·simp [e]
theorem zG9 (r : Nat) (left : List Nat) (bad : Bool) (c : Nat) (w : World) (h : IsR w r left bad) (h256 : ∀ x ∈ left, x < 256) (hbig : left.length <= 1000000) (hc : c <= 65535) :
  Calls Tryz.prog 141 #[.agg #[.func (.func 168) #[] #[], .func (.func 169) #[] #[], .func (.func 152) #[] #[], .func (.func 77) #[] #[]], .pointer (some ⟨r, 0, none⟩), .int .i64 (c : Int)] w fun e w' => RetOpt w.heap.size (rdRuns c c [] left bad) e w' ∧ w.grownBy w' (some r) := by
 have hrl := h.lt
 have H := hid h
 have H256 := hid h256
 obtain ⟨O, hO⟩ : ∃ O, O = rdRuns c c [] left bad := ⟨_, rfl⟩
 rw [<- hO]
 have HOO := hid hO
 clear h h256 hO
 go_enter Tryz.func141, Tryz.ntmps141
 go_upto_region 1 with (fail)
 obtain ⟨W1, hW1⟩ : ∃ W1 : World, W1 = w.alloc (.cells #[.func (.func 168) #[] #[], .func (.func 169) #[] #[], .func (.func 152) #[] #[], .func (.func 77) #[] #[]] 192) := ⟨_, rfl⟩
 obtain ⟨X, hX⟩ : ∃ X, X = w.heap.size := ⟨_, rfl⟩
 have hxb : W1.heap[X]? = some (.cells #[.func (.func 168) #[] #[], .func (.func 169) #[] #[], .func (.func 152) #[] #[], .func (.func 77) #[] #[]] 192 (0, 0)) := by rw [hW1, hX]; exact Jk w _
 have HB1 := hid (show Below w.heap.size w W1 by rw [hW1]; exact zAd w _)
 rw [<- hW1, <- hX]
 have HXX := hid (show X = w.heap.size ∧ X < W1.heap.size from ⟨hX, (Qf.1 hxb).1⟩)
 have HX := hid fun (w' : World) (h : Below W1.heap.size W1 w') => zAv ((h.block X HXX.out.2).trans hxb)
 clear hW1 hX hxb
 have HRB := hid (IsRB.mono (zEl (H.out.kept HB1.out)) (Qe _))
 have HX2 := hid (show ∀ wr : World, W1.grownBy wr (some r) -> wr.cell? ⟨X, 1, none⟩ = some (.func (.func 169) #[] #[]) ∧ wr.cell? ⟨X, 2, none⟩ = some (.func (.func 152) #[] #[]) ∧ wr.cell? ⟨X, 3, none⟩ = some (.func (.func 77) #[] #[]) from fun wr hg => by
  have hne : ∀ i, some ((⟨X, i, none⟩ : Addr)).block ≠ some r := fun i => by rw [HXX.out.1]; simp; omega
  have h := HX.out W1 (Qb _ _)
  exact ⟨hg.cell h.2.1 (hne 1), hg.cell h.2.2.1 (hne 2), hg.cell h.2.2.2 (hne 3)⟩)
 have hrW : r < W1.heap.size := Jg hrl HB1.out.size
 have hc0 : (0 : Int) <= (c : Int) := by omega
 obtain ⟨ei, he1, he2, he3, he4⟩ := zC4
 obtain ⟨W2, hmk, hown2, hg2⟩ := run_make_own (P := Tryz.prog) W1 W1.heap.size 41 29 ei (.slice none 0 0) 1 Tryz.underlying41 he1 he2 he3 .i64 .i64 c (by rw [he4]; omega) (by unfold maxLen; omega) (Qe _)
 obtain ⟨mv, hmv⟩ : ∃ mv, mv = Value.slice (some ⟨W1.heap.size, 0, none⟩) 0 c := ⟨_, rfl⟩
 rw [<- hmv] at hmk hown2
 have HO2 := hid (zHg (show OwnR W1.heap.size W2 mv [] from hown2))
 have HG2 := hid (show W1.grownBy W2 (some r) from zB1 hg2)
 have HRB2 := hid (HRB.out.own hg2 (fun k e => by cases e) hrW)
 clear hown2 hg2 he1 he2 he3 he4 hmv
 go_upto_region 2 with (fail)
 clear hmk
 go_loopw [8] (fun v wr => ∃ (ps : Row) (left1 : List Nat) (bad1 : Bool), ps.length <= c ∧ (∀ y ∈ xs ps, Fit y) ∧ OwnE W1.heap.size wr v ps ∧ IsRB W1.heap.size wr r left1 bad1 ∧ (∀ x ∈ left1, x < 256) ∧ left1.length <= 1000000 ∧ rdRuns (c - ps.length) c (xs ps) left1 bad1 = O ∧ W1.grownBy wr (some r)) (fun v _ => c - lenV v)
 case atStart => exact ⟨[], left, bad, Qh _, (fun y hy => by simp [xs] at hy), HO2.out, HRB2.out, H256.out, hbig, HOO.out.symm, HG2.out⟩
 case round =>
  obtain ⟨ps, left1, bad1, hl1, hfit, hown, hrb, hm1, hbl1, hO1, hgr⟩ := hrel
  obtain ⟨ao, cap, rfl⟩ := hown.row.shape
  obtain ⟨q, hq⟩ : ∃ q, q = ps.length := ⟨_, rfl⟩
  rw [<- hq] at hl1 hown hO1 ⊢
  obtain ⟨l1, hl1x⟩ : ∃ l1, l1 = xs ps := ⟨_, rfl⟩
  rw [<- hl1x] at hO1 hfit
  have HL1 := hid hl1x
  have HFIT := hid hfit
  have HQL := hid (show l1.length = q by rw [hl1x, zAt, hq])
  have HO := hid hown
  have HQ := hid hq.symm
  have HRBQ := hid hrb
  have HG := hid hgr
  have HM1 := hid hm1
  have HO1 := hid hO1
  have hszr : W1.heap.size <= wr.heap.size := hgr.size
  clear hown hrb hgr hm1 hO1 hq hl1x hfit
  by_cases hlt : q < c
  ·have hlti : (q : Int) < (c : Int) := by omega
   have hq0 : (0 : Int) <= (q : Int) := by omega
   have HNU := hid (zG7 W1.heap.size r left1 bad1 wr HRBQ.out HM1.out hbl1)
   have hult := zDs left1 bad1
   have hm2 := zEs (bad := bad1) HM1.out
   have hbl2 := zEt left1 bad1
   obtain ⟨U, hU⟩ : ∃ U, U = (numR left1 bad1).1 := ⟨_, rfl⟩
   obtain ⟨left2, hleft2⟩ : ∃ left2, left2 = (numR left1 bad1).2.1 := ⟨_, rfl⟩
   obtain ⟨bad2, hbad2⟩ : ∃ bad2, bad2 = (numR left1 bad1).2.2 := ⟨_, rfl⟩
   rw [<- hU] at hult
   rw [<- hU, <- hleft2, <- hbad2] at HNU
   rw [<- hleft2] at hm2 hbl2
   have hm3 := zB4 (bad := bad2) hm2
   have hzf := zJt left2 bad2 hm2
   have hbl3 := zB5 left2 bad2
   obtain ⟨z, hz⟩ : ∃ z, z = (takeR left2 bad2).1 := ⟨_, rfl⟩
   obtain ⟨left3, hleft3⟩ : ∃ left3, left3 = (takeR left2 bad2).2.1 := ⟨_, rfl⟩
   obtain ⟨bad3, hbad3⟩ : ∃ bad3, bad3 = (takeR left2 bad2).2.2 := ⟨_, rfl⟩
   rw [<- hleft3] at hm3 hbl3
   rw [<- hz] at hzf
   have HZF := hid hzf
   have HM2 := hid hm2
   have HM3 := hid hm3
   have hstep : (if bad3 = true ∨ U = 0 ∨ c - q < U ∨ lastIs l1 z = true then none else rdRuns (c - q - 1) c (l1 ++ Qw U z) left3 bad3) = O := by
    have h := HO1.out
    rw [show c - q = (c - q - 1) + 1 by omega, rdRuns, if_neg (show ¬ c <= l1.length by rw [HQL.out]; omega), HQL.out, <- hU, <- hleft2, <- hbad2, <- hz, <- hleft3, <- hbad3] at h
    exact h
   have HST := hid hstep
   have HTK := hid fun (w' : World) (h : IsRB W1.heap.size w' r left2 bad2) => (show Calls Tryz.prog 169 #[.pointer (some ⟨r, 0, none⟩)] w' (RetB W1.heap.size r z left3 bad3 w') from by
    have h := zHf W1.heap.size r left2 bad2 w' h HM2.out (by omega)
    rw [<- hz, <- hleft3, <- hbad3] at h
    exact h)
   have hbig3 : left3.length <= 1000000 := by omega
   clear hU hleft2 hbad2 hz hleft3 hbad3 hstep hm2 hm3 hbl2 hbl3 HM1 hzf
   go_wp2_with fail
   refine HNU.out.mono ?_
   rintro e w3 ⟨rfl, hrb3, hg3⟩
   have HRB3 := hid hrb3
   have HO3 := hid (HO.out.keptR hg3 hrW)
   have HG3 := hid (show W1.grownBy w3 (some r) from zAc HG.out hg3)
   have cf := (HX2.out w3 HG3.out).1
   clear hrb3 hg3 HNU
   go_wp2_with fail
   refine (HTK.out w3 HRB3.out).mono ?_
   rintro e w4 ⟨zv, rfl, hu4, hrb4, hg4⟩
   obtain ⟨za, zc, rfl⟩ := hu4.shape
   have HU4 := hid hu4
   have HF4 := hid (fun a ha g hg => (HO3.out.blocks a ha g hg).2)
   have HS3 := hid HG3.out.size
   have HRB4 := hid hrb4
   have HO4 := hid (HO3.out.keptR hg4 hrW)
   have HG4 := hid (show W1.grownBy w4 (some r) from zAc HG3.out hg4)
   have cf2 := (HX2.out w4 HG4.out).2.1
   have hsz4 : W1.heap.size <= w4.heap.size := HG4.out.size
   clear hrb4 hg4 cf HTK HRB3 HO3 HG3 HRBQ HG HO hszr hu4
   go_upto_region 5 with (fail)
   go_cut [11] (fun s wx => s = .bool (lastIs l1 z) ∧ Below w4.heap.size w4 wx)
   case first =>
    by_cases hq0' : q = 0
    ·have hgt : decide ((q : Int) > 0) = false := by rw [decide_eq_false_iff_not]; omega
     have hgt2 : decide (0 < q) = false := by rw [decide_eq_false_iff_not]; omega
     have hl0 : lastIs l1 z = false := by
      have : l1 = [] := Qv.1 (by rw [HQL.out]; exact hq0')
      rw [this]; rfl
     have HL0 := hid hl0
     clear hl0
     go_quiet (fail)
     go_wp2_with fail
     go_meet
     exact ⟨by rw [HL0.out], below_draws (Qb _ _) _⟩
    ·have hgt : decide ((q : Int) > 0) = true := by rw [decide_eq_true_iff]; omega
     have hgt2 : decide (0 < q) = true := by rw [decide_eq_true_iff]; omega
     have hqp : (0 : Int) < (q : Int) := by omega
     have hqm : IntKind.i64.wrap ((q : Int) - 1) = ((q - 1 : Nat) : Int) := by rw [Ji _ (by omega)]; omega
     have hqm2 : (((q - 1 : Nat) : Int)).toNat = q - 1 := by omega
     have hqm3 : (0 : Int) <= ((q - 1 : Nat) : Int) := by omega
     have hqm4 : ((q - 1 : Nat) : Int) < (q : Int) := by omega
     have hqm5 : (q : Int) - 1 = ((q - 1 : Nat) : Int) := by omega
     obtain ⟨B, off, rfl, hcell⟩ := (zBo (by have h := HO4.out.row.rd; exact h)).2 (by omega)
     obtain ⟨va, vc, a, hat0, hel⟩ := zBp HO4.out.Els (q := q - 1) (by rw [HQ.out]; omega)
     have hx : w4.cell? ⟨B, off + (q - 1), none⟩ = some (.slice va (Qa a) vc) := hcell (q - 1) _ hat0
     have hat := zA8 hat0
     rw [<- HL1.out] at hat
     have HEL := hid hel
     have HFA := hid (HFIT.out a (Qd hat))
     have hlast := zG8 (z := z) (by rw [HQL.out]; omega) (by rw [HQL.out]; exact hat)
     have HL0 := hid hlast
     clear hcell hat hat0 hel hlast
     by_cases haz : a = z
     ·have HAZ := hid haz
      have HC := hid fun w' (h : Below w4.heap.size w4 w') => zCd _ _ a z 0 w' (by rw [HAZ.out]; exact zFc z) (HEL.out.kept h) (HU4.out.rd.kept h) HFA.out HZF.out
      clear haz
      go_quiet ((go_at_call 152; exact Calls.quiet_of_same (HC.out _ (by first | exact Qb _ _ | exact zAj (Qb _ _) _ | exact zAn (Qb _ _)))))
      go_wp2_with fail
      go_meet
      exact ⟨by rw [HL0.out]; simp [HAZ.out], below_draws (Qb _ _) _⟩
     ·obtain ⟨cc, hcc⟩ : ∃ cc, cc = cmpB a z := ⟨_, rfl⟩
      have hcn : cc ≠ 0 := by rw [hcc]; exact zHp haz
      have hcb : (cc == 0) = false := by rw [beq_eq_false_iff_ne]; exact hcn
      have HCC := hid hcc
      have HAZ := hid haz
      have HC := hid fun w' (h : Below w4.heap.size w4 w') => zCd _ _ a z cc w' HCC.out.symm (HEL.out.kept h) (HU4.out.rd.kept h) HFA.out HZF.out
      clear hcc haz
      go_quiet ((go_at_call 152; exact Calls.quiet_of_same (HC.out _ (by first | exact Qb _ _ | exact zAj (Qb _ _) _ | exact zAn (Qb _ _)))))
      go_wp2_with fail
      go_meet
      exact ⟨by rw [HL0.out]; simp [HAZ.out], below_draws (Qb _ _) _⟩
   case rest =>
    obtain ⟨rfl, hb5⟩ := hcut
    have HB5 := hid hb5
    obtain ⟨w5, hw5⟩ := zEm (zAb hb5 none)
    clear hb5
    rw [<- hw5] at HB5 ⊢
    have HO5 := hid (HO4.out.keptB HB5.out)
    have HU5 := hid (zBm HU4.out HB5.out)
    have HRB5 := hid (HRB4.out.kept HB5.out hrW)
    have HG5 := hid (show W1.grownBy w5 (some r) from zAc HG4.out (zAb HB5.out _))
    obtain ⟨S, hS⟩ : ∃ S, S = lastIs l1 z := ⟨_, rfl⟩
    rw [<- hS] at HST ⊢
    have hw6 : IntKind.i64.wrap ((c : Int) - (q : Int)) = (c : Int) - (q : Int) := Ji _ (by omega)
    have hw7 : IntKind.u64.wrap ((c : Int) - (q : Int)) = (c : Int) - (q : Int) := Ja _ (by omega)
    have HOK := hid (zDh r left3 bad3 w5 HRB5.out.isR)
    have hsz5 : W1.heap.size <= w5.heap.size := HG5.out.size
    clear hS hw5 cf2 HO4 HRB4 HG4 HB5 hsz4 HU4
    go_wp2_with fail
    refine HOK.out.mono ?_
    rintro e w6 ⟨rfl, rfl⟩
    have hHW := HB1.out.size
    have HGW := hid (show w.grownBy w5 (some r) from zAc (zAb HB1.out _) HG5.out)
    by_cases hbad : bad3 = true ∨ U = 0 ∨ c - q < U ∨ S = true
    ·have HON := hid (show O = none by rw [<- HST.out, if_pos hbad])
     by_cases h1 : bad3 = true
     ·subst h1
      go_wp2_with fail
      go_ret2
      rw [HON.out]
      exact ⟨rfl, HGW.out⟩
     ·obtain rfl : bad3 = false := by simpa using h1
      by_cases h2 : U = 0
      ·subst h2
       go_wp2_with fail
       go_ret2
       rw [HON.out]
       exact ⟨rfl, HGW.out⟩
      ·have h2b : ((U : Int) == 0) = false := by rw [beq_eq_false_iff_ne]; omega
       by_cases h3 : c - q < U
       ·have h3b : decide ((U : Int) > (c : Int) - (q : Int)) = true := by rw [decide_eq_true_iff]; omega
        have h3c : (c : Int) - (q : Int) < (U : Int) := by omega
        go_wp2_with fail
        go_ret2
        rw [HON.out]
        exact ⟨rfl, HGW.out⟩
       ·have h3b : decide ((U : Int) > (c : Int) - (q : Int)) = false := by rw [decide_eq_false_iff_not]; omega
        have h3c : ¬ (c : Int) - (q : Int) < (U : Int) := by omega
        obtain rfl : S = true := by simpa [h2, h3] using hbad
        go_wp2_with fail
        go_ret2
        rw [HON.out]
        exact ⟨rfl, HGW.out⟩
    ·have HST2 := hid (show rdRuns (c - q - 1) c (l1 ++ Qw U z) left3 bad3 = O by rw [<- HST.out, if_neg hbad])
     simp only [not_or] at hbad
     obtain ⟨h1, h2, h3, h4⟩ := hbad
     obtain rfl : bad3 = false := by simpa using h1
     obtain rfl : S = false := by simpa using h4
     have h2b : ((U : Int) == 0) = false := by rw [beq_eq_false_iff_ne]; omega
     have h3b : decide ((U : Int) > (c : Int) - (q : Int)) = false := by rw [decide_eq_false_iff_not]; omega
     have h3c : ¬ (c : Int) - (q : Int) < (U : Int) := by omega
     have hUc : U <= c - q := by omega
     clear HST h1 h4 HGW
     go_wp2_with fail
     go_loopw [8, 60] (fun v i wr2 => ∃ (j : Nat) (pj : Row), j <= U ∧ i = .int .u64 (j : Int) ∧ xs pj = l1 ++ Qw j z ∧ OwnE W1.heap.size wr2 v pj ∧ (OwnB w3.heap.size wr2 (.slice za (Qa z) zc) z ∧ ∀ g, (Value.slice za (Qa z) zc).ownBlock = some g -> v.ownBlock ≠ some g) ∧ IsRB W1.heap.size wr2 r left3 false ∧ W1.grownBy wr2 (some r)) (fun _ i _ => U - (intOf i).toNat)
     case atStart => exact ⟨0, ps, Qh _, rfl, (by rw [List.replicate_zero, List.append_nil]; exact HL1.out.symm), HO5.out, ⟨HU5.out, fun g hg e => by have h1 := zBd HU5.out g hg; have h2 := HF4.out _ Qn g e; omega⟩, HRB5.out, HG5.out⟩
     case round =>
      obtain ⟨j, pj, hj, rfl, hxj, hown, huj, hrb, hgr⟩ := hrel
      obtain ⟨ao2, cap2, rfl⟩ := hown.row.shape
      have hlj : pj.length = q + j := by rw [<- zAt, hxj, Qj, HQL.out, List.length_replicate]
      rw [hlj] at hown huj ⊢
      have HLEN := hid hlj
      have HXJ := hid hxj
      have HOJ := hid hown
      have HUJ := hid huj
      have HRBJ := hid hrb
      have HGJ := hid hgr
      have hszA : W1.heap.size <= wr.heap.size := hgr.size
      clear hown hrb hgr hlj hxj huj
      by_cases hlt2 : j < U
      ·have hlti2 : (j : Int) < (U : Int) := by omega
       have hj0 : (0 : Int) <= (j : Int) := by omega
       have cf := (HX2.out wr HGJ.out).2.2
       go_wp2_with fail
       refine (zCu (.slice za (Qa z) zc) z wr HUJ.out.1.rd (by have := HZF.out.2; omega)).mono ?_
       rintro e w7 ⟨ca, cc7, rfl, hown7, hb7⟩
       rw [Qc] at hown7 ⊢
       have HC7 := hid (show OwnB wr.heap.size w7 (.slice ca (Qa z) cc7) z from OwnB.of hown7)
       have HB7 := hid hb7
       have HOJ7 := hid (HOJ.out.keptB hb7)
       have HUJ7 := hid (zBm HUJ.out.1 hb7)
       have HRB7 := hid (HRBJ.out.kept hb7 hrW)
       have HGJ7 := hid (show W1.grownBy w7 (some r) from zAc HGJ.out (zAb hb7 _))
       have HFJ := hid (fun a ha g hg => (HOJ.out.blocks a ha g hg).2)
       have hsz7 : W1.heap.size <= w7.heap.size := HGJ7.out.size
       clear cf hown7 hb7
       have HOA := hid (show (w7.alloc (.cells #[.slice ca (Qa z) cc7] 29)).ownsRow W1.heap.size 29 1 (.slice ao2 (q + j) cap2) (q + j) (vs pj) from by have h := World.ownsRow.alloc HOJ7.out.row (.cells #[.slice ca (Qa z) cc7] 29); rw [HLEN.out] at h; exact h)
       have HLT := hid (zBa w7 #[.slice ca (Qa z) cc7] 29 1 rfl)
       have hszB : W1.heap.size <= (w7.alloc (.cells #[.slice ca (Qa z) cc7] 29)).heap.size := zA7 hsz7 _
       have HONE := hid (zEz (.slice ca (Qa z) cc7) rfl)
       go_wp2_with (at_builtin; go_must (refine zAf elmR rfl _ _ rfl W1.heap.size _ _ _ rfl HOA.out _ [[.slice ca (Qa z) cc7]] rfl HLT.out HONE.out (by simp; omega) hszB ((q + j) + 1) rfl ?_); intro ao9 cap9 w9 hown9 hgrow9 hnew9; have HO9 := hid hown9; have HG9 := hid hgrow9; have HN9 := hid hnew9; clear hown9 hgrow9 hnew9)
       go_roundw
       case rel =>
        have hg9 : w7.grownBy w9 (Value.slice ao2 (q + j) cap2).ownBlock := zAc (zBz (Jh w7 _ none)) HG9.out
        have hk9 : ∀ k, (Value.slice ao2 (q + j) cap2).ownBlock = some k -> W1.heap.size <= k := zBw HOJ7.out.row
        have hn9 : ∀ g, (Value.slice ao9 (q + j + 1) cap9).ownBlock = some g -> (Value.slice ao2 (q + j) cap2).ownBlock = some g ∨ w7.heap.size <= g := fun g hg => by
         rcases HN9.out g hg with h | h
         ·exact .inl h
         ·right; rw [h]; simp
        refine ⟨j + 1, pj ++ [(.slice ca (Qa z) cc7, z)], by omega, by go_num, ?_, ?_, ⟨?_, ?_⟩, HRB7.out.own hg9 hk9 hrW, zDe (base := 0) HGJ7.out hg9 hk9⟩
        ·rw [zDv, HXJ.out, List.replicate_succ', <- Jc]
        ·refine HOJ7.out.snoc HC7.out hszA HFJ.out ?_ hg9 hn9
         rw [HLEN.out]
         have h := HO9.out
         simpa using h
        ·refine World.ownsRow.kept HUJ7.out hg9 ?_
         cases e : (Value.slice za (Qa z) zc).ownBlock with
         | none => exact .inl rfl
         | some g => exact .inr fun e2 => HUJ.out.2 g e e2.symm
        ·intro g hg e
         rcases hn9 g e with h | h
         ·exact HUJ.out.2 g hg h
         ·have := zDj HUJ7.out hg
          omega
       case measure => simp [intOf]; omega
      ·have hjU : j = U := by omega
       subst hjU
       have hlti2 : ¬ (j : Int) < (j : Int) := by omega
       have HO6 := hid (show rdRuns (c - pj.length) c (xs pj) left3 false = O from by
        rw [<- HST2.out, HXJ.out]
        exact zCy _ _ _ _ _ _ (by rw [<- HXJ.out, zAt]; exact Qe _) (by rw [<- HXJ.out, zAt, HLEN.out]; omega))
       have HF6 := hid (show ∀ y ∈ xs pj, Fit y from fun y hy => by
        rw [HXJ.out] at hy
        rcases Jf.1 hy with h | h
        ·exact HFIT.out y h
        ·rw [(List.mem_replicate.1 h).2]; exact HZF.out)
       go_wp2_with fail
       go_roundw
       case rel => exact ⟨pj, left3, false, by rw [HLEN.out]; omega, HF6.out, HOJ.out, HRBJ.out, HM3.out, hbig3, HO6.out, HGJ.out⟩
       case measure => simp [lenV]; omega
  ·have hqc : q = c := by omega
   subst hqc
   have hlti : ¬ (q : Int) < (q : Int) := by omega
   have HW := hid (zD5 W1.heap.size r left1 bad1 ps (.slice ao q cap) wr HRBQ.out.isR hbl1 HO.out)
   go_wp2_with fail
   refine HW.out.mono ?_
   rintro e w5 ⟨hret, hb5⟩
   have HG5 := hid (show w.grownBy w5 (some r) from zAc (zAc (zAb HB1.out _) HG.out) (zAb hb5 _))
   have hOe : wholeT l1 left1 bad1 = O := by
    rw [<- HO1.out]
    exact (zBi _ _ _ _ _ (by rw [HQL.out]; exact Qe _)).symm
   rw [<- HL1.out, hOe] at hret
   have hHW := HB1.out.size
   clear hb5 HW hOe HOO HO1
   cases O with
   | none =>
    obtain rfl : e = .returned (.tuple #[.slice none 0 0, .bool false]) := hret
    go_wp2_with fail
    go_ret2
    exact ⟨rfl, HG5.out⟩
   | some lz =>
    obtain ⟨v5, ps5, rfl, hown5, hxs5⟩ := hret
    have HO5 := hid hown5
    have HX5 := hid hxs5
    clear hown5 hxs5
    go_wp2_with fail
    go_ret2
    exact ⟨⟨_, ps5, rfl, HO5.out.mono hHW, HX5.out⟩, HG5.out⟩
end Go.Proofs.YtmpgnjhgegbdkaaGreat.Bc
