import Derived.Test.YtmpgnjhgegbdkaaGreatSgc
import Derived.Test.YtmpgnjhgegbdkaaGreatIcoli
set_option linter.unusedVariables false
set_option linter.unusedSimpArgs false
set_option maxRecDepth 100000
set_option maxHeartbeats 8000000
open Go.Lib (hid)
namespace Go.Proofs.YtmpgnjhgegbdkaaGreat
open Go.RowKit
open _root_.List renaming length_map -> Qa, map_map -> Qb, mem_of_getElem? -> Qe, mem_map -> Qf, getElem?_eq_getElem -> Qh, getD_eq_getElem?_getD -> Qi, getElem?_map -> Qj, take_add_one -> Qk, map_append -> Ql, flatten_append -> Qm, mem_singleton -> Qn, mem_cons -> Qo, not_mem_nil -> Qp, take_of_length_le -> Qq
open _root_.Nat renaming zero_le -> Qc, le_refl -> Qd
open Go.RowKit.Below renaming refl -> Qg
theorem zK8 : Elm Tryz.prog 27 31 4 48 := zG6 Tryz.underlying27 zJe rfl (by decide) (by decide)
def OwnV (B : Nat) (w : World) (v : Value) (l : List (Vc × Value)) : Prop := w.ownsRow B 31 4 v l.length (l.map cellsV).flatten ∧ ∀ t ∈ l, RdB B w t.2 t.1.b ∧ ∀ x ∈ t.1.b, x < 256
theorem OwnV.rdP {B : Nat} {w : World} {v : Value} {l : List (Vc × Value)} (h : OwnV B w v l) : RdP w v l := zPp h.1 rfl fun t ht => ⟨(h.2 t ht).1.rd (Above.refl _ _), (h.2 t ht).2⟩
def RetV (B : Nat) (o : Option (List Vc)) (e : Ending) (w' : World) : Prop := match o with
 | some vs => ∃ v l, e = .returned (.tuple #[v, .bool true]) ∧ l.map Prod.fst = vs ∧ OwnV B w' v l
 | none => e = .returned (.tuple #[.slice none 0 0, .bool false])
theorem zU0 {n kind : Nat} {rest : List Nat} {l : List Bool} {r : List Nat} (h : decK n kind rest = some (l, r)) : ∃ k, r = rest.drop k := by
 unfold decK at h
 split at h
 ·cases h; exact ⟨0, rfl⟩
 ·split at h
  ·cases h; exact ⟨0, rfl⟩
  ·split at h
   ·split at h
    ·cases h
    ·split at h
     ·cases h
     ·cases h; exact ⟨_, rfl⟩
   ·cases h
theorem zOk {bs : List Nat} {l : List Bool} {r : List Nat} (h : decN bs = some (l, r)) : ∃ k, r = bs.drop k := by
 unfold decN at h
 split at h
 ·cases h
 ·next n k hn =>
  split at h
  ·cases h
  ·split at h
   ·cases h
   ·next kind rest hd =>
    obtain ⟨j, hj⟩ := zU0 h
    refine ⟨k + (1 + j), ?_⟩
    rw [hj, <- List.drop_drop, hd, Nat.add_comm 1 j]
    rfl
theorem zPx (K : Nat) (w : World) : RdB K w (.slice none 0 0) [] := ⟨none, 0, rfl, ⟨fun _ => rfl, by simp⟩, fun h => absurd h (by simp)⟩
theorem zV3 (bs : List Nat) (bv : Value) (count : Int) (w : World) (hr : Rd w bv (bs.map u8v)) (h256 : ∀ x ∈ bs, x < 256) (hbig : bs.length <= 1000000) (hcnt : ∀ vs, thereT 1 bs count = some vs -> vs.length <= 100000) :
  Calls Tryz.prog 80 #[.int .i64 1, bv, .int .i64 count] w fun e w' => RetV w.heap.size (thereT 1 bs count) e w' ∧ Below w.heap.size w w' := by
 have HD := hid (show Calls Tryz.prog 107 #[bv, .int .i64 count] w fun e w' => ∃ (ao : Option Addr) (n cap : Nat) (ok : Bool) (l : List (Vc × Value)), e = .returned (.tuple #[.slice ao n cap, .bool ok]) ∧ Rd w' (.slice ao n cap) (l.map fun t => Value.int .i64 t.1.n) ∧ n = l.length ∧ (∀ t ∈ l, (t.1 = ⟨false, 1, t.1.n, []⟩ ∧ t.2 = .slice none 0 0) ∧ RdB w.heap.size w' t.2 t.1.b ∧ ∀ x ∈ t.1.b, x < 256) ∧ ((ok = true ∧ thereT 1 bs count = some (l.map Prod.fst)) ∨ (ok = false ∧ l = [] ∧ thereT 1 bs count = none)) ∧ Below w.heap.size w w' from by
  refine (zNo bs bv count w hr h256 hbig).mono ?_
  rintro e w' ⟨h, hb⟩
  unfold RetOpt at h
  cases hd : decT bs count with
  | none =>
   rw [hd] at h
   exact ⟨none, 0, 0, false, [], h, Rd.nil _, rfl, fun t ht => (by cases ht), .inr ⟨rfl, rfl, by unfold thereT; rw [if_pos rfl, hd]; rfl⟩, hb⟩
  | some l =>
   rw [hd] at h
   obtain ⟨v, rfl, ho⟩ := h
   obtain ⟨ao, cap, rfl⟩ := ho.shape
   refine ⟨ao, l.length, cap, true, l.map fun n => (⟨false, 1, n, []⟩, .slice none 0 0), rfl, ?_, by rw [Qa], fun t ht => ?_, .inl ⟨rfl, ?_⟩, hb⟩
   ·have := ho.rd
    rw [Qb]
    exact this
   ·obtain ⟨n, _, rfl⟩ := Qf.1 ht
    exact ⟨⟨rfl, rfl⟩, zPx _ _, fun x hx => by cases hx⟩
   ·unfold thereT thereI
    rw [if_pos rfl, hd, Qb]
    rfl)
 obtain ⟨ba, bc, rfl⟩ := zAi hr
 obtain ⟨bn, hbn⟩ : ∃ bn, bn = (bs.map u8v).length := ⟨_, rfl⟩
 rw [<- hbn] at HD ⊢
 have HCNT := hid hcnt
 clear hr h256 hbig hcnt hbn
 go_enter Tryz.func80, Tryz.ntmps80
 go_wp2_with fail
 refine HD.out.mono ?_
 rintro e w2 ⟨ao, n, cap, ok, l, rfl, hr2, hn, hl, hok, hb2⟩
 have HR2 := hid hr2
 have HN := hid hn
 have HL := hid hl
 have HOK := hid hok
 have HB2 := hid hb2
 have hn5 : n <= 100000 := by
  rcases hok with ⟨_, h⟩ | ⟨_, h, _⟩
  ·have := HCNT.out _ h
   rw [Qa] at this
   omega
  ·rw [hn, h]; exact Qc _
 clear hr2 hn hl hok hb2
 go_wp2_with fail
 go_loopw [8, 27] (fun o i wr => ∃ (q : Nat) (oa : Option Addr) (oc : Nat), q <= n ∧ i = .int .i64 (q : Int) ∧ o = .slice oa q oc ∧ (q = 0 -> oa = none ∧ oc = 0) ∧ wr.ownsRow w2.heap.size 31 4 (.slice oa q oc) q ((l.take q).map cellsV).flatten ∧ Below w2.heap.size w2 wr) (fun _ i _ => n - (intOf i).toNat)
 case atStart => exact ⟨0, none, 0, Qc _, rfl, rfl, (fun _ => ⟨rfl, rfl⟩), World.ownsRow_nil .., Qg _ _⟩
 case round =>
  obtain ⟨q, oa, oc, hq, rfl, rfl, hnil, hown, hb⟩ := hrel
  have HNIL := hid hnil
  clear hnil
  have HO := hid hown
  have HB := hid hb
  clear hown hb
  by_cases hlt : q < n
  ·obtain ⟨t, ht⟩ : ∃ t, l[q]? = some t := ⟨_, Qh (by rw [<- HN.out]; exact hlt)⟩
   have hsh := (HL.out t (Qe ht)).1
   have hrd := HR2.out.kept HB.out
   have hcell : ∃ b off, ao = some ⟨b, off, none⟩ ∧ wr.cell? ⟨b, off + q, none⟩ = some (Value.int .i64 t.1.n) := by
    obtain ⟨ao', cap', hv, _, hc⟩ := hrd
    simp only [Value.slice.injEq] at hv
    obtain ⟨e1, _, _⟩ := hv
    rw [Qa, <- HN.out] at hc
    obtain ⟨b, off, ha, hcc⟩ := hc (by omega)
    refine ⟨b, off, by rw [e1, ha], ?_⟩
    rw [hcc q hlt, Qi, Qj, ht]
    rfl
   obtain ⟨b, off, rfl, hx⟩ := hcell
   have HTK := hid (show ((l.take (q + 1)).map cellsV).flatten = ((l.take q).map cellsV).flatten ++ [cellsV t].flatten by rw [Qk, ht, Ql, Qm]; rfl)
   obtain ⟨⟨tu, tk, tn, tb⟩, ts⟩ := t
   obtain ⟨h1, rfl⟩ := hsh
   simp only [Vc.mk.injEq, true_and, and_true] at h1
   obtain ⟨rfl, rfl, rfl⟩ := h1
   simp only at hx
   clear ht hrd
   have HLT := hid (zBb wr #[.bool false, .int .i64 1, .int .i64 tn, .slice none 0 0] 31 4 rfl)
   have HON := hid (show Ones 4 [[.bool false, .int .i64 1, .int .i64 tn, .slice none 0 0]] from fun t ht => by rw [Qn.1 ht]; exact ⟨rfl, fun u hu => by simp only [Qo, Qp, or_false] at hu; rcases hu with rfl | rfl | rfl | rfl <;> rfl⟩)
   have HOA := hid (HO.out.alloc (.cells #[.bool false, .int .i64 1, .int .i64 tn, .slice none 0 0] 31))
   have HSZ := hid (show w2.heap.size <= (wr.alloc (.cells #[.bool false, .int .i64 1, .int .i64 tn, .slice none 0 0] 31)).heap.size by have := HB.out.size; simp; omega)
   go_wp2_with (at_builtin; go_must (refine zAg zK8 rfl _ _ rfl w2.heap.size _ _ _ rfl HOA.out _ [[.bool false, .int .i64 1, .int .i64 tn, .slice none 0 0]] rfl HLT.out HON.out (by simp; omega) HSZ.out (q + 1) rfl ?_); intro ao4 cap4 w4 hown4 hgrow4 hnew4; have HO4 := hid hown4; have HG4 := hid hgrow4; clear hown4 hgrow4 hnew4)
   go_roundw
   case rel =>
    refine ⟨q + 1, ao4, cap4, by omega, by go_num, rfl, (fun h => by omega), ?_, (zAn HB.out _).grown HG4.out HSZ.out (zAh HOA.out)⟩
    rw [HTK.out]
    exact HO4.out
   case measure => simp [intOf]; omega
  ·have hqn : q = n := by omega
   have HF := hid (show RetV w.heap.size (thereT 1 bs count) (.returned (.tuple #[.slice oa q oc, .bool ok])) wr from by
    have h := HO.out
    rw [hqn, Qq (by rw [<- HN.out]; exact Qd _), HN.out] at h
    have hbl := HB.out
    rw [hqn, HN.out]
    rcases HOK.out with ⟨rfl, hs⟩ | ⟨rfl, rfl, hs⟩
    ·rw [hs]
     exact ⟨_, l, rfl, rfl, Joins.ownsRow_le h HB2.out.size, fun t ht => ⟨(HL.out t ht).2.1.above (zCd hbl) (Qd _), (HL.out t ht).2.2⟩⟩
    ·rw [hs]
     have h0 := HNIL.out (by rw [hqn, HN.out]; rfl)
     rw [h0.1, h0.2]
     rfl)
   have HBF := hid (zAa HB2.out HB.out)
   clear hqn
   go_wp2_with fail
   go_ret2
   exact ⟨HF.out, HBF.out⟩
theorem zV4 (bs : List Nat) (bv : Value) (count : Int) (w : World) (hr : Rd w bv (bs.map u8v)) (h256 : ∀ x ∈ bs, x < 256) (hbig : bs.length <= 1000000) (hcnt : ∀ vs, thereT 2 bs count = some vs -> vs.length <= 100000) (h2 : ∀ l, Bc.decT bs count = some l -> ∀ y ∈ l, ∀ x ∈ y, x < 256) :
  Calls Tryz.prog 80 #[.int .i64 2, bv, .int .i64 count] w fun e w' => RetV w.heap.size (thereT 2 bs count) e w' ∧ Below w.heap.size w w' := by
 have HD := hid (show Calls Tryz.prog 108 #[bv, .int .i64 count] w fun e w' => ∃ (ao : Option Addr) (n cap : Nat) (ok : Bool) (l : List (Vc × Value)), e = .returned (.tuple #[.slice ao n cap, .bool ok]) ∧ Rd w' (.slice ao n cap) (l.map fun t => t.2) ∧ n = l.length ∧ (∀ t ∈ l, (t.1 = ⟨false, 2, 0, t.1.b⟩) ∧ RdB w.heap.size w' t.2 t.1.b ∧ ∀ x ∈ t.1.b, x < 256) ∧ ((ok = true ∧ thereT 2 bs count = some (l.map Prod.fst)) ∨ (ok = false ∧ l = [] ∧ thereT 2 bs count = none)) ∧ Below w.heap.size w w' from by
  refine (Bc.zN0 bs bv count w hr h256 hbig).mono ?_
  rintro e w' ⟨h, hb⟩
  unfold Bc.RetOpt at h
  cases hd : Bc.decT bs count with
  | none =>
   rw [hd] at h
   exact ⟨none, 0, 0, false, [], h, Rd.nil _, rfl, fun t ht => (by cases ht), .inr ⟨rfl, rfl, by unfold thereT; rw [if_neg (by decide), hd]; rfl⟩, hb⟩
  | some l =>
   rw [hd] at h
   obtain ⟨v, ps, rfl, ho, hx⟩ := h
   obtain ⟨ao, cap, rfl⟩ := ho.row.shape
   refine ⟨ao, ps.length, cap, true, ps.map fun p => (⟨false, 2, 0, p.2⟩, p.1), rfl, ?_, by rw [Qa], fun t ht => ?_, .inl ⟨rfl, ?_⟩, hb⟩
   ·have := ho.row.rd
    rw [Qb]
    exact this
   ·obtain ⟨p, hp, rfl⟩ := Qf.1 ht
    refine ⟨rfl, zJf (ho.els p hp), fun x hx2 => ?_⟩
    have hm : p.2 ∈ l := by rw [<- hx]; exact List.mem_map_of_mem hp
    exact h2 l hd _ hm x hx2
   ·unfold thereT thereB
    rw [if_neg (by decide), hd, <- hx]
    unfold Bc.xs
    rw [Option.map_some, Qb, Qb]
    rfl)
 obtain ⟨ba, bc, rfl⟩ := zAi hr
 obtain ⟨bn, hbn⟩ : ∃ bn, bn = (bs.map u8v).length := ⟨_, rfl⟩
 rw [<- hbn] at HD ⊢
 have HCNT := hid hcnt
 have hk1 : ¬ ((2 : Int) = 1) := by decide
 clear hr h256 hbig hcnt hbn h2
 go_enter Tryz.func80, Tryz.ntmps80
 go_wp2_with fail
 refine HD.out.mono ?_
 rintro e w2 ⟨ao, n, cap, ok, l, rfl, hr2, hn, hl, hok, hb2⟩
 have HR2 := hid hr2
 have HN := hid hn
 have HL := hid hl
 have HOK := hid hok
 have HB2 := hid hb2
 have hn5 : n <= 100000 := by
  rcases hok with ⟨_, h⟩ | ⟨_, h, _⟩
  ·have := HCNT.out _ h
   rw [Qa] at this
   omega
  ·rw [hn, h]; exact Qc _
 clear hr2 hn hl hok hb2
 go_wp2_with fail
 go_loopw [8, 48] (fun o i wr => ∃ (q : Nat) (oa : Option Addr) (oc : Nat), q <= n ∧ i = .int .i64 (q : Int) ∧ o = .slice oa q oc ∧ (q = 0 -> oa = none ∧ oc = 0) ∧ wr.ownsRow w2.heap.size 31 4 (.slice oa q oc) q ((l.take q).map cellsV).flatten ∧ Below w2.heap.size w2 wr) (fun _ i _ => n - (intOf i).toNat)
 case atStart => exact ⟨0, none, 0, Qc _, rfl, rfl, (fun _ => ⟨rfl, rfl⟩), World.ownsRow_nil .., Qg _ _⟩
 case round =>
  obtain ⟨q, oa, oc, hq, rfl, rfl, hnil, hown, hb⟩ := hrel
  have HNIL := hid hnil
  clear hnil
  have HO := hid hown
  have HB := hid hb
  clear hown hb
  by_cases hlt : q < n
  ·obtain ⟨t, ht⟩ : ∃ t, l[q]? = some t := ⟨_, Qh (by rw [<- HN.out]; exact hlt)⟩
   have hsh := (HL.out t (Qe ht)).1
   have hrd := HR2.out.kept HB.out
   have hcell : ∃ b off, ao = some ⟨b, off, none⟩ ∧ wr.cell? ⟨b, off + q, none⟩ = some (t.2) := by
    obtain ⟨ao', cap', hv, _, hc⟩ := hrd
    simp only [Value.slice.injEq] at hv
    obtain ⟨e1, _, _⟩ := hv
    rw [Qa, <- HN.out] at hc
    obtain ⟨b, off, ha, hcc⟩ := hc (by omega)
    refine ⟨b, off, by rw [e1, ha], ?_⟩
    rw [hcc q hlt, Qi, Qj, ht]
    rfl
   obtain ⟨b, off, rfl, hx⟩ := hcell
   have HTK := hid (show ((l.take (q + 1)).map cellsV).flatten = ((l.take q).map cellsV).flatten ++ [cellsV t].flatten by rw [Qk, ht, Ql, Qm]; rfl)
   obtain ⟨⟨tu, tk, tn, tb⟩, ts⟩ := t
   simp only [Vc.mk.injEq, true_and, and_true] at hsh
   obtain ⟨rfl, rfl, rfl⟩ := hsh
   obtain ⟨sa, sc, hss⟩ := zA6 (HL.out _ (Qe ht)).2.1
   simp only at hss
   subst hss
   simp only at hx
   clear ht hrd
   have HLT := hid (zBb wr #[.bool false, .int .i64 2, .int .i64 0, .slice sa tb.length sc] 31 4 rfl)
   have HON := hid (show Ones 4 [[.bool false, .int .i64 2, .int .i64 0, .slice sa tb.length sc]] from fun t ht => by rw [Qn.1 ht]; exact ⟨rfl, fun u hu => by simp only [Qo, Qp, or_false] at hu; rcases hu with rfl | rfl | rfl | rfl <;> rfl⟩)
   have HOA := hid (HO.out.alloc (.cells #[.bool false, .int .i64 2, .int .i64 0, .slice sa tb.length sc] 31))
   have HSZ := hid (show w2.heap.size <= (wr.alloc (.cells #[.bool false, .int .i64 2, .int .i64 0, .slice sa tb.length sc] 31)).heap.size by have := HB.out.size; simp; omega)
   go_wp2_with (at_builtin; go_must (refine zAg zK8 rfl _ _ rfl w2.heap.size _ _ _ rfl HOA.out _ [[.bool false, .int .i64 2, .int .i64 0, .slice sa tb.length sc]] rfl HLT.out HON.out (by simp; omega) HSZ.out (q + 1) rfl ?_); intro ao4 cap4 w4 hown4 hgrow4 hnew4; have HO4 := hid hown4; have HG4 := hid hgrow4; clear hown4 hgrow4 hnew4)
   go_roundw
   case rel =>
    refine ⟨q + 1, ao4, cap4, by omega, by go_num, rfl, (fun h => by omega), ?_, (zAn HB.out _).grown HG4.out HSZ.out (zAh HOA.out)⟩
    rw [HTK.out]
    exact HO4.out
   case measure => simp [intOf]; omega
  ·have hqn : q = n := by omega
   have HF := hid (show RetV w.heap.size (thereT 2 bs count) (.returned (.tuple #[.slice oa q oc, .bool ok])) wr from by
    have h := HO.out
    rw [hqn, Qq (by rw [<- HN.out]; exact Qd _), HN.out] at h
    have hbl := HB.out
    rw [hqn, HN.out]
    rcases HOK.out with ⟨rfl, hs⟩ | ⟨rfl, rfl, hs⟩
    ·rw [hs]
     exact ⟨_, l, rfl, rfl, Joins.ownsRow_le h HB2.out.size, fun t ht => ⟨(HL.out t ht).2.1.above (zCd hbl) (Qd _), (HL.out t ht).2.2⟩⟩
    ·rw [hs]
     have h0 := HNIL.out (by rw [hqn, HN.out]; rfl)
     rw [h0.1, h0.2]
     rfl)
   have HBF := hid (zAa HB2.out HB.out)
   clear hqn
   go_wp2_with fail
   go_ret2
   exact ⟨HF.out, HBF.out⟩
theorem zS2 (k : Int) (hk : k = 1 ∨ k = 2) (bs : List Nat) (bv : Value) (count : Int) (w : World) (hr : Rd w bv (bs.map u8v)) (h256 : ∀ x ∈ bs, x < 256) (hbig : bs.length <= 1000000) (hcnt : ∀ vs, thereT k bs count = some vs -> vs.length <= 100000) (h2 : ∀ l, Bc.decT bs count = some l -> ∀ y ∈ l, ∀ x ∈ y, x < 256) :
  Calls Tryz.prog 80 #[.int .i64 k, bv, .int .i64 count] w fun e w' => RetV w.heap.size (thereT k bs count) e w' ∧ Below w.heap.size w w' := by
 rcases hk with rfl | rfl
 ·exact zV3 bs bv count w hr h256 hbig hcnt
 ·exact zV4 bs bv count w hr h256 hbig hcnt h2
end Go.Proofs.YtmpgnjhgegbdkaaGreat
