import Derived.Test.YtmpgnjhgegbdkaaGreatCodg
import Derived.Test.YtmpgnjhgegbdkaaGreatPlmath
import Derived.Test.YtmpgnjhgegbdkaaGreatUnpack
import Derived.OwnWalk
import Derived.BigRegion
set_option linter.unusedVariables false
set_option maxHeartbeats 2000000
set_option maxRecDepth 100000
open Go.Lib (hid)
namespace Go.Proofs.YtmpgnjhgegbdkaaGreat
open _root_.List renaming replicate -> Qa, length_map -> Qb, getElem?_eq_getElem -> Qe, length_cons -> Qf, length_replicate -> Qg, getD_eq_getElem?_getD -> Qh, length_take -> Qi, drop_of_length_le -> Qk, map_append -> Ql, take_add_one -> Qm, getElem?_map -> Qn, take_length -> Qo, length_drop -> Qp, map_set -> Qq, append_nil -> Qr, replicate_succ -> Qt, mem_map -> Qu, drop_left -> Qv, singleton_append -> Qw, length_append -> Qy, getElem?_eq_some_iff -> Ja, drop_eq_getElem_cons -> Jb, getElem?_replicate -> Jc, length_nil -> Jd
open _root_.Nat renaming le_refl -> Qc, zero_le -> Qj, one_mul -> Qx, mul_one -> Qz
open Go.RowKit.Below renaming refl -> Qd
open _root_.Option renaming map -> Qs
def countB : List Bool -> Nat
 | [] => 0
 | b :: l => b.toNat + countB l
theorem zKg (a b : List Bool) : countB (a ++ b) = countB a + countB b := by
 induction a with
 | nil => simp [countB]
 | cons x a ih => simp [countB, ih]; omega
theorem countB_le (l : List Bool) : countB l <= l.length := by
 induction l with
 | nil => simp [countB]
 | cons x l ih => cases x <;> simp [countB] <;> omega
theorem zMk (l : List Bool) (k : Nat) (b : Bool) (h : l[k]? = some b) : countB (l.take (k + 1)) = countB (l.take k) + b.toNat := by
 rw [Qm, h, zKg]
 simp [countB]
theorem zMl (l : List Bool) (h : countB l = 0) : l = Qa l.length false := by
 induction l with
 | nil => rfl
 | cons x l ih =>
  cases x
  ·simp [countB] at h
   rw [Qf, Qt, <- ih h]
  ·exact absurd h (by rw [countB]; simp)
theorem zNu (l : List Bool) (h : countB l = l.length) : l = Qa l.length true := by
 induction l with
 | nil => rfl
 | cons x l ih =>
  cases x
  ·have h1 := countB_le l
   rw [countB, Qf] at h
   simp at h
   omega
  ·rw [countB, Qf] at h
   simp at h
   rw [Qf, Qt, <- ih (by omega)]
def bitsN (l : List Bool) : List Nat := l.map Bool.toNat
theorem zLa (l : List Bool) : ∀ x ∈ bitsN l, x < 2 ^ 1 := by
 intro x hx
 obtain ⟨b, _, rfl⟩ := Qu.1 hx
 cases b <;> decide
theorem zNv (l : List Bool) : (bitsN l).map (· == 1) = l := by
 unfold bitsN
 rw [List.map_map]
 conv => rhs; rw [<- List.map_id l]
 refine List.map_congr_left fun b _ => ?_
 cases b <;> rfl
def encN (l : List Bool) : List Nat :=
 numC l.length ++ (if countB l = 0 then [0] else if countB l = l.length then [1] else 2 :: packB 1 (bitsN l))
def decK (n : Nat) (kind : Nat) (rest : List Nat) : Option (List Bool × List Nat) :=
 if kind = 0 then some (Qa n false, rest)
 else if kind = 1 ∧ 0 < n then some (Qa n true, rest)
 else if kind = 2 ∧ (n + 7) / 8 <= rest.length then
  match unpackB (rest.take ((n + 7) / 8)) 1 n with
  | none => none
  | some us => if countB (us.map (· == 1)) = 0 ∨ countB (us.map (· == 1)) = n then none else some (us.map (· == 1), rest.drop ((n + 7) / 8))
 else none
def decN (b : List Nat) : Option (List Bool × List Nat) :=
 match nextC b with
 | none => none
 | some (n, k) => if 65535 < n then none else
  match b.drop k with
  | [] => none
  | kind :: rest => decK n kind rest
theorem zNw (n : Nat) (rest : List Nat) (h : rest.length < (n + 7) / 8) : decK n 2 rest = none := by
 unfold decK
 rw [if_neg (by decide), if_neg (by omega), if_neg (by omega)]
theorem zPd (n : Nat) (rest : List Nat) (h : (n + 7) / 8 <= rest.length) (hu : unpackB (rest.take ((n + 7) / 8)) 1 n = none) : decK n 2 rest = none := by
 unfold decK
 rw [if_neg (by decide), if_neg (by omega), if_pos ⟨rfl, h⟩, hu]
theorem zPe (n : Nat) (rest : List Nat) (us : List Nat) (h : (n + 7) / 8 <= rest.length) (hu : unpackB (rest.take ((n + 7) / 8)) 1 n = some us) :
  decK n 2 rest = if countB (us.map (· == 1)) = 0 ∨ countB (us.map (· == 1)) = n then none else some (us.map (· == 1), rest.drop ((n + 7) / 8)) := by
 unfold decK
 rw [if_neg (by decide), if_neg (by omega), if_pos ⟨rfl, h⟩, hu]
theorem zSa (l : List Bool) (more : List Nat) (h : l.length <= 65535) : decN (encN l ++ more) = some (l, more) := by
 unfold decN encN
 rw [List.append_assoc, zGv _ _ (by omega)]
 simp only
 rw [if_neg (by omega), Qv]
 by_cases h0 : countB l = 0
 ·rw [if_pos h0]
  simp only [Qw]
  unfold decK
  rw [if_pos rfl, <- zMl l h0]
 ·rw [if_neg h0]
  by_cases h1 : countB l = l.length
  ·rw [if_pos h1]
   simp only [Qw]
   unfold decK
   rw [if_neg (by decide), if_pos ⟨rfl, by omega⟩, <- zNu l h1]
  ·rw [if_neg h1]
   simp only [List.cons_append]
   have hl : (packB 1 (bitsN l)).length = (l.length + 7) / 8 := by rw [zAy]; unfold bitsN; rw [Qb, Qx]
   have hu := unpack_pack 1 (bitsN l) (by decide) (by unfold bitsN; rw [Qb]; exact h) (zLa l)
   have hb : (bitsN l).length = l.length := by unfold bitsN; rw [Qb]
   unfold decK
   rw [if_neg (by decide), if_neg (by omega), if_pos ⟨rfl, by rw [Qy, hl]; omega⟩, <- hl, List.take_left, Qv]
   rw [hb] at hu
   rw [show ((1 : Int)) = ((1 : Nat) : Int) from rfl, hu]
   simp only [zNv]
   rw [if_neg (by omega)]
open Go.RowKit
theorem zE6 {w : World} {ao : Option Addr} {len cap : Nat} {bs : List Bool} (h : Rd w (.slice ao len cap) (bs.map boolv)) :
  len = bs.length ∧ (0 < len -> ∃ b off, ao = some ⟨b, off, none⟩ ∧ ∀ i, i < len -> w.cell? ⟨b, off + i, none⟩ = some (.bool (bs.getD i false))) := by
 obtain ⟨ao', cap', hv, _, hc⟩ := h
 simp only [Qb, Value.slice.injEq] at hv hc
 obtain ⟨rfl, hl, rfl⟩ := hv
 refine ⟨hl, fun hp => ?_⟩
 obtain ⟨b, off, ha, hcell⟩ := hc (by omega)
 refine ⟨b, off, ha, fun i hi => ?_⟩
 have := hcell i (by omega)
 rw [this, Qh, Qn, Qh, Qe (show i < bs.length by omega)]
 rfl
theorem zDc (v : Value) (bs : List Bool) (w : World) (hr : Rd w v (bs.map boolv)) (hbig : bs.length <= 17592186044416) :
  Calls Tryz.prog 81 #[v] w fun e w' => e = .returned (.int .i64 (countB bs : Nat)) ∧ w = w' := by
 have hr2 := hr
 obtain ⟨ao, cap, hv, hcap, _⟩ := hr2
 rw [Qb] at hv
 subst hv
 obtain ⟨len, hlen⟩ : ∃ len, len = bs.length := ⟨_, rfl⟩
 rw [<- hlen] at hr hbig ⊢
 have HL := hid hlen
 have HC := hid (zE6 hr).2
 clear hr hcap hlen
 go_enter Tryz.func81, Tryz.ntmps81
 go_wp2_with fail
 go_loop [3, 8] (fun n i => ∃ k : Nat, k <= len ∧ i = .int .i64 (k : Int) ∧ n = .int .i64 (countB (bs.take k) : Nat)) (fun _ i => len - (intOf i).toNat)
 case atStart => exact ⟨0, Qj _, rfl, rfl⟩
 case round =>
  obtain ⟨k, hk, rfl, rfl⟩ := hrel
  obtain ⟨c, hc⟩ : ∃ c, c = countB (bs.take k) := ⟨_, rfl⟩
  have hcl : c <= len := by rw [hc, HL.out]; have := countB_le (bs.take k); rw [Qi] at this; omega
  rw [<- hc]
  have HCC := hid hc
  clear hc
  by_cases hlt : k < len
  ·obtain ⟨b, off, rfl, hcell⟩ := HC.out (by omega)
   have hx := hcell k hlt
   obtain ⟨x, hxe⟩ : ∃ x, x = bs.getD k false := ⟨_, rfl⟩
   rw [<- hxe] at hx
   have hget : bs[k]? = some x := by
    rw [hxe, Qh, Qe (by rw [<- HL.out]; exact hlt)]; rfl
   have HT := hid (zMk bs k x hget)
   clear hxe hcell hget HC
   cases x
   ·go_wp2_with fail
    go_round
    case rel => exact ⟨k + 1, by omega, by go_num, by rw [HT.out, HCC.out]; rfl⟩
    case measure => simp [intOf]; omega
   ·go_wp2_with fail
    go_round
    case rel => exact ⟨k + 1, by omega, by go_num, by rw [HT.out, <- HCC.out]; simp⟩
    case measure => simp [intOf]; omega
  ·obtain rfl : k = len := by omega
   go_wp2_with fail
   go_ret
   rw [HCC.out, HL.out, Qo]
   exact ⟨rfl, rfl⟩
theorem zIp : (Tryz.prog.info? 4).map (fun i => (i.zero, i.size, i.bytes)) = some (some (.bool false), 1, 1) := by kernel_rfl
theorem zNx (n : Nat) : (madeCells (Value.bool false).cells (n * 1)).toList = (Qa n false).map boolv := by
 simp [madeCells, Value.cells, boolv, Qz]
 rw [List.eq_replicate_iff]
 refine ⟨by simp, fun b hb => ?_⟩
 simp only [Qu, List.mem_range] at hb
 obtain ⟨j, _, rfl⟩ := hb
 rw [Nat.mod_one]; rfl
def setTo {α : Type} (xs zs : List α) (k : Nat) : List α := xs.take k ++ zs.drop k
theorem zGb {α : Type} (xs zs : List α) (k : Nat) (x : α) (hx : xs[k]? = some x) (hz : k < zs.length) : (setTo xs zs k).set k x = setTo xs zs (k + 1) := by
 have hk : k < xs.length := (Ja.1 hx).1
 unfold setTo
 rw [List.set_append_right _ _ (by rw [Qi]; omega), Qi, Nat.min_eq_left (by omega), Nat.sub_self, Qm, hx]
 rw [Jb hz, List.set_cons_zero]
 simp
theorem zNy {α : Type} (xs zs : List α) (k : Nat) (x : α) (hx : xs[k]? = some x) (hz : zs[k]? = some x) : setTo xs zs (k + 1) = setTo xs zs k := by
 have hk : k < zs.length := (Ja.1 hz).1
 unfold setTo
 rw [Qm, hx, Jb hk]
 rw [Qe hk] at hz
 simp only [Option.some.injEq] at hz
 rw [hz]
 simp
theorem zEr {α : Type} (xs zs : List α) (k : Nat) (h : xs.length = zs.length) (hk : k <= xs.length) : (setTo xs zs k).length = xs.length := by
 unfold setTo; rw [Qy, Qi, Qp]; omega
theorem zMm (v : Value) (bs : List Bool) (w : World) (hr : Rd w v (bs.map boolv)) (hbig : bs.length <= 65535) :
  Calls Tryz.prog 98 #[v] w (RetOwn w.heap.size 105 ((bitsN bs).map u64v) w) := by
 have hr2 := hr
 obtain ⟨ao, cap, hv, hcap, _⟩ := hr2
 rw [Qb] at hv
 subst hv
 obtain ⟨len, hlen⟩ : ∃ len, len = bs.length := ⟨_, rfl⟩
 rw [<- hlen] at hr hbig ⊢
 have HL := hid hlen
 have HC := hid (zE6 hr).2
 clear hr hcap hlen
 obtain ⟨i0, hi, hz0, hz1, hz2⟩ := info_parts zOz
 go_enter Tryz.func98, Tryz.ntmps98
 go_wp2_with (at_make; refine wpList_make_full _ rfl _ _ 159 rfl w.heap.size 105 i0 (.int .u64 0) 1 Tryz.underlying159 hi hz0 hz1 .i64 .i64 _ _ len rfl rfl rfl rfl (by rw [hz2]; omega) (by unfold maxLen; omega) (Qc _) ?_; intro w1 hown1 hgrow1)
 clear hi hz0 hz1 hz2
 have hown2 : w1.ownsRow w.heap.size 105 1 (.slice (some ⟨w.heap.size, 0, none⟩) len len) len ((setTo (bitsN bs) (Qa len 0) 0).map u64v) := by
  have : setTo (bitsN bs) (Qa len 0) 0 = Qa len 0 := by simp [setTo]
  rw [this, <- zO0]; exact hown1
 have HO := hid hown2
 have HB1 := hid (show Below w.heap.size w w1 from (Qd _ w).grown hgrow1 (Qc _) (fun k e => by cases e))
 clear hown1 hgrow1 hown2
 go_loopw [11] (fun i wr => ∃ k : Nat, k <= len ∧ i = .int .i64 (k : Int) ∧ wr.ownsRow w.heap.size 105 1 (.slice (some ⟨w.heap.size, 0, none⟩) len len) len ((setTo (bitsN bs) (Qa len 0) k).map u64v) ∧ Below w.heap.size w wr) (fun i _ => len - (intOf i).toNat)
 case atStart => exact ⟨0, Qj _, rfl, HO.out, HB1.out⟩
 case round =>
  obtain ⟨k, hk, rfl, hown, hbel⟩ := hrel
  have HB := hid hbel
  have HW := hid hown
  clear hbel hown HO HB1
  have hbl : (bitsN bs).length = len := by unfold bitsN; rw [Qb, HL.out]
  have HBL := hid hbl
  by_cases hlt : k < len
  ·obtain ⟨b, off, rfl, hcell⟩ := HC.out (by omega)
   have hx0 := hcell k hlt
   have hx := (HB.out.cell (p := ⟨b, off + k, none⟩) (World.block_lt_of_cell? _ _ hx0)).trans hx0
   obtain ⟨x, hxe⟩ : ∃ x, x = bs.getD k false := ⟨_, rfl⟩
   rw [<- hxe] at hx
   have hget : bs[k]? = some x := by
    rw [hxe, Qh, Qe (by rw [<- HL.out]; exact hlt)]; rfl
   have hgb : (bitsN bs)[k]? = some x.toNat := by unfold bitsN; rw [Qn, hget]; rfl
   have HG := hid hgb
   have hfz := HW.out.frozenAt k
   obtain ⟨y, hy⟩ : ∃ y, wr.cell? ⟨w.heap.size, k, none⟩ = some y := by
    have hcx := HW.out.cellAt k (by omega)
    rw [hcx, Qe (by rw [Qb, zEr _ _ _ (by rw [hbl, Qg]) (by omega), hbl]; exact hlt)]; exact ⟨_, rfl⟩
   clear hxe hcell hget HC hx0 hbl hgb
   cases x
   ·go_wp2_with fail
    go_roundw
    case rel =>
     refine ⟨k + 1, by omega, by go_num, ?_, HB.out⟩
     rw [zNy _ _ k 0 HG.out (by rw [Jc, if_pos hlt])]
     exact HW.out
    case measure => simp [intOf]; omega
   ·go_wp2_with fail
    go_roundw
    case rel =>
     refine ⟨k + 1, by omega, by go_num, ?_, ?_⟩
     ·rw [<- zGb _ _ k 1 HG.out (by rw [Qg]; exact hlt), Qq]
      exact (HW.out.stored k (u64v 1)).1
     ·exact HB.out.trans ((Qd _ _).setCell (p := ⟨w.heap.size, k, none⟩) (Qc _) _)
    case measure => simp [intOf]; omega
  ·obtain rfl : k = len := by omega
   have hst : setTo (bitsN bs) (Qa k 0) k = bitsN bs := by unfold setTo; rw [Qk (by simp), Qr, <- hbl, Qo]
   clear hbl
   go_wp2_with fail
   go_ret
   have hKl : k = ((bitsN bs).map u64v).length := by rw [Qb, HBL.out]
   refine ⟨some ⟨w.heap.size, 0, none⟩, k, ?_, ?_, HB.out⟩
   ·show Ending.returned (Value.slice (some ⟨w.heap.size, 0, none⟩) k k) = _
    rw [<- hKl]
   ·rw [<- hKl, <- hst]; exact HW.out
theorem zLb (C : Nat) (w : World) (hbig : C <= 65535) :
  Calls Tryz.prog 105 #[.int .i64 (C : Int)] w (RetOwn w.heap.size 4 ((Qa C true).map boolv) w) := by
 obtain ⟨i0, hi, hz0, hz1, hz2⟩ := info_parts zIp
 go_enter Tryz.func105, Tryz.ntmps105
 go_wp2_with (at_make; refine wpList_make_full _ rfl _ _ 129 rfl w.heap.size 4 i0 (.bool false) 1 Tryz.underlying129 hi hz0 hz1 .i64 .i64 _ _ C rfl rfl rfl rfl (by rw [hz2]; omega) (by unfold maxLen; omega) (Qc _) ?_; intro w1 hown1 hgrow1)
 clear hi hz0 hz1 hz2
 have hown2 : w1.ownsRow w.heap.size 4 1 (.slice (some ⟨w.heap.size, 0, none⟩) C C) C ((setTo (Qa C true) (Qa C false) 0).map boolv) := by
  have : setTo (Qa C true) (Qa C false) 0 = Qa C false := by simp [setTo]
  rw [this, <- zNx]; exact hown1
 have HO := hid hown2
 have HB1 := hid (show Below w.heap.size w w1 from (Qd _ w).grown hgrow1 (Qc _) (fun k e => by cases e))
 clear hown1 hgrow1 hown2
 go_loopw [9] (fun i wr => ∃ k : Nat, k <= C ∧ i = .int .i64 (k : Int) ∧ wr.ownsRow w.heap.size 4 1 (.slice (some ⟨w.heap.size, 0, none⟩) C C) C ((setTo (Qa C true) (Qa C false) k).map boolv) ∧ Below w.heap.size w wr) (fun i _ => C - (intOf i).toNat)
 case atStart => exact ⟨0, Qj _, rfl, HO.out, HB1.out⟩
 case round =>
  obtain ⟨k, hk, rfl, hown, hbel⟩ := hrel
  have HB := hid hbel
  have HW := hid hown
  clear hbel hown HO HB1
  by_cases hlt : k < C
  ·have hfz := HW.out.frozenAt k
   obtain ⟨y, hy⟩ : ∃ y, wr.cell? ⟨w.heap.size, k, none⟩ = some y := by
    have hcx := HW.out.cellAt k (by omega)
    rw [hcx, Qe (by rw [Qb, zEr _ _ _ (by simp) (by simp; omega), Qg]; exact hlt)]; exact ⟨_, rfl⟩
   go_wp2_with fail
   go_roundw
   case rel =>
    refine ⟨k + 1, by omega, by go_num, ?_, ?_⟩
    ·rw [<- zGb _ _ k true (by rw [Jc, if_pos hlt]) (by rw [Qg]; exact hlt), Qq]
     exact (HW.out.stored k (boolv true)).1
    ·exact HB.out.trans ((Qd _ _).setCell (p := ⟨w.heap.size, k, none⟩) (Qc _) _)
   case measure => simp [intOf]; omega
  ·obtain rfl : k = C := by omega
   have hst : setTo (Qa k true) (Qa k false) k = Qa k true := by unfold setTo; rw [Qk (by simp), Qr, List.take_of_length_le (by simp)]
   go_wp2_with fail
   go_ret
   have hKl : k = ((Qa k true).map boolv).length := by simp
   refine ⟨some ⟨w.heap.size, 0, none⟩, k, ?_, ?_, HB.out⟩
   ·show Ending.returned (Value.slice (some ⟨w.heap.size, 0, none⟩) k k) = _
    rw [<- hKl]
   ·have h := HW.out
    rw [hst] at h
    rw [<- hKl]; exact h
theorem zI6 {B : Nat} {E : TypeId} {xs : List Value} {v : Value} {n : Nat} {w w3 : World} (h : w3.ownsRow B E 1 v n xs) (hb : Below w.heap.size w w3) : RetOwn B E xs w (.returned v) w3 := by
 have hl : xs.length = n := by simpa using h.1
 subst hl
 obtain ⟨ao', cap', hv⟩ := zB2 h
 subst hv
 exact ⟨ao', cap', rfl, h, hb⟩
theorem zE7 {w a b : World} {E : TypeId} {v : Value} {n : Nat} {xs : List Value} (hB : Below w.heap.size w a) (HO : a.ownsRow w.heap.size E 1 v n xs) (hg : a.grownBy b v.ownBlock) : Below w.heap.size w b :=
 hB.grown hg hB.size (by
  intro k hk
  rcases HO.2 with ⟨h, _⟩ | ⟨g', cap', cur, h, hbg, _⟩
  ·rw [h] at hk; cases hk
  ·rw [h] at hk; cases hk; exact hbg)
theorem own_below {a b : World} {B : Nat} {E : TypeId} {v : Value} {n : Nat} {xs : List Value} (h : a.ownsRow B E 1 v n xs) (hb : Below a.heap.size a b) : b.ownsRow B E 1 v n xs :=
 h.kept (zAb hb none) (by
  cases h : v.ownBlock with
  | none => exact .inl rfl
  | some g => exact .inr (by intro h2; cases h2))
theorem zIq (v : Value) (bs : List Bool) (w : World) (hr : Rd w v (bs.map boolv)) (hbig : bs.length <= 65535) :
  Calls Tryz.prog 72 #[v] w (RetOwn w.heap.size 5 ((encN bs).map u8v) w) := by
 have hr2 := hr
 obtain ⟨ao, cap, hv, hcap, _⟩ := hr2
 rw [Qb] at hv
 subst hv
 obtain ⟨len, hlen⟩ : ∃ len, len = bs.length := ⟨_, rfl⟩
 rw [<- hlen] at hr hbig ⊢
 have HL := hid hlen
 have HR := hid hr
 have HBL := hid (show bs.length <= 65535 by omega)
 clear hr hcap hlen
 obtain ⟨c, hc⟩ : ∃ c, c = countB bs := ⟨_, rfl⟩
 have hcl : c <= len := by rw [hc, HL.out]; exact countB_le bs
 have HC := hid hc
 have hn10 := hid (zH1 len)
 obtain ⟨i0, hi, hz0, hz1, hz2⟩ := info_parts zHl
 clear hc
 go_enter Tryz.func72, Tryz.ntmps72
 go_wp2_with fail
 refine (zEj _ [] len _ (Rd.nil _) (by simp) (by omega)).mono ?_
 rintro e w1 ⟨ao1, cap1, rfl, hown, hb⟩
 rw [List.nil_append] at hown ⊢
 have hML : ((numC len).map u8v).length = (numC len).length := by rw [Qb]
 rw [hML] at hown ⊢
 obtain ⟨n, hn⟩ : ∃ n, n = (numC len).length := ⟨_, rfl⟩
 have hn11 : n <= 10 := by rw [hn]; exact hn10.out.1
 rw [<- hn] at hown ⊢
 have HN := hid hn
 have HO := hid hown
 have HB := hid hb
 have HR1 := hid (HR.out.kept hb)
 clear hown hb hML hn
 go_wp2_with fail
 refine (zDc _ bs _ HR1.out (by have := HBL.out; omega)).mono ?_
 rw [<- HC.out]
 rintro e w2 ⟨rfl, rfl⟩
 have HOA := hid (fun o => HO.out.alloc o)
 have hsz := fun (x : Value) (E : TypeId) => hid (show w.heap.size <= (w1.alloc (.cells #[x] E)).heap.size by simp; have := HB.out.size; omega)
 by_cases h0 : c = 0
 ·subst h0
  have H2 := hid (one_cell w1 (u8v 0) 5)
  have H3 := hid (zAq [0])
  go_wp2_with (at_builtin; go_must (refine wpList_append_own _ rfl _ _ 29 rfl w.heap.size 5 i0 (.int .u8 0) 1 1 Tryz.underlying29 hi hz0 hz1 hz2 rfl (by decide) _ _ _ rfl (HOA.out _) ⟨w1.heap.size, 0, none⟩ 1 1 [u8v 0] rfl rfl H2.out H3.out (by unfold maxLen; omega) (by omega) (hsz _ _).out ?_); intro v' w3 hown' hgrow _)
  have HO' := hid hown'
  have HG' := hid hgrow
  clear hown' hgrow
  go_wp2
  go_ret
  refine zI6 (n := n + 1) (v := v') (E := 5) (B := w.heap.size) ?_ (zE7 (HB.out.alloc HB.out.size _) (HOA.out _) HG'.out)
  have he : encN bs = numC len ++ [0] := by unfold encN; rw [<- HL.out, <- HC.out, if_pos rfl]
  rw [he, Ql]
  exact HO'.out
 ·have h0i : ((c : Int) == 0) = false := by rw [beq_eq_false_iff_ne]; omega
  by_cases h1 : c = len
  ·have H2 := hid (one_cell w1 (u8v 1) 5)
   have H3 := hid (zAq [1])
   have he : encN bs = numC len ++ [1] := by unfold encN; rw [<- HL.out, <- HC.out, if_neg h0, if_pos h1]
   have HE := hid he
   have h1i : ((c : Int) == (len : Int)) = true := by rw [beq_iff_eq]; omega
   clear he
   go_wp2_with (at_builtin; go_must (refine wpList_append_own _ rfl _ _ 29 rfl w.heap.size 5 i0 (.int .u8 0) 1 1 Tryz.underlying29 hi hz0 hz1 hz2 rfl (by decide) _ _ _ rfl (HOA.out _) ⟨w1.heap.size, 0, none⟩ 1 1 [u8v 1] rfl rfl H2.out H3.out (by unfold maxLen; omega) (by omega) (hsz _ _).out ?_); intro v' w3 hown' hgrow _)
   have HO' := hid hown'
   have HG' := hid hgrow
   clear hown' hgrow
   go_wp2
   go_ret
   refine zI6 (n := n + 1) (v := v') (E := 5) (B := w.heap.size) ?_ (zE7 (HB.out.alloc HB.out.size _) (HOA.out _) HG'.out)
   rw [HE.out, Ql]
   exact HO'.out
  ·have h1i : ((c : Int) == (len : Int)) = false := by rw [beq_eq_false_iff_ne]; omega
   have H2 := hid (one_cell w1 (u8v 2) 5)
   have H3 := hid (zAq [2])
   have he : encN bs = (numC len ++ [2]) ++ packB (heldN 1) (bitsN bs) := by unfold encN; rw [<- HL.out, <- HC.out, if_neg h0, if_neg h1, show heldN 1 = 1 from by decide]; simp
   have HE := hid he
   clear he
   go_wp2_with (at_builtin; go_must (refine wpList_append_own _ rfl _ _ 29 rfl w.heap.size 5 i0 (.int .u8 0) 1 1 Tryz.underlying29 hi hz0 hz1 hz2 rfl (by decide) _ _ _ rfl (HOA.out _) ⟨w1.heap.size, 0, none⟩ 1 1 [u8v 2] rfl rfl H2.out H3.out (by unfold maxLen; omega) (by omega) (hsz _ _).out ?_); intro v' w3 hown' hgrow _)
   have HB3 := hid (zE7 (HB.out.alloc HB.out.size _) (HOA.out _) hgrow)
   obtain ⟨ao2, cap2, hv⟩ := zB2 hown'
   subst hv
   have HO' := hid hown'
   clear hown' hgrow HOA H2
   refine (zMm _ bs _ (HR.out.kept HB3.out) HBL.out).mono ?_
   rintro e w4 ⟨ao4, cap4, rfl, hown, hb⟩
   have hbn : ((bitsN bs).map u64v).length = len := by unfold bitsN; rw [Qb, Qb, HL.out]
   have HR4 := hid (zEb hown)
   rw [hbn]
   have hbn2 : (bitsN bs).length = len := by unfold bitsN; rw [Qb, HL.out]
   rw [hbn2] at HR4
   have HO4 := hid (own_below HO'.out hb)
   have HB4 := hid (zAa HB3.out hb)
   have HBN := hid hbn2
   clear hown hb hbn hbn2 HO' HB3
   go_wp2_with fail
   refine (zQo (us := bitsN bs) HR4.out (fun x hx => Nat.lt_trans (zLa bs x hx) (by decide)) (by rw [HBN.out]; omega) rfl).mono ?_
   rintro e w5 ⟨ao5, cap5, rfl, hown, hb⟩
   have hpl : ((packB (heldN 1) (bitsN bs)).map u8v).length = (len + 7) / 8 := by rw [Qb, zAy, HBN.out, show heldN 1 = 1 from by decide, Qx]
   obtain ⟨q, hq⟩ : ∃ q, q = (len + 7) / 8 := ⟨_, rfl⟩
   have hq0 : 0 < q := by omega
   have hq1 : q <= 8192 := by omega
   rw [hpl, <- hq]
   have HR5 := hid (zEb hown)
   have HO5 := hid (own_below HO4.out hb)
   have HB5 := hid (zAa HB4.out hb)
   rw [Qb] at hpl
   rw [hpl, <- hq] at HR5
   have HPL := hid (hpl.trans hq.symm)
   clear hown hb hpl hq HO4 HB4 HR4
   obtain ⟨o5, off5, rfl, _⟩ := (zA0 HR5.out).2 hq0
   have H5 := hid (zFt HR5.out)
   have H6 := hid (show ((packB (heldN 1) (bitsN bs)).map u8v).length = q * 1 by rw [Qb, HPL.out, Qz])
   have H7 := hid (zAq (packB (heldN 1) (bitsN bs)))
   have hs5 := hid HB5.out.size
   go_wp2_with (at_builtin; go_must (refine wpList_append_own _ rfl _ _ 29 rfl w.heap.size 5 i0 (.int .u8 0) 1 1 Tryz.underlying29 hi hz0 hz1 hz2 rfl (by decide) _ _ _ rfl HO5.out ⟨o5, off5, none⟩ q cap5 _ rfl H6.out H5.out H7.out (by unfold maxLen; omega) (by omega) hs5.out ?_); intro v' w6 hown' hgrow _)
   have HO' := hid hown'
   have HG' := hid hgrow
   clear hown' hgrow
   go_wp2
   go_ret
   refine zI6 (n := n + 1 + q) (v := v') (E := 5) (B := w.heap.size) ?_ (zE7 HB5.out HO5.out HG'.out)
   rw [HE.out, Ql, Ql]
   exact HO'.out
def RetDec (o : Option (List Bool × List Nat)) (w : World) (e : Ending) (w' : World) : Prop :=
 (o = none ∧ e = .returned (.tuple #[.slice none 0 0, .slice none 0 0, .bool false]) ∧ Below w.heap.size w w') ∨
 ∃ l r ao len cap ao2 len2 cap2, o = some (l, r) ∧ e = .returned (.tuple #[.slice ao len cap, .slice ao2 len2 cap2, .bool true]) ∧ Rd w' (.slice ao len cap) (l.map boolv) ∧ Rd w' (.slice ao2 len2 cap2) (r.map u8v) ∧ Below w.heap.size w w'
theorem zJp {w : World} {ao : Option Addr} {len cap q : Nat} {xs : List Value} (h : Rd w (.slice ao len cap) xs) (hq : q <= len) :
  Rd w (.slice (if cap = q then ao else Qs (fun x => x.add q) ao) (len - q) (cap - q)) (xs.drop q) := by
 have hcl := zBr h
 by_cases hc : cap = q
 ·rw [if_pos hc]
  have hl : len = q := by omega
  obtain ⟨ao', cap', hv, _, _⟩ := h
  simp only [Value.slice.injEq] at hv
  have hd : xs.drop q = [] := Qk (by omega)
  rw [hd, show len - q = 0 by omega, show cap - q = 0 by omega]
  exact ⟨ao, 0, rfl, ⟨fun _ => rfl, by simp⟩, fun hp => by simp at hp⟩
 ·rw [if_neg hc]
  have h' := h
  obtain ⟨ao', cap', hv, hcap, hcell⟩ := h
  simp only [Value.slice.injEq] at hv
  obtain ⟨rfl, hl, rfl⟩ := hv
  rcases ao with _ | a
  ·have := hcap.1 rfl; omega
  ·have hl2 : (xs.drop q).length = len - q := by rw [Qp, hl]
   refine ⟨_, _, by rw [hl2], ⟨(fun h => by cases h), by rw [hl2]; omega⟩, fun hp => ?_⟩
   rw [hl2] at hp
   obtain ⟨b, off, ha, _⟩ := hcell (by omega)
   cases ha
   have h2 := zCe h' hq
   obtain ⟨a2, c2, hv2, _, hc2⟩ := h2
   simp only [Value.slice.injEq] at hv2
   obtain ⟨rfl, _, _⟩ := hv2
   obtain ⟨b2, off2, ha2, hc3⟩ := hc2 (by rw [hl2]; exact hp)
   cases ha2
   exact ⟨b, off + q, by simp [Addr.add], hc3⟩
theorem zLc {w : World} {v : Value} {xs : List Value} (h : Rd w v xs) (k : Nat) : Rd (w.drewN k) v xs := h
theorem zPf (v : Value) (bs : List Nat) (C : Nat) (w : World) (hr : Rd w v (bs.map u8v)) (h256 : ∀ x ∈ bs, x < 256) (hbig : bs.length <= 17592186044416) (hC : C <= 65535) :
  Calls Tryz.prog 106 #[v, .int .i64 (C : Int)] w (RetDec (decK C 2 bs) w) := by
 have hr2 := hr
 obtain ⟨ao, cap, hv, hcap, _⟩ := hr2
 rw [Qb] at hv
 subst hv
 obtain ⟨len, hlen⟩ : ∃ len, len = bs.length := ⟨_, rfl⟩
 rw [<- hlen] at hr ⊢
 have HL := hid hlen
 have HR := hid hr
 have HBIG := hid hbig
 obtain ⟨q, hq⟩ : ∃ q, q = (C + 7) / 8 := ⟨_, rfl⟩
 have hqi : ((C : Int) + 7).tdiv 8 = (q : Int) := by rw [Int.tdiv_eq_ediv_of_nonneg (by omega)]; omega
 have hq1 : q <= 8192 := by omega
 have HQ := hid hq
 clear hr hlen hbig hcap hq
 by_cases hlq : len < q
 ·have hlq' : decide ((len : Int) < (q : Int)) = true := by simp; omega
  go_enter Tryz.func106, Tryz.ntmps106
  go_wp2_with fail
  go_ret3
  exact .inl ⟨zNw C bs (by rw [<- HL.out, <- HQ.out]; exact hlq), rfl, Qd _ _⟩
 ·have hlq' : decide ((len : Int) < (q : Int)) = false := by simp; omega
  have HQB := hid (show (C + 7) / 8 <= bs.length by rw [<- HL.out, <- HQ.out]; omega)
  have HT := hid (show Rd w (.slice ao q cap) ((bs.take q).map u8v) by rw [List.map_take]; exact zHk HR.out (by omega))
  have HT256 := hid (show ∀ x ∈ bs.take q, x < 256 from fun x hx => h256 x (List.mem_of_mem_take hx))
  have HTL := hid (show (bs.take q).length <= 17592186044416 by have := HBIG.out; rw [Qi]; omega)
  have hcq : q <= cap := by have := zBr HR.out; omega
  clear h256
  rcases hu : unpackB (bs.take q) 1 (C : Int) with _ | us
  ·have HU := hid hu
   clear hu
   go_enter Tryz.func106, Tryz.ntmps106
   go_wp2_with fail
   refine (zKf HT.out HT256.out HTL.out HU.out).mono ?_
   rintro e w2 ⟨rfl, hb⟩
   have HB := hid hb
   clear hb
   go_wp2_with fail
   go_ret3
   exact .inl ⟨zPd C bs HQB.out (by rw [<- HQ.out]; exact HU.out), rfl, HB.out⟩
  ·have hul : us.length = C := by
    unfold unpackB at hu
    split at hu
    ·simp only [Option.some.injEq] at hu
     rw [<- hu]; simp
    ·cases hu
   have HU := hid hu
   have HUL := hid hul
   have HDK := hid (zPe C bs us HQB.out (by rw [<- HQ.out]; exact hu))
   clear hu hul
   obtain ⟨i0, hi, hz0, hz1, hz2⟩ := info_parts zIp
   go_enter Tryz.func106, Tryz.ntmps106
   go_wp2_with fail
   refine (zNm HT.out HT256.out HTL.out (by omega) HU.out).mono ?_
   rintro e w2 ⟨ao2, cap2, rfl, hown, hb⟩
   have HR2 := hid (zEb hown)
   rw [HUL.out] at HR2
   simp only [Qb, HUL.out]
   have HB := hid hb
   clear hown hb
   go_wp2_with (at_make; refine wpList_make_full _ rfl _ _ 129 rfl w.heap.size 4 i0 (.bool false) 1 Tryz.underlying129 hi hz0 hz1 .i64 .i64 _ _ C rfl rfl rfl rfl (by rw [hz2]; omega) (by unfold maxLen; omega) HB.out.size ?_; intro w3 hown1 hgrow1)
   clear hi hz0 hz1 hz2
   obtain ⟨xs, hxs⟩ : ∃ xs, xs = us.map (· == 1) := ⟨_, rfl⟩
   have hxl : xs.length = C := by rw [hxs, Qb, HUL.out]
   have HXL := hid hxl
   have HXS := hid hxs
   rw [<- hxs] at HDK
   clear hxs hxl
   have hown2 : w3.ownsRow w.heap.size 4 1 (.slice (some ⟨w2.heap.size, 0, none⟩) C C) C ((setTo xs (Qa C false) 0).map boolv) := by
    have : setTo xs (Qa C false) 0 = Qa C false := by simp [setTo]
    rw [this, <- zNx]; exact hown1
   have HO := hid hown2
   have HB3 := hid (HB.out.grown hgrow1 HB.out.size (fun k e => by cases e))
   have hb23 : Below w2.heap.size w2 w3 := (Qd _ w2).grown hgrow1 (Qc _) (fun k e => by cases e)
   have HB23 := hid hb23
   clear hown1 hgrow1 hown2 hb23
   go_loopw [35] (fun i wr => ∃ k : Nat, k <= C ∧ i = .int .i64 (k : Int) ∧ wr.ownsRow w.heap.size 4 1 (.slice (some ⟨w2.heap.size, 0, none⟩) C C) C ((setTo xs (Qa C false) k).map boolv) ∧ Below w2.heap.size w2 wr) (fun i _ => C - (intOf i).toNat)
   case atStart => exact ⟨0, Qj _, rfl, HO.out, HB23.out⟩
   case round =>
    obtain ⟨k, hk, rfl, hown, hbel⟩ := hrel
    have HBW := hid hbel
    have HW := hid hown
    clear hbel hown HO HB23
    by_cases hlt : k < C
    ·obtain ⟨o, off, rfl, hcell⟩ := (zBq (HR2.out.kept HBW.out)).2 (by omega)
     have hx := hcell k hlt
     obtain ⟨x, hxe⟩ : ∃ x, x = us.getD k 0 := ⟨_, rfl⟩
     rw [<- hxe] at hx
     have hget : xs[k]? = some (x == 1) := by
      rw [HXS.out, Qn, hxe, Qh, Qe (by rw [HUL.out]; exact hlt)]; rfl
     have HG := hid hget
     have hfz := HW.out.frozenAt k
     obtain ⟨y, hy⟩ : ∃ y, wr.cell? ⟨w2.heap.size, k, none⟩ = some y := by
      have hcx := HW.out.cellAt k (by omega)
      rw [hcx, Qe (by rw [Qb, zEr _ _ _ (by rw [HXL.out, Qg]) (by rw [HXL.out]; exact hk), HXL.out]; exact hlt)]; exact ⟨_, rfl⟩
     clear hxe hcell hget
     have hstep : ∀ b : Bool, (x == 1) = b -> (wr.setCell ⟨w2.heap.size, k, none⟩ (.bool b)).ownsRow w.heap.size 4 1 (.slice (some ⟨w2.heap.size, 0, none⟩) C C) C ((setTo xs (Qa C false) (k + 1)).map boolv) := by
      intro b hb
      have h2 := HG.out
      rw [hb] at h2
      rw [<- zGb _ _ k b h2 (by rw [Qg]; exact hlt), Qq]
      exact (HW.out.stored k (boolv b)).1
     have HST := hid hstep
     clear hstep
     by_cases hx1 : x = 1
     ·subst hx1
      go_wp2_with fail
      go_roundw
      case rel => exact ⟨k + 1, by omega, by go_num, HST.out true rfl, HBW.out.trans ((Qd _ _).setCell (p := ⟨w2.heap.size, k, none⟩) (Qc _) _)⟩
      case measure => simp [intOf]; omega
     ·have hx1' : ((x : Int) == 1) = false := by rw [beq_eq_false_iff_ne]; omega
      have hx2 : (x == 1) = false := by rw [beq_eq_false_iff_ne]; exact hx1
      go_wp2_with fail
      go_roundw
      case rel => exact ⟨k + 1, by omega, by go_num, HST.out false hx2, HBW.out.trans ((Qd _ _).setCell (p := ⟨w2.heap.size, k, none⟩) (Qc _) _)⟩
      case measure => simp [intOf]; omega
    ·obtain rfl : k = C := by omega
     have hst : setTo xs (Qa k false) k = xs := by unfold setTo; rw [Qk (by simp), Qr, <- HXL.out, Qo]
     rw [hst] at HW
     have hrx : Rd wr (.slice (some ⟨w2.heap.size, 0, none⟩) k k) (xs.map boolv) := Rd.of_owns HW.out
     have HRX := hid hrx
     obtain ⟨c, hc⟩ : ∃ c, c = countB xs := ⟨_, rfl⟩
     have HCC := hid hc
     have HBB := hid (zAa HB.out HBW.out)
     clear hst hrx hc
     go_wp2_with fail
     refine (zDc _ xs _ HRX.out (by rw [HXL.out]; omega)).mono ?_
     rw [<- HCC.out]
     rintro e w5 ⟨rfl, rfl⟩
     rw [<- HCC.out] at HDK
     by_cases h0 : c = 0
     ·subst h0
      go_wp2_with fail
      go_ret3
      exact .inl ⟨by rw [HDK.out]; simp, rfl, HBB.out⟩
     ·have h0i : ((c : Int) == 0) = false := by rw [beq_eq_false_iff_ne]; omega
      by_cases h1 : c = k
      ·subst h1
       go_wp2_with fail
       go_ret3
       exact .inl ⟨by rw [HDK.out]; simp, rfl, HBB.out⟩
      ·have h1i : ((c : Int) == (k : Int)) = false := by rw [beq_eq_false_iff_ne]; omega
       go_wp2_with fail
       have hrb := zJp (HR.out.kept HBB.out) (show q <= len by omega)
       go_quiet (fail)
       obtain ⟨aq, haq⟩ : ∃ aq, aq = (if cap = q then ao else Qs (fun x => x.add q) ao) := ⟨_, rfl⟩
       rw [<- haq] at hrb ⊢
       rw [<- List.map_drop] at hrb
       have HRB := hid hrb
       clear haq hrb
       go_wp2_with fail
       go_ret3
       refine .inr ⟨xs, bs.drop q, _, _, _, _, _, _, ?_, rfl, zLc HRX.out _, zLc HRB.out _, below_draws HBB.out _⟩
       rw [HDK.out, if_neg (by omega), HQ.out]
theorem zHw : ∀ (l : List Nat) (i U u n : Nat), nextF i U l = some (u, n) -> i < n ∧ n <= i + l.length
 | [], i, U, u, n, h => by rw [nextF] at h; cases h
 | c :: l, i, U, u, n, h => by
  rw [nextF] at h
  split at h
  ·cases h
  ·split at h
   ·have := zHw l _ _ u n h
    rw [Qf]; omega
   ·split at h
    ·cases h
    ·simp only [Option.some.injEq, Prod.mk.injEq] at h
     rw [Qf]; omega
theorem zDx (l : List Nat) (u n : Nat) (h : nextC l = some (u, n)) : 0 < n ∧ n <= l.length := by
 have := zHw l 0 0 u n h
 omega
theorem zPg (b : List Nat) (h : nextC b = none) : decN b = none := by unfold decN; rw [h]
theorem zPh (b : List Nat) (n k : Nat) (h : nextC b = some (n, k)) (hn : 65535 < n) : decN b = none := by unfold decN; rw [h]; simp only; rw [if_pos hn]
theorem zQt (b : List Nat) (n k : Nat) (h : nextC b = some (n, k)) (hd : b.drop k = []) : decN b = none := by
 unfold decN; rw [h]; simp only; rw [hd]; simp
theorem zPi (b : List Nat) (n k kind : Nat) (rest : List Nat) (h : nextC b = some (n, k)) (hn : n <= 65535) (hd : b.drop k = kind :: rest) : decN b = decK n kind rest := by
 unfold decN; rw [h]; simp only; rw [if_neg (by omega), hd]
theorem zIr (v : Value) (bs : List Nat) (w : World) (hr : Rd w v (bs.map u8v)) (h256 : ∀ x ∈ bs, x < 256) (hbig : bs.length <= 17592186044416) :
  Calls Tryz.prog 76 #[v] w (RetDec (decN bs) w) := by
 have HR := hid hr
 have H256 := hid h256
 have HBIG := hid hbig
 clear hr h256 hbig
 rcases hn : nextC bs with _ | ⟨u, n⟩
 ·have HN := hid hn
  clear hn
  go_enter Tryz.func76, Tryz.ntmps76
  go_wp2_with fail
  refine (zDr _ bs _ HR.out (by have := HBIG.out; omega)).mono ?_
  rintro e w2 ⟨r, rfl, hr, hi, hb⟩
  have HI := hid hi
  have HB := hid hb
  have HRr := hid hr
  clear hr hi hb
  go_wp2_with fail
  refine (zI2 r bs false _ HI.out H256.out (by have := HBIG.out; omega) HN.out).mono ?_
  rintro e w3 ⟨rfl, hi, hg⟩
  have HI2 := hid hi
  have HB3 := hid (HB.out.grown hg HB.out.size (fun k e => by cases e; exact HRr.out))
  clear hi hg HI HB
  go_wp2_with fail
  refine (zCj r [] true _ HI2.out (by simp)).mono ?_
  rintro e w4 ⟨ao4, cap4, rfl, hown, hb⟩
  have HB4 := hid (zAa HB3.out hb)
  clear hown hb HB3 HI2
  simp only [List.map_nil, Jd]
  go_wp2_with fail
  go_ret3
  exact .inl ⟨zPg bs HN.out, rfl, HB4.out⟩
 ·obtain ⟨hn1, hn2⟩ := zDx bs u n hn
  have HN := hid hn
  clear hn
  obtain ⟨ds, hds⟩ : ∃ ds, ds = bs.drop n := ⟨_, rfl⟩
  have hdl : ds.length <= 17592186044416 := by have := HBIG.out; rw [hds, Qp]; omega
  have HDL := hid hdl
  have HDS := hid hds
  have HD256 := hid (show ∀ x ∈ ds, x < 256 from fun x hx => H256.out x (List.mem_of_mem_drop (hds ▸ hx)))
  clear hds hdl
  go_enter Tryz.func76, Tryz.ntmps76
  go_wp2_with fail
  refine (zDr _ bs _ HR.out (by have := HBIG.out; omega)).mono ?_
  rintro e w2 ⟨r, rfl, hr, hi, hb⟩
  have HI := hid hi
  have HB := hid hb
  have HRr := hid hr
  clear hr hi hb
  go_wp2_with fail
  refine (zKw r bs false _ HI.out H256.out (by have := HBIG.out; omega) u n HN.out hn1 hn2).mono ?_
  rw [<- HDS.out]
  rintro e w3 ⟨rfl, hi, hg⟩
  have HI2 := hid hi
  have HB3 := hid (HB.out.grown hg HB.out.size (fun k e => by cases e; exact HRr.out))
  clear hi hg HI HB hn1 hn2
  go_wp2_with fail
  refine (zCj r ds false _ HI2.out (by have := HDL.out; omega)).mono ?_
  rintro e w4 ⟨ao4, cap4, rfl, hown, hb⟩
  have HB4 := hid (zAa HB3.out hb)
  have hr4 : Rd w4 (.slice ao4 ds.length cap4) (ds.map u8v) := zEb hown
  clear hown hb HB3 HI2
  simp only [Qb]
  by_cases hu : 65535 < u
  ·have hu' : decide ((65535 : Int) < (u : Int)) = true := by simp; omega
   go_wp2_with fail
   go_ret3
   exact .inl ⟨zPh bs u n HN.out hu, rfl, HB4.out⟩
  ·have hu' : decide ((65535 : Int) < (u : Int)) = false := by simp; omega
   rcases ds with _ | ⟨kind, rest⟩
   ·simp only [Jd] at hr4 ⊢
    go_wp2_with fail
    go_ret3
    exact .inl ⟨zQt bs u n HN.out HDS.out.symm, rfl, HB4.out⟩
   ·have HDK := hid (zPi bs u n kind rest HN.out (by omega) HDS.out.symm)
    obtain ⟨len, hlen⟩ : ∃ len, len = (kind :: rest).length := ⟨_, rfl⟩
    rw [<- hlen] at hr4 ⊢
    have hl0 : 0 < len := by rw [hlen]; simp
    have hl0i : ((len : Int) == 0) = false := by rw [beq_eq_false_iff_ne]; omega
    have HR4 := hid hr4
    have HRT := hid (show Rd w4 (.slice (if cap4 = 1 then ao4 else Qs (fun x => x.add 1) ao4) (len - 1) (cap4 - 1)) (rest.map u8v) from zJp (q := 1) hr4 (by omega))
    have hcl := zBr hr4
    obtain ⟨o, off, rfl, hcell⟩ := (zA0 hr4).2 hl0
    have hx := hcell 0 hl0
    have hk256 : kind < 256 := HD256.out kind List.mem_cons_self
    simp only [List.getD_cons_zero, Nat.add_zero] at hx
    clear hcell hr4 hlen
    go_wp2_with fail
    go_quiet (fail)
    obtain ⟨aq, haq⟩ : ∃ aq, aq = (if cap4 = 1 then some (⟨o, off, none⟩ : Addr) else some ⟨o, off + 1, none⟩) := ⟨_, rfl⟩
    have hrt : Rd w4 (.slice aq (len - 1) (cap4 - 1)) (rest.map u8v) := by
     have h := HRT.out
     rw [haq]
     simpa [Addr.add] using h
    rw [<- haq]
    obtain ⟨m, hm⟩ : ∃ m, m = len - 1 := ⟨_, rfl⟩
    obtain ⟨c4, hc4⟩ : ∃ c4, c4 = cap4 - 1 := ⟨_, rfl⟩
    obtain ⟨w5, hw5⟩ : ∃ w5, w5 = w4.drewN nq := ⟨_, rfl⟩
    have hrt5 : Rd w5 (.slice aq m c4) (rest.map u8v) := by rw [hm, hc4, hw5]; exact hrt
    have hb5 : Below w.heap.size w w5 := by rw [hw5]; exact below_draws HB4.out _
    rw [<- hm, <- hc4, <- hw5]
    have HRT5 := hid hrt5
    have HB5 := hid hb5
    have hu0 : (0 : Int) <= (u : Int) := by omega
    clear haq hrt hm hc4 hw5 hrt5 hb5 HRT HR4 hx HB4
    by_cases hk0 : kind = 0
    ·subst hk0
     obtain ⟨i0, hi, hz0, hz1, hz2⟩ := info_parts zIp
     go_wp2_with (at_make; refine wpList_make_full _ rfl _ _ 129 rfl w5.heap.size 4 i0 (.bool false) 1 Tryz.underlying129 hi hz0 hz1 .i64 .i64 _ _ u rfl rfl rfl rfl (by rw [hz2]; omega) (by unfold maxLen; omega) (Qc _) ?_; intro w6 hown1 hgrow1)
     go_ret3
     have hb6 : Below w5.heap.size w5 w6 := (Qd _ w5).grown hgrow1 (Qc _) (fun k e => by cases e)
     rw [zNx] at hown1
     exact .inr ⟨Qa u false, rest, _, _, _, _, _, _, by rw [HDK.out]; rfl, rfl, Rd.of_owns hown1, HRT5.out.kept hb6, HB5.out.trans (hb6.mono HB5.out.size)⟩
    ·have hk0i : ((kind : Int) == 0) = false := by rw [beq_eq_false_iff_ne]; omega
     by_cases hk1 : kind = 1
     ·subst hk1
      by_cases hu1 : 0 < u
      ·have hu1' : decide ((0 : Int) < (u : Int)) = true := by simp; omega
       go_wp2_with fail
       refine (zLb u _ (by omega)).mono ?_
       rintro e w6 ⟨ao6, cap6, rfl, hown, hb⟩
       go_wp2_with fail
       go_ret3
       exact .inr ⟨Qa u true, rest, _, _, _, _, _, _, by rw [HDK.out]; unfold decK; rw [if_neg (by decide), if_pos ⟨rfl, hu1⟩], rfl, by simpa using Rd.of_owns hown, HRT5.out.kept hb, HB5.out.trans (hb.mono HB5.out.size)⟩
      ·have hu1' : decide ((0 : Int) < (u : Int)) = false := by simp; omega
       go_wp2_with fail
       go_ret3
       exact .inl ⟨by rw [HDK.out]; unfold decK; rw [if_neg (by decide), if_neg (by omega), if_neg (by omega)], rfl, HB5.out⟩
     ·have hk1i : ((kind : Int) == 1) = false := by rw [beq_eq_false_iff_ne]; omega
      by_cases hk2 : kind = 2
      ·subst hk2
       go_wp2_with fail
       refine (zPf _ rest u _ HRT5.out (fun x hx => HD256.out x (List.mem_cons_of_mem _ hx)) (by have := HDL.out; rw [Qf] at this; omega) (by omega)).mono ?_
       rintro e w6 (⟨hn, rfl, hb⟩ | ⟨l, r2, ao7, len7, cap7, ao8, len8, cap8, hs, rfl, hr7, hr8, hb⟩)
       ·go_wp2_with fail
        go_ret3
        exact .inl ⟨by rw [HDK.out]; exact hn, rfl, HB5.out.trans (hb.mono HB5.out.size)⟩
       ·go_wp2_with fail
        go_ret3
        exact .inr ⟨l, r2, _, _, _, _, _, _, by rw [HDK.out]; exact hs, rfl, hr7, hr8, HB5.out.trans (hb.mono HB5.out.size)⟩
      ·have hk2i : ((kind : Int) == 2) = false := by rw [beq_eq_false_iff_ne]; omega
       go_wp2_with fail
       go_ret3
       exact .inl ⟨by rw [HDK.out]; unfold decK; rw [if_neg hk0, if_neg (by omega), if_neg (by omega)], rfl, HB5.out⟩
end Go.Proofs.YtmpgnjhgegbdkaaGreat
