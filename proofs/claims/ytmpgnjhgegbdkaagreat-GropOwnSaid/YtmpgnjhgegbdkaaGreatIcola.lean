import Derived.Test.YtmpgnjhgegbdkaaGreatIcolm
import Derived.Test.YtmpgnjhgegbdkaaGreatReadg
import Derived.Test.YtmpgnjhgegbdkaaGreatRowops
import Derived.Test.YtmpgnjhgegbdkaaGreatNullg
import Derived.Deep.QuietTactic
import Derived.BigQuiet
set_option linter.unusedVariables false
set_option linter.unusedSimpArgs false
set_option maxRecDepth 100000
set_option maxHeartbeats 8000000
open Go.Lib (hid)
namespace Go.Proofs.YtmpgnjhgegbdkaaGreat
open Go.RowKit
open _root_.List renaming length_map -> Qa, getD_eq_getElem?_getD -> Qf, getElem?_eq_getElem -> Qh, map_append -> Ql, mem_of_mem_drop -> Qm, length_eq_zero_iff -> Qo, length_append -> Qp, drop_drop -> Qq, map_drop -> Qr, mem_singleton -> Qt
open _root_.Nat renaming le_trans -> Qb, le_refl -> Qc, mul_le_mul_right -> Qg, zero_le -> Qi, mul_one -> Qk, add_zero -> Qn, lt_of_lt_of_le -> Qs
open _root_.Array renaming getElem?_eq_some_iff -> Qd
open Go.RowKit.Below renaming refl -> Qe
open _root_.Option renaming map_some -> Qj
open Go renaming cell_of_row -> Qu, heap_setCell_same -> Qv, heap_alloc_new -> Qw
theorem zFw {P : Program} {t e : TypeId} {z : Value} {sz bytes : Nat} (hu : P.underlying t = some (.slice e)) (h : (P.info? e).map (fun i => (i.zero, i.size, i.bytes)) = some (some z, sz, bytes)) (hz : z.cells.size = sz) (hp : 0 < sz) (hb : bytes <= 10000) : Elm P t e sz bytes := by
 cases hq : P.info? e with
 | none => rw [hq] at h; cases h
 | some i =>
  rw [hq] at h
  simp only [Qj, Option.some.injEq, Prod.mk.injEq] at h
  exact ⟨hu, ⟨i, z, hq, h.1, h.2.1, h.2.2, hz⟩, hp, hb⟩
theorem zSb : (Tryz.prog.info? 5).map (fun i => (i.zero, i.size, i.bytes)) = some (some (.int .u8 0), 1, 1) := by kernel_rfl
theorem zH5 : (Tryz.prog.info? 2).map (fun i => (i.zero, i.size, i.bytes)) = some (some (.int .i64 0), 1, 8) := by kernel_rfl
theorem zH6 : (Tryz.prog.info? 105).map (fun i => (i.zero, i.size, i.bytes)) = some (some (.int .u64 0), 1, 8) := by kernel_rfl
theorem zBf : Elm Tryz.prog 29 5 1 1 := zFw Tryz.underlying29 zSb rfl (by decide) (by decide)
theorem zG2 : Elm Tryz.prog 130 2 1 8 := zFw Tryz.underlying130 zH5 rfl (by decide) (by decide)
def OwnB (base : Nat) (w : World) (v : Value) (bs : List Nat) : Prop := w.ownsRow base 5 1 v bs.length (bs.map u8v)
def OwnI (base : Nat) (w : World) (v : Value) (l : List Int) : Prop := w.ownsRow base 2 1 v l.length (l.map (Value.int .i64))
theorem zLd (l : List Int) : ∀ u ∈ l.map (Value.int .i64), u.oneCell' = true := fun u hu => by obtain ⟨n, _, rfl⟩ := List.mem_map.1 hu; rfl
theorem OwnB.shape {base : Nat} {w : World} {v : Value} {bs : List Nat} (h : OwnB base w v bs) : ∃ ao cap, v = .slice ao bs.length cap := zB2 h
theorem OwnI.shape {base : Nat} {w : World} {v : Value} {l : List Int} (h : OwnI base w v l) : ∃ ao cap, v = .slice ao l.length cap := zB2 h
theorem OwnB.rd {base : Nat} {w : World} {v : Value} {bs : List Nat} (h : OwnB base w v bs) : Rd w v (bs.map u8v) := Rd.of_owns h
theorem OwnI.rd {base : Nat} {w : World} {v : Value} {l : List Int} (h : OwnI base w v l) : Rd w v (l.map (Value.int .i64)) := Rd.of_owns h
theorem OwnB.of {base : Nat} {w : World} {v : Value} {n : Nat} {bs : List Nat} (h : w.ownsRow base 5 1 v n (bs.map u8v)) : OwnB base w v bs := by
 have h1 := h.1
 rw [Qa, Qk] at h1
 subst h1
 exact h
theorem OwnI.of {base : Nat} {w : World} {v : Value} {n : Nat} {l : List Int} (h : w.ownsRow base 2 1 v n (l.map (Value.int .i64))) : OwnI base w v l := by
 have h1 := h.1
 rw [Qa, Qk] at h1
 subst h1
 exact h
theorem zA6 (base : Nat) (w : World) : OwnB base w (.slice none 0 0) [] := World.ownsRow_nil ..
theorem zH7 (base : Nat) (w : World) : OwnI base w (.slice none 0 0) [] := World.ownsRow_nil ..
theorem zAu {w : World} {ao : Option Addr} {len cap : Nat} {l : List Int} (h : Rd w (.slice ao len cap) (l.map (Value.int .i64))) :
  len = l.length ∧ (0 < len -> ∃ b off, ao = some ⟨b, off, none⟩ ∧ ∀ i, i < len -> w.cell? ⟨b, off + i, none⟩ = some (.int .i64 (l.getD i 0))) := zJl h
theorem zAh {w : World} {v : Value} {xs : List Value} (h : Rd w v xs) : ∃ ao cap, v = .slice ao xs.length cap := by
 obtain ⟨ao, cap, hv, _⟩ := h
 exact ⟨ao, cap, hv⟩
theorem zSc (n : Int) (w : World) (h : I64 n) : Calls Tryz.prog 190 #[.int .i64 n] w fun e w' => e = .returned (.int .u64 (zigN n : Nat)) ∧ w = w' := by
 unfold I64 at h
 unfold zigN
 split
 ·obtain ⟨m, rfl⟩ : ∃ m : Nat, n = (m : Int) := ⟨n.toNat, by omega⟩
  refine (zRz m w (by omega)).mono ?_
  rintro e w' ⟨rfl, rfl⟩
  exact ⟨zIm (by omega), rfl⟩
 ·refine (zR0 n w (by omega) (by omega)).mono ?_
  rintro e w' ⟨rfl, rfl⟩
  exact ⟨zIm (by omega), rfl⟩
theorem zH8 (base : Nat) (v : Value) (bs : List Nat) (n : Int) (w : World) (hn : I64 n) (hown : OwnB base w v bs) (hb : base <= w.heap.size) (hl : bs.length <= 5000000) :
  Calls Tryz.prog 154 #[v, .int .i64 n] w fun e w' => ∃ v', e = .returned v' ∧ OwnB base w' v' (bs ++ putT n) ∧ w.grownBy w' v.ownBlock ∧ (∀ g, v'.ownBlock = some g -> v.ownBlock = some g ∨ w.heap.size <= g) := by
 obtain ⟨ao, cap, rfl⟩ := hown.shape
 have HZ := hid (zSc n w hn)
 have HN := hid (zEj (.slice none 0 0) [] (zigN n) w (Rd.nil w) (by decide) (zI3 hn))
 have HO := hid hown
 have hpl := (zBy n).1
 clear hown hn
 go_enter Tryz.func154, Tryz.ntmps154
 go_wp2_with fail
 refine HZ.out.mono ?_
 rintro e w1 ⟨rfl, rfl⟩
 go_wp2_with fail
 refine HN.out.mono ?_
 rintro e w2 ⟨ao2, cap2, rfl, hown2, hb2⟩
 have HR2 := hid (zAs (show Rd w2 (.slice ao2 (putT n).length cap2) ((putT n).map u8v) from by have := Rd.of_owns hown2; rw [Qa] at this; simpa [putT] using this))
 have HO2 := hid (show OwnB base w2 (.slice ao bs.length cap) bs from HO.out.kept (zAb hb2 none) (by cases h : (Value.slice ao bs.length cap).ownBlock with | none => exact .inl rfl | some g => exact .inr (by simp)))
 have HB2 := hid hb2
 have hlen : ((([] : List Nat) ++ numC (zigN n)).map u8v).length = (putT n).length := by simp [putT]
 rw [hlen]
 have HON := hid (zAr (zAq (putT n)))
 have hb3 : base <= w2.heap.size := Qb hb hb2.size
 have hlm : ((putT n).map u8v).length = (putT n).length := by simp
 clear hown2 hb2 hlen
 go_wp2_with (at_builtin; go_must (refine zAf zBf rfl _ _ rfl base _ _ _ rfl HO2.out _ (((putT n).map u8v).map fun u => [u]) rfl HR2.out HON.out (by simp; omega) hb3 (bs.length + (putT n).length) (by simp) ?_); intro ao4 cap4 w4 hown4 hgrow4 hnew4; have HO4 := hid hown4; have HG4 := hid hgrow4; have HN4 := hid hnew4; clear hown4 hgrow4 hnew4)
 go_ret
 refine ⟨_, rfl, ?_, ?_, fun g hg => ?_⟩
 ·have h := HO4.out
  rw [zAp, <- Ql] at h
  exact OwnB.of h
 ·exact zAc (zAb HB2.out _) HG4.out
 ·rcases HN4.out g hg with h | h
  ·exact .inl h
  ·right; rw [h]; exact HB2.out.size
theorem zJq : ∀ (l : List Nat) (i U u n : Nat), i <= 9 -> U < 2 ^ (7 * i) -> nextF i U l = some (u, n) -> u < 18446744073709551616
 | [], i, U, u, n, _, _, h => by rw [nextF] at h; cases h
 | x :: r, i, U, u, n, hi, hU, h => by
  rw [nextF] at h
  split at h
  ·cases h
  ·rename_i h9
   split at h
   ·rename_i hx
    by_cases hi9 : i = 9
    ·subst hi9; omega
    ·refine zJq r (i + 1) _ u n (by omega) ?_ h
     have e : 2 ^ (7 * (i + 1)) = 128 * 2 ^ (7 * i) := zKz i
     rw [e]
     have h1 : x % 128 <= 127 := by omega
     have h2 : x % 128 * 2 ^ (7 * i) <= 127 * 2 ^ (7 * i) := Qg _ h1
     omega
   ·rename_i hx
    split at h
    ·cases h
    ·simp only [Option.some.injEq, Prod.mk.injEq] at h
     obtain ⟨rfl, _⟩ := h
     by_cases hi9 : i = 9
     ·subst hi9
      have hx1 : x <= 1 := by omega
      have e : (2 : Nat) ^ (7 * 9) = 9223372036854775808 := by decide +kernel
      rw [e] at hU ⊢
      have : x % 128 <= 1 := by omega
      have h2 : x % 128 * 9223372036854775808 <= 1 * 9223372036854775808 := Qg _ this
      omega
     ·have hp : (2 : Nat) ^ (7 * i) <= 2 ^ (7 * 8) := Nat.pow_le_pow_right (by decide) (by omega)
      have e : (2 : Nat) ^ (7 * 8) = 72057594037927936 := by decide +kernel
      rw [e] at hp
      have h1 : x % 128 <= 127 := by omega
      have h2 : x % 128 * 2 ^ (7 * i) <= 127 * 2 ^ (7 * i) := Qg _ h1
      omega
theorem zJr {l : List Nat} {u n : Nat} (h : nextC l = some (u, n)) : u < 18446744073709551616 := zJq l 0 0 u n (by decide) (by decide) h
theorem zDs (left : List Nat) (bad : Bool) : (numR left bad).1 < 18446744073709551616 := by
 unfold numR
 split
 ·rename_i h; exact zJr h
 ·decide
theorem zEs {left : List Nat} {bad : Bool} (h : ∀ x ∈ left, x < 256) : ∀ x ∈ (numR left bad).2.1, x < 256 := by
 unfold numR
 split
 ·exact fun x hx => h x (Qm hx)
 ·exact fun x hx => by cases hx
theorem zEt (left : List Nat) (bad : Bool) : (numR left bad).2.1.length <= left.length := by
 unfold numR
 split
 ·simp
 ·simp
theorem zG3 (r : Nat) (left : List Nat) (bad : Bool) (w : World) (h : IsR w r left bad) (h256 : ∀ x ∈ left, x < 256) (hbig : left.length <= 1000000) :
  Calls Tryz.prog 50 #[.pointer (some ⟨r, 0, none⟩)] w fun e w' => e = .returned (.int .u64 ((numR left bad).1 : Nat)) ∧ IsR w' r (numR left bad).2.1 (numR left bad).2.2 ∧ w.grownBy w' (some r) := by
 unfold numR
 cases hq : nextC left with
 | none => exact zI2 r left bad w h h256 (by omega) hq
 | some p =>
  obtain ⟨u, n⟩ := p
  obtain ⟨h1, h2⟩ := zDx left u n hq
  exact zKw r left bad w h h256 (by omega) u n hq h1 h2
theorem zPj (r : Nat) (left : List Nat) (bad : Bool) (w : World) (h : IsR w r left bad) (h256 : ∀ x ∈ left, x < 256) (hbig : left.length <= 1000000) :
  Calls Tryz.prog 155 #[.pointer (some ⟨r, 0, none⟩)] w fun e w' => e = .returned (.int .i64 (takeR left bad).1) ∧ IsR w' r (takeR left bad).2.1 (takeR left bad).2.2 ∧ w.grownBy w' (some r) := by
 have HN := hid (zG3 r left bad w h h256 hbig)
 have hu := zDs left bad
 clear h h256
 go_enter Tryz.func155, Tryz.ntmps155
 go_wp2_with fail
 refine HN.out.mono ?_
 rintro e w2 ⟨rfl, h2, hg2⟩
 have H2 := hid h2
 have HG2 := hid hg2
 have HZ := hid (zM0 (numR left bad).1 w2 hu)
 clear h2 hg2
 go_wp2_with fail
 refine HZ.out.mono ?_
 rintro e w3 ⟨rfl, rfl⟩
 go_wp2_with fail
 go_ret
 exact ⟨rfl, H2.out, HG2.out⟩
theorem zAv {w : World} {X : Nat} {a b c d : Value} {T : TypeId} (h : w.heap[X]? = some (.cells #[a, b, c, d] T (0, 0))) : w.cell? ⟨X, 0, none⟩ = some a ∧ w.cell? ⟨X, 1, none⟩ = some b ∧ w.cell? ⟨X, 2, none⟩ = some c ∧ w.cell? ⟨X, 3, none⟩ = some d :=
 ⟨by rw [Qu w X 0 _ _ _ h]; rfl, by rw [Qu w X 1 _ _ _ h]; rfl, by rw [Qu w X 2 _ _ _ h]; rfl, by rw [Qu w X 3 _ _ _ h]; rfl⟩
theorem zAo {w : World} {base base' : Nat} {e : TypeId} {size : Nat} {v : Value} {n : Nat} {xs : List Value} (h : w.ownsRow base e size v n xs) (hb : base' <= base) : w.ownsRow base' e size v n xs := by
 rcases h.2 with ⟨h1, h2⟩ | ⟨g, cap, cur, h1, h2, r⟩
 ·exact ⟨h.1, .inl ⟨h1, h2⟩⟩
 ·exact ⟨h.1, .inr ⟨g, cap, cur, h1, Qb hb h2, r⟩⟩
theorem zBd {base : Nat} {w : World} {v : Value} {bs : List Nat} (h : OwnB base w v bs) : ∀ k, v.ownBlock = some k -> base <= k := zAg h
theorem zD4 {base : Nat} {w : World} {v : Value} {bs : List Int} (h : OwnI base w v bs) : ∀ k, v.ownBlock = some k -> base <= k := zAg h
theorem zAk {base : Nat} {w0 w w' : World} {v : Value} (hb : Below base w0 w) (hs : base <= w.heap.size) (hg : w.grownBy w' v.ownBlock) (hk : ∀ k, v.ownBlock = some k -> base <= k) : Below base w0 w' := hb.grown hg hs hk
theorem zG4 {l : List Int} {q : Nat} (hq : q < l.length) : l.take (q + 1) = l.take q ++ [l.getD q 0] := by
 rw [List.take_succ_eq_append_getElem hq, Qf, Qh hq]
 rfl
theorem zQu {l : List Int} {q : Nat} (hq : q < l.length) : l.getD q 0 ∈ l := by
 rw [Qf, Qh hq]
 exact List.getElem_mem _
theorem zAj {base : Nat} {a b : World} (h : Below base a b) (k : Nat) : Below base a (b.drewN k) := h.trans (zB8 _ _ k)
theorem zAn {base : Nat} {a b : World} (h : Below base a b) : Below base a b.drew := Below.trans h ⟨rfl, rfl, rfl, Qc _, fun _ _ => rfl⟩
theorem zBm {base : Nat} {w w' : World} {v : Value} {bs : List Nat} (h : OwnB base w v bs) (hb : Below w.heap.size w w') : OwnB base w' v bs :=
 h.kept (zAb hb none) (by cases h : v.ownBlock with | none => exact .inl rfl | some g => exact .inr (by simp))
theorem zDd {base : Nat} {w w' : World} {v : Value} {bs : List Int} (h : OwnI base w v bs) (hb : Below w.heap.size w w') : OwnI base w' v bs :=
 h.kept (zAb hb none) (by cases h : v.ownBlock with | none => exact .inl rfl | some g => exact .inr (by simp))
theorem zDl (l : List Int) (lv : Value) (w : World) (hI : ∀ n ∈ l, I64 n) (hl : l.length <= 100000) (hr : Rd w lv (l.map (.int .i64))) :
  Calls Tryz.prog 125 #[.agg #[.func (.func 154) #[] #[], .func (.func 155) #[] #[], .func (.func 153) #[] #[], .func (.func 156) #[] #[]], lv] w fun e w' => ∃ v, e = .returned v ∧ OwnB w.heap.size w' v (plainT l) ∧ Below w.heap.size w w' := by
 obtain ⟨ao, cap, rfl⟩ := zAh hr
 obtain ⟨n, hn⟩ : ∃ n, n = l.length := ⟨_, rfl⟩
 rw [Qa, <- hn] at hr ⊢
 have HR := hid hr
 have HN := hid hn
 have HI := hid hI
 rw [<- hn] at hl
 clear hr hn hI
 go_enter Tryz.func125, Tryz.ntmps125
 go_upto_region 1 with (fail)
 obtain ⟨W1, hW1⟩ : ∃ W1 : World, W1 = w.alloc (.cells #[.func (.func 154) #[] #[], .func (.func 155) #[] #[], .func (.func 153) #[] #[], .func (.func 156) #[] #[]] 185) := ⟨_, rfl⟩
 obtain ⟨X, hX⟩ : ∃ X, X = w.heap.size := ⟨_, rfl⟩
 have hxb : W1.heap[X]? = some (.cells #[.func (.func 154) #[] #[], .func (.func 155) #[] #[], .func (.func 153) #[] #[], .func (.func 156) #[] #[]] 185 (0, 0)) := by rw [hW1, hX]; exact Qw w _
 have HB1 := hid (show Below w.heap.size w W1 by rw [hW1]; exact zAd w _)
 rw [<- hW1, <- hX]
 have HXX := hid (show X = w.heap.size ∧ X < W1.heap.size from ⟨hX, (Qd.1 hxb).1⟩)
 have HX := hid fun (w' : World) (h : Below W1.heap.size W1 w') => zAv ((h.block X HXX.out.2).trans hxb)
 clear hW1 hX hxb
 have HR1 := hid (HR.out.kept HB1.out)
 go_wp2_with fail
 go_loopw [5, 10] (fun b i wr => ∃ q : Nat, q <= n ∧ i = .int .i64 (q : Int) ∧ OwnB W1.heap.size wr b (plainT (l.take q)) ∧ Below W1.heap.size W1 wr) (fun _ i _ => n - (intOf i).toNat)
 case atStart => exact ⟨0, Qi _, rfl, zA6 _ _, Qe _ _⟩
 case round =>
  obtain ⟨q, hq, rfl, hown, hbel⟩ := hrel
  have HO := hid hown
  have HBL := hid hbel
  clear hown hbel
  by_cases hlt : q < n
  ·have hlti : (q : Int) < (n : Int) := by omega
   have hq0 : (0 : Int) <= (q : Int) := by omega
   have hc := (zAu (HR1.out.kept HBL.out)).2
   obtain ⟨b, off, rfl, hcell⟩ := hc (by omega)
   have hx := hcell q hlt
   obtain ⟨z, hz⟩ : ∃ z, z = l.getD q 0 := ⟨_, rfl⟩
   rw [<- hz] at hx
   have cf := (HX.out wr HBL.out).1
   have hI1 : I64 z := by rw [hz]; exact HI.out _ (zQu (by rw [<- HN.out]; exact hlt))
   have hpl := zA3 (l.take q)
   rw [List.length_take] at hpl
   have HP := hid (zH8 W1.heap.size _ (plainT (l.take q)) z wr hI1 HO.out HBL.out.size (by omega))
   have HZ := hid hz
   clear hz hcell hc hpl
   go_wp2_with fail
   refine HP.out.mono ?_
   rintro e w2 ⟨v2, rfl, hown2, hg2, hn2⟩
   have HO2 := hid (show OwnB W1.heap.size w2 v2 (plainT (l.take (q + 1))) by rw [zG4 (by rw [<- HN.out]; exact hlt), zFk, <- HZ.out]; exact hown2)
   have HB2 := hid (zAk HBL.out HBL.out.size hg2 (zBd HO.out))
   clear hown2 hg2 hn2 hx cf
   go_wp2_with fail
   go_roundw
   case rel =>
    exact ⟨q + 1, by omega, by go_num, HO2.out, HB2.out⟩
   case measure => simp [intOf]; omega
  ·have hqn : q = n := by omega
   subst hqn
   have hlti : ¬ (q : Int) < (q : Int) := by omega
   go_wp2_with fail
   go_ret
   refine ⟨_, rfl, ?_, HB1.out.trans (HBL.out.mono HB1.out.size)⟩
   have h := HO.out
   rw [HN.out, List.take_length] at h
   exact zAo h HB1.out.size
theorem zCc (a b c : Int) (h : cmpZ a b = c) (w : World) : Calls Tryz.prog 153 #[.int .i64 a, .int .i64 b] w fun e w' => e = .returned (.int .i64 c) ∧ w' = w := by
 refine (zGz a b w).mono ?_
 rintro e w' ⟨rfl, rfl⟩
 exact ⟨by rw [h], rfl⟩
theorem zI7 {a b : Int} (h : a ≠ b) : cmpZ a b ≠ 0 := by
 unfold cmpZ
 split
 ·decide
 ·split
  ·decide
  ·omega
def Lead (l : List Int) (n : Nat) : Prop := 0 < n ∧ n <= l.length ∧ (∀ j, j < n -> l[j]? = l[0]?) ∧ (l[n]? ≠ l[0]?)
theorem zH9 {l : List Int} {m n : Nat} (hm : Lead l m) (hn : Lead l n) : m = n := by
 obtain ⟨h1, h2, h3, h4⟩ := hm
 obtain ⟨g1, g2, g3, g4⟩ := hn
 rcases Nat.lt_trichotomy m n with h | h | h
 ·exact absurd (g3 m h) h4
 ·exact h
 ·exact absurd (h3 n h) g4
theorem getD_at {l : List Int} {q : Nat} (hq : q < l.length) : l[q]? = some (l.getD q 0) := by
 rw [Qf, Qh hq]
 rfl
theorem zIa (l : List Int) (lv : Value) (w : World) (hp : 0 < l.length) (hl : l.length <= 100000) (hr : Rd w lv (l.map (.int .i64))) :
  Calls Tryz.prog 157 #[.agg #[.func (.func 154) #[] #[], .func (.func 155) #[] #[], .func (.func 153) #[] #[], .func (.func 156) #[] #[]], lv] w fun e w' => ∃ n, e = .returned (.int .i64 ((n : Nat) : Int)) ∧ Lead l n ∧ Below w.heap.size w w' := by
 obtain ⟨ao, cap, rfl⟩ := zAh hr
 obtain ⟨n, hn⟩ : ∃ n, n = l.length := ⟨_, rfl⟩
 rw [Qa, <- hn] at hr ⊢
 rw [<- hn] at hl hp
 have HR := hid hr
 have HN := hid hn
 clear hr hn
 go_enter Tryz.func157, Tryz.ntmps157
 go_upto_region 1 with (fail)
 obtain ⟨W1, hW1⟩ : ∃ W1 : World, W1 = w.alloc (.cells #[.func (.func 154) #[] #[], .func (.func 155) #[] #[], .func (.func 153) #[] #[], .func (.func 156) #[] #[]] 185) := ⟨_, rfl⟩
 obtain ⟨X, hX⟩ : ∃ X, X = w.heap.size := ⟨_, rfl⟩
 have hxb : W1.heap[X]? = some (.cells #[.func (.func 154) #[] #[], .func (.func 155) #[] #[], .func (.func 153) #[] #[], .func (.func 156) #[] #[]] 185 (0, 0)) := by rw [hW1, hX]; exact Qw w _
 have HB1 := hid (show Below w.heap.size w W1 by rw [hW1]; exact zAd w _)
 rw [<- hW1, <- hX]
 have HXX := hid (show X = w.heap.size ∧ X < W1.heap.size from ⟨hX, (Qd.1 hxb).1⟩)
 have HX := hid fun (w' : World) (h : Below W1.heap.size W1 w') => zAv ((h.block X HXX.out.2).trans hxb)
 clear hW1 hX hxb
 have HR1 := hid (HR.out.kept HB1.out)
 go_wp2_with fail
 go_loopw [5] (fun i wr => ∃ q : Nat, 1 <= q ∧ q <= n ∧ i = .int .i64 (q : Int) ∧ (∀ j, j < q -> l[j]? = l[0]?) ∧ Below W1.heap.size W1 wr) (fun i _ => n - (intOf i).toNat)
 case atStart => exact ⟨1, Qc _, hp, rfl, (fun j hj => by rw [show j = 0 by omega]), Qe _ _⟩
 case round =>
  obtain ⟨q, hq1, hq, rfl, hall, hbel⟩ := hrel
  have HALL := hid hall
  have HBL := hid hbel
  clear hall hbel
  have hc := (zAu (HR1.out.kept HBL.out)).2
  obtain ⟨b, off, rfl, hcell⟩ := hc hp
  have hx0 := hcell 0 hp
  rw [Qn] at hx0
  have hn0 : (0 : Int) < (n : Int) := by omega
  have hq0 : (0 : Int) <= (q : Int) := by omega
  have cf := (HX.out wr HBL.out).2.2.1
  have ha0 := getD_at (l := l) (q := 0) (by rw [<- HN.out]; exact hp)
  obtain ⟨a, ha⟩ : ∃ a, a = l.getD 0 0 := ⟨_, rfl⟩
  rw [<- ha] at hx0 ha0
  have HA0 := hid ha0
  clear ha ha0 hc
  by_cases hlt : q < n
  ·have hlti : (q : Int) < (n : Int) := by omega
   have hltb : decide ((q : Int) < (n : Int)) = true := decide_eq_true hlti
   have hx := hcell q hlt
   have hz0 := getD_at (l := l) (q := q) (by rw [<- HN.out]; exact hlt)
   obtain ⟨z, hz⟩ : ∃ z, z = l.getD q 0 := ⟨_, rfl⟩
   rw [<- hz] at hx hz0
   have HZ0 := hid hz0
   clear hz hz0 hcell
   by_cases haz : a = z
   ·subst haz
    have HC := hid (zCc a a 0 (zE4 a))
    go_upto_region 2 with (fail)
    go_quiet ((go_at_call 153; exact Calls.quiet_of_same (HC.out _)))
    go_wp2_with fail
    go_roundw
    case rel => exact ⟨q + 1, by omega, by omega, by go_num, fun j hj => by
     rcases Nat.lt_or_ge j q with h | h
     ·exact HALL.out j h
     ·rw [show j = q by omega, HZ0.out, HA0.out], zAj HBL.out _⟩
    case measure => simp [intOf]; omega
   ·obtain ⟨c, hc⟩ : ∃ c, c = cmpZ a z := ⟨_, rfl⟩
    have hcn : c ≠ 0 := by rw [hc]; exact zI7 haz
    have hcb : (c == 0) = false := by rw [beq_eq_false_iff_ne]; exact hcn
    have HC := hid (zCc a z c hc.symm)
    clear hc
    go_upto_region 2 with (fail)
    go_quiet ((go_at_call 153; exact Calls.quiet_of_same (HC.out _)))
    go_wp2_with fail
    go_ret
    exact ⟨q, rfl, ⟨by omega, by rw [<- HN.out]; omega, HALL.out, by rw [HZ0.out, HA0.out]; intro h; exact haz (Option.some.inj h).symm⟩, HB1.out.trans ((zAj HBL.out _).mono HB1.out.size)⟩
  ·have hqn : q = n := by omega
   subst hqn
   have hltb : decide ((q : Int) < (q : Int)) = false := by simp
   have hlti : ¬ (q : Int) < (q : Int) := by omega
   go_upto_region 2 with (fail)
   go_quiet (fail)
   go_wp2_with fail
   go_ret
   exact ⟨q, rfl, ⟨by omega, by rw [<- HN.out]; omega, HALL.out, by rw [HA0.out, List.getElem?_eq_none (by rw [<- HN.out]; omega)]; intro h; cases h⟩, HB1.out.trans ((zAj HBL.out _).mono HB1.out.size)⟩
def lenV : Value -> Nat
 | .slice _ n _ => n
 | _ => 0
theorem zG5 {l : List Int} {n : Nat} (h : Lead l n) : ∃ a, l[0]? = some a ∧ runsT l = numC n ++ putT a ++ runsT (l.drop n) := by
 obtain ⟨m, a, h1, h2, h3, h4, h5, h6, h7, h8⟩ := zB9 l (by have := h.1; have := h.2.1; omega)
 have : Lead l m := ⟨h1, h2, fun j hj => by rw [h5 j hj, h4], by rw [h4]; exact h6⟩
 obtain rfl := zH9 this h
 exact ⟨a, h4, h7⟩
theorem zG6 (l : List Int) (lv : Value) (w : World) (hI : ∀ n ∈ l, I64 n) (hl : l.length <= 100000) (hr : Rd w lv (l.map (.int .i64))) :
  Calls Tryz.prog 126 #[.agg #[.func (.func 154) #[] #[], .func (.func 155) #[] #[], .func (.func 153) #[] #[], .func (.func 156) #[] #[]], lv] w fun e w' => ∃ v, e = .returned v ∧ OwnB w.heap.size w' v (runsT l) ∧ Below w.heap.size w w' := by
 obtain ⟨ao0, cap0, rfl⟩ := zAh hr
 have HR := hid hr
 have HI := hid hI
 have HLL := hid hl
 rw [Qa] at HR ⊢
 clear hr hI
 go_enter Tryz.func126, Tryz.ntmps126
 go_upto_region 1 with (fail)
 obtain ⟨W1, hW1⟩ : ∃ W1 : World, W1 = w.alloc (.cells #[.func (.func 154) #[] #[], .func (.func 155) #[] #[], .func (.func 153) #[] #[], .func (.func 156) #[] #[]] 185) := ⟨_, rfl⟩
 obtain ⟨X, hX⟩ : ∃ X, X = w.heap.size := ⟨_, rfl⟩
 have hxb : W1.heap[X]? = some (.cells #[.func (.func 154) #[] #[], .func (.func 155) #[] #[], .func (.func 153) #[] #[], .func (.func 156) #[] #[]] 185 (0, 0)) := by rw [hW1, hX]; exact Qw w _
 have HB1 := hid (show Below w.heap.size w W1 by rw [hW1]; exact zAd w _)
 rw [<- hW1, <- hX]
 have HXX := hid (show X = w.heap.size ∧ X < W1.heap.size from ⟨hX, (Qd.1 hxb).1⟩)
 have HX := hid fun (w' : World) (h : Below W1.heap.size W1 w') => zAv ((h.block X HXX.out.2).trans hxb)
 clear hW1 hX hxb
 have HR1 := hid (HR.out.kept HB1.out)
 go_wp2_with fail
 go_loopw [1, 5] (fun lv b wr => ∃ p : Nat, ∃ bs : List Nat, p <= l.length ∧ Rd W1 lv ((l.drop p).map (.int .i64)) ∧ OwnB W1.heap.size wr b bs ∧ bs.length <= 20 * p ∧ bs ++ runsT (l.drop p) = runsT l ∧ Below W1.heap.size W1 wr) (fun lv _ _ => lenV lv)
 case atStart => exact ⟨0, [], Qi _, HR1.out, zA6 _ _, by simp, by simp, Qe _ _⟩
 case round =>
  obtain ⟨p, bs, hp, hrd, hown, hbl, hbs, hbel⟩ := hrel
  obtain ⟨m, hm⟩ : ∃ m, m = (l.drop p) := ⟨_, rfl⟩
  rw [<- hm] at hrd hbs
  obtain ⟨ao, cap, rfl⟩ := zAh hrd
  obtain ⟨k, hk⟩ : ∃ k, k = m.length := ⟨_, rfl⟩
  rw [Qa, <- hk] at hrd ⊢
  have hkp : k + p = l.length := by rw [hk, hm, List.length_drop]; omega
  have HRD := hid hrd
  have HO := hid hown
  have HBS := hid hbs
  have HBL := hid hbel
  have HM := hid hm
  have HK := hid hk
  have HKP := hid hkp
  have HBLN := hid hbl
  have HPL := hid hp
  have hk5 : k <= 100000 := by have := HLL.out; omega
  clear hrd hown hbs hbel hm hk hkp hl hbl hp
  by_cases h0 : k = 0
  ·subst h0
   have hg : decide ((0 : Int) > 0) = false := by decide
   go_wp2_with fail
   go_ret
   refine ⟨_, rfl, ?_, HB1.out.trans (HBL.out.mono HB1.out.size)⟩
   have h := HBS.out
   have : m = [] := Qo.1 HK.out.symm
   rw [this] at h
   simp [runsT, grp] at h
   rw [show runsT l = bs by rw [h]; rfl]
   exact zAo HO.out HB1.out.size
  ·have hkpos : 0 < k := by omega
   have hki : (0 : Int) < (k : Int) := by omega
   have hg : decide ((k : Int) > 0) = true := by rw [decide_eq_true_iff]; exact hki
   obtain ⟨cf0, cf1, cf2, cf3⟩ := HX.out wr HBL.out
   have HRU := hid (zIa m (.slice ao k cap) wr (by rw [<- HK.out]; exact hkpos) (by rw [<- HK.out]; exact hk5) (HRD.out.kept HBL.out))
   go_wp2_with fail
   refine HRU.out.mono ?_
   rintro e w2 ⟨q, rfl, hlead, hb2⟩
   obtain ⟨a, ha0, hra⟩ := zG5 hlead
   have hq1 := hlead.1
   have hqk : q <= k := by rw [HK.out]; exact hlead.2.1
   have hwq : IntKind.u64.wrap (q : Int) = (q : Int) := IntWalk.u64_in _ (by omega)
   have HRA := hid hra
   have HA0 := hid ha0
   have HB2 := hid (show Below W1.heap.size W1 w2 from HBL.out.trans (hb2.mono HBL.out.size))
   have HO2 := hid (zBm HO.out hb2)
   have HNU := hid fun w' => zEj (.slice none 0 0) [] q w' (Rd.nil w') (by decide) (by omega)
   clear hlead ha0 hra hb2 cf0 cf1 cf2 cf3 HRU HO
   go_wp2_with fail
   refine (HNU.out w2).mono ?_
   rintro e w3 ⟨ao3, cap3, rfl, hown3, hb3⟩
   have hnl := (zA5 9 q).1
   have hnlen : (numC q).length <= 10 := hnl
   have HR3 := hid (zAs (show Rd w3 (.slice ao3 (numC q).length cap3) ((numC q).map u8v) from by have := Rd.of_owns hown3; rw [Qa] at this; simpa using this))
   have hlen3 : ((([] : List Nat) ++ numC q).map u8v).length = (numC q).length := by simp
   rw [hlen3]
   obtain ⟨ab, cb, rfl⟩ := HO2.out.shape
   have HO3 := hid (zBm HO2.out hb3)
   have HB3 := hid (show Below W1.heap.size W1 w3 from HB2.out.trans (hb3.mono HB2.out.size))
   have HON := hid (zAr (zAq (numC q)))
   have hbl2 : bs.length <= 2000000 := by have := HBLN.out; have := HKP.out; have := HLL.out; omega
   clear hown3 hb3 hlen3 hnl HO2
   go_wp2_with (at_builtin; go_must (refine zAf zBf rfl _ _ rfl W1.heap.size _ _ _ rfl HO3.out _ (((numC q).map u8v).map fun u => [u]) rfl HR3.out HON.out (by simp; omega) HB3.out.size (bs.length + (numC q).length) (by simp) ?_); intro ao4 cap4 w4 hown4 hgrow4 hnew4; have HO4 := hid hown4; have HG4 := hid hgrow4; clear hown4 hgrow4 hnew4)
   have HOB4 := hid (show OwnB W1.heap.size w4 (.slice ao4 (bs.length + (numC q).length) cap4) (bs ++ numC q) from OwnB.of (by have h := HO4.out; rw [zAp, <- Ql] at h; exact h))
   have HB4 := hid (zAk HB3.out HB3.out.size (show w3.grownBy w4 (Value.slice ab bs.length cb).ownBlock from HG4.out) (zBd HO3.out))
   have hc4 := (zAu (HRD.out.kept HB4.out)).2 hkpos
   obtain ⟨B, off, rfl, hcell⟩ := hc4
   have hx0 := hcell 0 hkpos
   rw [Qn] at hx0
   have hma : m.getD 0 0 = a := by rw [Qf, HA0.out]; rfl
   rw [hma] at hx0
   have hIa : I64 a := HI.out a (by have h := List.mem_of_getElem? HA0.out; rw [HM.out] at h; exact Qm h)
   have cf0 := (HX.out w4 HB4.out).1
   have hbn : (bs ++ numC q).length <= 5000000 := by rw [Qp]; omega
   have HP := hid fun w' (h : Below w4.heap.size w4 w') => zH8 W1.heap.size _ (bs ++ numC q) a w' hIa (zBm HOB4.out h) (Qb HB4.out.size h.size) hbn
   have hpl := (zBy a).1
   clear hcell hma HO4 HG4 HO3 HR3 HON HNU
   go_upto_region 5 with (fail)
   go_region_law
    (first
     | (go_simp; go_at_call 154; refine (HP.out _ ?_).mono ?_; (exact zAm _ _); rintro e w5 ⟨v5, rfl, hown5, hg5, hn5⟩)
     | fail)
   all_goals
    have HO5 := hid (show OwnB W1.heap.size w5 v5 (bs ++ numC q ++ putT a) from hown5)
    have HB5 := hid (zAk (zAn HB4.out) HB4.out.size hg5 (zBd HOB4.out))
    have hlen5 : (bs ++ numC q ++ putT a).length <= 20 * (p + q) := by have := HBLN.out; simp only [Qp]; omega
    have hbs5 : bs ++ numC q ++ putT a ++ runsT (l.drop (p + q)) = runsT l := by
     rw [<- HBS.out, HRA.out, HM.out, Qq]
     simp only [List.append_assoc]
    have HL5 := hid hlen5
    have HS5 := hid hbs5
    have hq0 : (0 : Int) <= (q : Int) := by omega
    have hqki : (q : Int) <= (k : Int) := by omega
    have HMD := hid (show m.drop q = l.drop (p + q) by rw [HM.out, Qq])
    clear hown5 hg5 hn5 hlen5 hbs5 hx0 cf0 HP
    by_cases hck : cap = q
    ·have hkq : k = q := by have := zBr HRD.out; omega
     have HRE := hid (show Rd W1 (.slice (some ⟨B, off, none⟩) 0 0) ((l.drop (p + q)).map (.int .i64)) from by
      have h0 : l.drop (p + q) = [] := List.drop_eq_nil_of_le (by have := HKP.out; omega)
      rw [h0]
      exact zBx W1 _ 0)
     subst hck
     have hkc : k <= cap := by omega
     go_wp2_with fail
     go_roundw
     case rel => exact ⟨p + cap, _, by have := HKP.out; omega, HRE.out, HO5.out, HL5.out, HS5.out, HB5.out⟩
     case measure => simp [lenV]; omega
    ·have hck2 : (cap == q) = false := by rw [beq_eq_false_iff_ne]; exact hck
     have HRE := hid (show Rd W1 (.slice (some ⟨B, off + q, none⟩) (k - q) (cap - q)) ((l.drop (p + q)).map (.int .i64)) from by
      have h := zCe HRD.out hqk
      rw [<- Qr, HMD.out] at h
      exact h)
     go_wp2_with fail
     go_roundw
     case rel => exact ⟨p + q, _, by have := HKP.out; omega, HRE.out, HO5.out, HL5.out, HS5.out, HB5.out⟩
     case measure => simp [lenV]; omega
def IsRB (B : Nat) (w : World) (r : Nat) (left : List Nat) (bad : Bool) : Prop :=
 ∃ v, w.heap[r]? = some (.cells #[v, .bool bad] 138 (0, 0)) ∧ Rd w v (left.map u8v) ∧ ∀ b off n c, v = .slice (some ⟨b, off, none⟩) n c -> 0 < n -> b < B ∧ b ≠ r
theorem IsRB.isR {B : Nat} {w : World} {r : Nat} {left : List Nat} {bad : Bool} (h : IsRB B w r left bad) : IsR w r left bad := by
 obtain ⟨v, h1, h2, _⟩ := h
 exact ⟨v, h1, h2⟩
theorem zEl {w : World} {r : Nat} {left : List Nat} {bad : Bool} (h : IsR w r left bad) : IsRB w.heap.size w r left bad := by
 obtain ⟨v, h1, h2⟩ := h
 refine ⟨v, h1, h2, fun b off n c hv hp => ?_⟩
 subst hv
 obtain ⟨hn, hc⟩ := zA0 h2
 obtain ⟨b', off', ha, hcell⟩ := hc hp
 simp only [Option.some.injEq, Addr.mk.injEq] at ha
 obtain ⟨rfl, rfl, _⟩ := ha
 have h0 := hcell 0 hp
 exact ⟨World.block_lt_of_cell? w _ h0, zJh h1 h0⟩
theorem zGc {B : Nat} {w : World} {r : Nat} {bad : Bool} (h : IsR w r [] bad) : IsRB B w r [] bad := by
 obtain ⟨v, h1, h2⟩ := h
 refine ⟨v, h1, h2, fun b off n c hv hp => ?_⟩
 subst hv
 have := (zA0 h2).1
 simp at this
 omega
theorem zPk {B : Nat} {w w' : World} {v : Value} {xs : List Value} {row : Option Nat} (h : Rd w v xs) (hd : ∀ b off n c, v = .slice (some ⟨b, off, none⟩) n c -> 0 < n -> some b ≠ row) (hg : w.grownBy w' row) : Rd w' v xs := by
 obtain ⟨ao, cap, hv, hn, hc⟩ := h
 refine ⟨ao, cap, hv, hn, fun hp => ?_⟩
 obtain ⟨b, off, ha, hcell⟩ := hc hp
 exact ⟨b, off, ha, fun i hi => hg.cell (hcell i hi) (hd b off _ _ (by rw [hv, ha]) hp)⟩
theorem IsRB.own {B : Nat} {w w' : World} {r : Nat} {left : List Nat} {bad : Bool} {row : Option Nat} (h : IsRB B w r left bad) (hg : w.grownBy w' row) (hrow : ∀ k, row = some k -> B <= k) (hr : r < B) : IsRB B w' r left bad := by
 obtain ⟨v, h1, h2, h3⟩ := h
 refine ⟨v, (hg.block r (Qd.1 h1).1 (fun e => by have := hrow r e.symm; omega)).trans h1, zPk (B := B) h2 (fun b off n c hv hp e => ?_) hg, h3⟩
 have := (h3 b off n c hv hp).1
 have := hrow b e.symm
 omega
theorem IsRB.mono {B B' : Nat} {w : World} {r : Nat} {left : List Nat} {bad : Bool} (h : IsRB B w r left bad) (hb : B <= B') : IsRB B' w r left bad := by
 obtain ⟨v, h1, h2, h3⟩ := h
 exact ⟨v, h1, h2, fun b off n c hv hp => ⟨by have := (h3 b off n c hv hp).1; omega, (h3 b off n c hv hp).2⟩⟩
theorem IsRB.kept {B : Nat} {w w' : World} {r : Nat} {left : List Nat} {bad : Bool} (h : IsRB B w r left bad) (hb : Below w.heap.size w w') (hr : r < B) : IsRB B w' r left bad := h.own (zAb hb none) (fun k e => by cases e) hr
theorem zDe {w0 w w' : World} {r base : Nat} {row : Option Nat} (h : w0.grownBy w (some r)) (hg : w.grownBy w' row) (hrow : ∀ k, row = some k -> w0.heap.size <= k) : w0.grownBy w' (some r) :=
 ⟨hg.os.trans h.os, hg.tape.trans h.tape, hg.output.trans h.output, Qb h.size hg.size, fun i hi hne => (hg.block i (Qs hi h.size) (fun e => by have := hrow i e.symm; omega)).trans (h.block i hi hne)⟩
theorem zG7 (B r : Nat) (left : List Nat) (bad : Bool) (w : World) (h : IsRB B w r left bad) (h256 : ∀ x ∈ left, x < 256) (hbig : left.length <= 1000000) :
  Calls Tryz.prog 50 #[.pointer (some ⟨r, 0, none⟩)] w fun e w' => e = .returned (.int .u64 ((numR left bad).1 : Nat)) ∧ IsRB B w' r (numR left bad).2.1 (numR left bad).2.2 ∧ w.grownBy w' (some r) := by
 unfold numR
 cases hq : nextC left with
 | none =>
  refine (zI2 r left bad w h.isR h256 (by omega) hq).mono ?_
  rintro e w' ⟨rfl, h1, h2⟩
  exact ⟨rfl, zGc h1, h2⟩
 | some p =>
  obtain ⟨u, n⟩ := p
  obtain ⟨hn1, hn2⟩ := zDx left u n hq
  obtain ⟨v, hv, hr, hd⟩ := h
  obtain ⟨c0, c1, f0, f1⟩ := zBb hv
  have HV := hid hv
  have HR := hid hr
  have HDB := hid hd
  have hr2 := hr
  obtain ⟨ao, cap, hvs, hrr⟩ := hr2
  clear hrr
  rw [Qa] at hvs
  subst hvs
  have HN := hid hq
  obtain ⟨len, hlen⟩ : ∃ len, len = left.length := ⟨_, rfl⟩
  rw [<- hlen] at c0 hbig hn2 HR HV HDB
  have HLEN := hid hlen
  clear hv hr hq hlen hd
  obtain ⟨b, off, rfl, hcell⟩ := (zA0 HR.out).2 (by omega)
  have HAP := hid (HDB.out b off len cap rfl (by omega))
  have hbig2 : len <= 140737488355328 := by omega
  clear hcell
  go_enter Tryz.func50, Tryz.ntmps50
  go_wp2_with fail
  refine (zCi _ len cap left w HR.out h256 hbig2).mono ?_
  rw [HN.out]
  rintro e w1 ⟨rfl, rfl⟩
  have hne : ((n : Int) == 0) = false := by rw [beq_eq_false_iff_ne]; omega
  go_wp2_with fail
  ·go_ret
   have hz : len - n = 0 := by have := zBr HR.out; omega
   refine ⟨rfl, ⟨_, Qv w r 0 _ _ _ HV.out, ?_, fun b' off' n' c' hv' hp => ?_⟩, zAi _ _ _⟩
   ·rw [hz, List.drop_of_length_le (by rw [<- HLEN.out]; omega)]
    exact zBx _ _ _
   ·simp only [Value.slice.injEq] at hv'
    omega
  ·go_ret
   refine ⟨rfl, ⟨_, Qv w r 0 _ _ _ HV.out, ?_, fun b' off' n' c' hv' hp => ?_⟩, zAi _ _ _⟩
   ·have hd := zCe HR.out hn2
    rw [<- Qr] at hd
    refine zKv hd fun b' off' c' n' hv' hp => ?_
    simp only [Value.slice.injEq, Option.some.injEq, Addr.mk.injEq] at hv'
    rw [<- hv'.1.1]
    exact HAP.out.2
   ·simp only [Value.slice.injEq, Option.some.injEq, Addr.mk.injEq] at hv'
    rw [<- hv'.1.1]
    exact HAP.out
theorem zGd (B r : Nat) (left : List Nat) (bad : Bool) (w : World) (h : IsRB B w r left bad) (h256 : ∀ x ∈ left, x < 256) (hbig : left.length <= 1000000) :
  Calls Tryz.prog 155 #[.pointer (some ⟨r, 0, none⟩)] w fun e w' => e = .returned (.int .i64 (takeR left bad).1) ∧ IsRB B w' r (takeR left bad).2.1 (takeR left bad).2.2 ∧ w.grownBy w' (some r) := by
 have HN := hid (zG7 B r left bad w h h256 hbig)
 have hu := zDs left bad
 clear h h256
 go_enter Tryz.func155, Tryz.ntmps155
 go_wp2_with fail
 refine HN.out.mono ?_
 rintro e w2 ⟨rfl, h2, hg2⟩
 have H2 := hid h2
 have HG2 := hid hg2
 have HZ := hid (zM0 (numR left bad).1 w2 hu)
 clear h2 hg2
 go_wp2_with fail
 refine HZ.out.mono ?_
 rintro e w3 ⟨rfl, rfl⟩
 go_wp2_with fail
 go_ret
 exact ⟨rfl, H2.out, HG2.out⟩
def RetOpt (base : Nat) (o : Option (List Int)) (e : Ending) (w' : World) : Prop := match o with
 | some l => ∃ v, e = .returned (.tuple #[v, .bool true]) ∧ OwnI base w' v l
 | none => e = .returned (.tuple #[.slice none 0 0, .bool false])
theorem zB4 {left : List Nat} {bad : Bool} (h : ∀ x ∈ left, x < 256) : ∀ x ∈ (takeR left bad).2.1, x < 256 := zEs h
theorem zB5 (left : List Nat) (bad : Bool) : (takeR left bad).2.1.length <= left.length := zEt left bad
theorem zC2 {left : List Nat} {bad : Bool} (h : ∀ x ∈ left, x < 256) : ∀ k, (∀ x ∈ (rdPlain k left bad).2.1, x < 256) ∧ (rdPlain k left bad).2.1.length <= left.length
 | 0 => ⟨h, Qc _⟩
 | k + 1 => by
  obtain ⟨h1, h2⟩ := zC2 h k
  rw [rdPlain]
  exact ⟨zB4 h1, Qb (zB5 _ _) h2⟩
theorem zD5 (base r : Nat) (left : List Nat) (bad : Bool) (l : List Int) (v : Value) (w : World) (h : IsR w r left bad) (hbig : left.length <= 1000000) (hown : OwnI base w v l) :
  Calls Tryz.prog 178 #[.pointer (some ⟨r, 0, none⟩), v] w fun e w' => RetOpt base (wholeT l left bad) e w' ∧ Below w.heap.size w w' := by
 have HOK := hid (zDh r left bad w h)
 have HRE := hid (zCj r left bad w h (by omega))
 have HO := hid hown
 clear h hown
 go_enter Tryz.func178, Tryz.ntmps178
 go_wp2_with fail
 refine HOK.out.mono ?_
 rintro e w2 ⟨rfl, rfl⟩
 cases bad
 ·go_wp2_with fail
  refine HRE.out.mono ?_
  rintro e w3 ⟨ao, cap, rfl, hown3, hb3⟩
  have HB3 := hid hb3
  have HO3 := hid (zDd HO.out hb3)
  rw [Qa]
  clear hown3 hb3
  by_cases h0 : left.length = 0
  ·have hg : decide ((left.length : Int) > 0) = false := by rw [decide_eq_false_iff_not]; omega
   have hl0 : left = [] := Qo.1 h0
   subst hl0
   go_wp2_with fail
   go_ret2
   exact ⟨⟨_, rfl, HO3.out⟩, HB3.out⟩
  ·have hg : decide ((left.length : Int) > 0) = true := by rw [decide_eq_true_iff]; omega
   have hg2 : (0 : Int) < (left.length : Int) := by omega
   have hno : wholeT l left false = none := by
    unfold wholeT
    rw [if_neg]
    rintro ⟨_, h⟩
    exact h0 (by rw [h]; rfl)
   have HNO := hid hno
   clear hno
   go_wp2_with fail
   go_ret2
   rw [HNO.out]
   exact ⟨rfl, HB3.out⟩
 ·go_wp2_with fail
  go_ret2
  exact ⟨rfl, Qe _ _⟩
theorem zBz {w w' : World} {o : Option Nat} (h : w.grownBy w' none) : w.grownBy w' o := ⟨h.os, h.tape, h.output, h.size, fun i hi _ => h.block i hi (by simp)⟩
theorem zA7 {b : Nat} {w : World} (h : b <= w.heap.size) (o : Obj) : b <= (w.alloc o).heap.size := by simp; omega
theorem zB1 {w w' : World} {r : Nat} (h : w.grownBy w' none) : w.grownBy w' (some r) := ⟨h.os, h.tape, h.output, h.size, fun i hi _ => h.block i hi (by simp)⟩
theorem zGe (r : Nat) (left : List Nat) (bad : Bool) (c : Nat) (w : World) (h : IsR w r left bad) (h256 : ∀ x ∈ left, x < 256) (hbig : left.length <= 1000000) (hc : c <= 65535) :
  Calls Tryz.prog 136 #[.agg #[.func (.func 154) #[] #[], .func (.func 155) #[] #[], .func (.func 153) #[] #[], .func (.func 156) #[] #[]], .pointer (some ⟨r, 0, none⟩), .int .i64 (c : Int)] w fun e w' => RetOpt w.heap.size (wholeT (rdPlain c left bad).1 (rdPlain c left bad).2.1 (rdPlain c left bad).2.2) e w' ∧ w.grownBy w' (some r) := by
 have hrl := h.lt
 have H := hid h
 have HM := hid (fun k => zC2 (bad := bad) h256 k)
 have HL := hid (zCx left bad)
 clear h h256
 go_enter Tryz.func136, Tryz.ntmps136
 go_upto_region 1 with (fail)
 obtain ⟨W1, hW1⟩ : ∃ W1 : World, W1 = w.alloc (.cells #[.func (.func 154) #[] #[], .func (.func 155) #[] #[], .func (.func 153) #[] #[], .func (.func 156) #[] #[]] 185) := ⟨_, rfl⟩
 obtain ⟨X, hX⟩ : ∃ X, X = w.heap.size := ⟨_, rfl⟩
 have hxb : W1.heap[X]? = some (.cells #[.func (.func 154) #[] #[], .func (.func 155) #[] #[], .func (.func 153) #[] #[], .func (.func 156) #[] #[]] 185 (0, 0)) := by rw [hW1, hX]; exact Qw w _
 have HB1 := hid (show Below w.heap.size w W1 by rw [hW1]; exact zAd w _)
 rw [<- hW1, <- hX]
 have HXX := hid (show X = w.heap.size ∧ X < W1.heap.size from ⟨hX, (Qd.1 hxb).1⟩)
 have HX := hid fun (w' : World) (h : Below W1.heap.size W1 w') => zAv ((h.block X HXX.out.2).trans hxb)
 clear hW1 hX hxb
 have HRB := hid (IsRB.mono (zEl (H.out.kept HB1.out)) (Qc _))
 have HX2 := hid (show ∀ wr : World, W1.grownBy wr (some r) -> wr.cell? ⟨X, 1, none⟩ = some (.func (.func 155) #[] #[]) from fun wr hg => hg.cell (HX.out W1 (Qe _ _)).2.1 (by rw [HXX.out.1]; simp; omega))
 have hrW : r < W1.heap.size := Qs hrl HB1.out.size
 have hc0 : (0 : Int) <= (c : Int) := by omega
 obtain ⟨ei, he1, he2, he3, he4⟩ : ∃ ei, Tryz.prog.info? 2 = some ei ∧ ei.zero = some (.int .i64 0) ∧ ei.size = 1 ∧ ei.bytes = 8 := by
  have h := zH5
  cases hq : Tryz.prog.info? 2 with
  | none => rw [hq] at h; cases h
  | some i =>
   rw [hq] at h
   simp only [Qj, Option.some.injEq, Prod.mk.injEq] at h
   exact ⟨i, rfl, h.1, h.2.1, h.2.2⟩
 obtain ⟨W2, hmk, hown2, hg2⟩ := run_make_own (P := Tryz.prog) W1 W1.heap.size 130 2 ei (.int .i64 0) 1 Tryz.underlying130 he1 he2 he3 .i64 .i64 c (by rw [he4]; omega) (by unfold maxLen; omega) (Qc _)
 obtain ⟨mv, hmv⟩ : ∃ mv, mv = Value.slice (some ⟨W1.heap.size, 0, none⟩) 0 c := ⟨_, rfl⟩
 rw [<- hmv] at hmk hown2
 have HO2 := hid (show OwnI W1.heap.size W2 mv [] from hown2)
 have HG2 := hid (show W1.grownBy W2 (some r) from zB1 hg2)
 have HRB2 := hid (HRB.out.own hg2 (fun k e => by cases e) hrW)
 clear hown2 hg2 he1 he2 he3 he4 hmv
 go_upto_region 2 with (fail)
 clear hmk
 go_wp2_with fail
 go_loopw [8, 12] (fun v i wr => ∃ q : Nat, q <= c ∧ i = .int .i64 (q : Int) ∧ OwnI W1.heap.size wr v (rdPlain q left bad).1 ∧ IsRB W1.heap.size wr r (rdPlain q left bad).2.1 (rdPlain q left bad).2.2 ∧ W1.grownBy wr (some r)) (fun _ i _ => c - (intOf i).toNat)
 case atStart => exact ⟨0, Qi _, rfl, HO2.out, HRB2.out, HG2.out⟩
 case round =>
  obtain ⟨q, hq, rfl, hown, hrb, hgr⟩ := hrel
  have HO := hid hown
  have HRBQ := hid hrb
  have HG := hid hgr
  have hszr : W1.heap.size <= wr.heap.size := hgr.size
  clear hown hrb hgr
  by_cases hlt : q < c
  ·have hlti : (q : Int) < (c : Int) := by omega
   have hq0 : (0 : Int) <= (q : Int) := by omega
   have cf := HX2.out wr HG.out
   obtain ⟨hm1, hm2⟩ := HM.out q
   have HT := hid (zGd W1.heap.size r _ _ wr HRBQ.out hm1 (by omega))
   clear hm1 hm2
   go_wp2_with fail
   refine HT.out.mono ?_
   rintro e w3 ⟨rfl, hrb3, hg3⟩
   obtain ⟨ao, cap, rfl⟩ := HO.out.shape
   obtain ⟨z, hz⟩ : ∃ z, z = (takeR (rdPlain q left bad).2.1 (rdPlain q left bad).2.2).1 := ⟨_, rfl⟩
   rw [<- hz]
   have HZ := hid hz
   have hlen : (rdPlain q left bad).1.length = q := HL.out q
   have HO3 := hid (show OwnI W1.heap.size w3 (.slice ao (rdPlain q left bad).1.length cap) (rdPlain q left bad).1 from HO.out.kept hg3 (.inr (fun e => by have := zD4 HO.out r e; omega)))
   have HG3 := hid (show W1.grownBy w3 (some r) from zAc HG.out hg3)
   have HRB3 := hid hrb3
   clear hrb3 hg3 hz cf HT
   rw [hlen] at HO HO3 ⊢
   have HLN := hid hlen
   have hsz3 : W1.heap.size <= w3.heap.size := HG3.out.size
   clear hlen
   have HOA := hid (show (w3.alloc (.cells #[.int .i64 z] 2)).ownsRow W1.heap.size 2 1 (.slice ao q cap) q ((rdPlain q left bad).1.map (Value.int .i64)) from by have h := World.ownsRow.alloc HO3.out (.cells #[.int .i64 z] 2); rw [HLN.out] at h; exact h)
   have HLT := hid (zBa w3 #[.int .i64 z] 2 1 rfl)
   have hsz4 : W1.heap.size <= (w3.alloc (.cells #[.int .i64 z] 2)).heap.size := zA7 hsz3 _
   have HONE := hid (show Ones 1 [[Value.int .i64 z]] from fun t ht => by rw [Qt.1 ht]; exact ⟨rfl, fun u hu => by rw [Qt.1 hu]; rfl⟩)
   go_wp2_with (at_builtin; go_must (refine zAf zG2 rfl _ _ rfl W1.heap.size _ _ _ rfl HOA.out _ [[Value.int .i64 z]] rfl HLT.out HONE.out (by simp; omega) hsz4 (q + 1) rfl ?_); intro ao4 cap4 w4 hown4 hgrow4 hnew4; have HO4 := hid hown4; have HG4 := hid hgrow4; clear hown4 hgrow4 hnew4)
   go_roundw
   case rel =>
    have hg4 : w3.grownBy w4 (Value.slice ao q cap).ownBlock := zAc (zBz (World.grownBy_alloc w3 _ none)) HG4.out
    have hk4 : ∀ k, (Value.slice ao q cap).ownBlock = some k -> W1.heap.size <= k := by have h := zD4 HO3.out; exact h
    refine ⟨q + 1, by omega, by go_num, ?_, ?_, zDe (base := 0) HG3.out hg4 hk4⟩
    ·have h := HO4.out
     rw [rdPlain, <- HZ.out]
     exact OwnI.of (by simpa using h)
    ·have h := HRB3.out.own hg4 hk4 hrW
     rw [rdPlain]
     exact h
   case measure => simp [intOf]; omega
  ·have hqc : q = c := by omega
   subst hqc
   have hlti : ¬ (q : Int) < (q : Int) := by omega
   have hm2 := (HM.out q).2
   have HW := hid (zD5 W1.heap.size r _ _ _ _ wr HRBQ.out.isR (by omega) HO.out)
   clear hm2
   go_wp2_with fail
   refine HW.out.mono ?_
   rintro e w5 ⟨hret, hb5⟩
   have HG5 := hid (show w.grownBy w5 (some r) from zAc (zAc (zAb HB1.out _) HG.out) (zAb hb5 _))
   obtain ⟨o, ho⟩ : ∃ o, o = wholeT (rdPlain q left bad).1 (rdPlain q left bad).2.1 (rdPlain q left bad).2.2 := ⟨_, rfl⟩
   rw [<- ho] at hret
   have HOO := hid ho
   have hHW := HB1.out.size
   clear ho hb5 HW
   cases o with
   | none =>
    obtain rfl : e = .returned (.tuple #[.slice none 0 0, .bool false]) := hret
    go_wp2_with fail
    go_ret2
    rw [<- HOO.out]
    exact ⟨rfl, HG5.out⟩
   | some lz =>
    obtain ⟨v5, rfl, hown5⟩ := hret
    have HO5 := hid hown5
    clear hown5
    go_wp2_with fail
    go_ret2
    rw [<- HOO.out]
    exact ⟨⟨_, rfl, zAo HO5.out hHW⟩, HG5.out⟩
end Go.Proofs.YtmpgnjhgegbdkaaGreat
