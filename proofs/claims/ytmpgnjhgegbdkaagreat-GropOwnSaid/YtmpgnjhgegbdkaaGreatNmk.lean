import Derived.Test.YtmpgnjhgegbdkaaGreatZsafem
set_option linter.unusedVariables false
set_option linter.unusedSimpArgs false
set_option maxRecDepth 100000
set_option maxHeartbeats 8000000
open Go.Lib (hid)
namespace Go.Proofs.YtmpgnjhgegbdkaaGreat
open Go.RowKit
open Go.RowKit.Below renaming refl -> Qa
open _root_.Nat renaming zero_le -> Qb
open _root_.List renaming length_map -> Qc, getElem?_eq_getElem -> Qe, mem_of_getElem? -> Qf, length_take -> Qg, getElem?_take -> Qh, getElem?_of_mem -> Qi
open Go.World renaming block_lt_of_cell? -> Qd
open _root_.Array renaming getElem?_eq_some_iff -> Qj
open Go renaming cell_of_row -> Qk, heap_alloc_new -> Ql
theorem RdC.take {w : World} {ao : Option Addr} {n cap : Nat} {l : List Co} (h : RdC w (.slice ao n cap) l) {k : Nat} (hk : k <= n) : RdC w (.slice ao k cap) (l.take k) := by
 obtain ⟨a, c, e, h0, hc⟩ := h
 simp only [Value.slice.injEq, Qc] at e
 obtain ⟨rfl, rfl, rfl⟩ := e
 simp only [Qc] at h0
 refine ⟨ao, cap, by simp [Nat.min_eq_left hk], ⟨h0.1, by simp only [Qc, Qg]; omega⟩, fun j t ht => ?_⟩
 rw [List.map_take, Qh] at ht
 split at ht
 ·exact hc j t ht
 ·cases ht
def nm7 (k : Nat) : ByteArray := match k with
 | 0 => ⟨#[107, 101, 121]⟩
 | 1 => ⟨#[97]⟩
 | 2 => ⟨#[98, 98]⟩
 | 3 => ⟨#[99, 99, 99]⟩
 | 4 => ⟨#[110, 117, 108, 108]⟩
 | 5 => ⟨#[97, 110, 100]⟩
 | _ => ⟨#[98]⟩
theorem zRb (w : World) : Calls Tryz.prog 67 #[.string ⟨#[107, 101, 121]⟩] w fun e w' => e = .returned (.bool true) ∧ Below w.heap.size w w' := by
 go_enter Tryz.func67, Tryz.ntmps67
 go_wp2_with fail
 go_loopw [14] (fun i wr => ∃ q : Nat, q <= 3 ∧ i = .int .i64 (q : Int) ∧ Below w.heap.size w wr) (fun i _ => 3 - (intOf i).toNat)
 case atStart => exact ⟨0, Qb _, rfl, Qa _ _⟩
 case round =>
  obtain ⟨q, hq, rfl, hb⟩ := hrel
  have HB := hid hb
  clear hb
  rcases (by omega : q = 0 ∨ q = 1 ∨ q = 2 ∨ q = 3) with rfl | rfl | rfl | rfl
  ·go_wp2_with fail
   go_roundw
   case rel => exact ⟨1, by decide, rfl, HB.out⟩
   case measure => simp [intOf]
  ·go_wp2_with fail
   go_roundw
   case rel => exact ⟨2, by decide, rfl, HB.out⟩
   case measure => simp [intOf]
  ·go_wp2_with fail
   go_roundw
   case rel => exact ⟨3, by decide, rfl, HB.out⟩
   case measure => simp [intOf]
  ·go_wp2_with fail
   go_ret
   exact ⟨rfl, HB.out⟩
theorem zRc (w : World) : Calls Tryz.prog 67 #[.string ⟨#[97]⟩] w fun e w' => e = .returned (.bool true) ∧ Below w.heap.size w w' := by
 go_enter Tryz.func67, Tryz.ntmps67
 go_wp2_with fail
 go_loopw [14] (fun i wr => ∃ q : Nat, q <= 1 ∧ i = .int .i64 (q : Int) ∧ Below w.heap.size w wr) (fun i _ => 1 - (intOf i).toNat)
 case atStart => exact ⟨0, Qb _, rfl, Qa _ _⟩
 case round =>
  obtain ⟨q, hq, rfl, hb⟩ := hrel
  have HB := hid hb
  clear hb
  rcases (by omega : q = 0 ∨ q = 1) with rfl | rfl
  ·go_wp2_with fail
   go_roundw
   case rel => exact ⟨1, by decide, rfl, HB.out⟩
   case measure => simp [intOf]
  ·go_wp2_with fail
   go_ret
   exact ⟨rfl, HB.out⟩
theorem zRd (w : World) : Calls Tryz.prog 67 #[.string ⟨#[98, 98]⟩] w fun e w' => e = .returned (.bool true) ∧ Below w.heap.size w w' := by
 go_enter Tryz.func67, Tryz.ntmps67
 go_wp2_with fail
 go_loopw [14] (fun i wr => ∃ q : Nat, q <= 2 ∧ i = .int .i64 (q : Int) ∧ Below w.heap.size w wr) (fun i _ => 2 - (intOf i).toNat)
 case atStart => exact ⟨0, Qb _, rfl, Qa _ _⟩
 case round =>
  obtain ⟨q, hq, rfl, hb⟩ := hrel
  have HB := hid hb
  clear hb
  rcases (by omega : q = 0 ∨ q = 1 ∨ q = 2) with rfl | rfl | rfl
  ·go_wp2_with fail
   go_roundw
   case rel => exact ⟨1, by decide, rfl, HB.out⟩
   case measure => simp [intOf]
  ·go_wp2_with fail
   go_roundw
   case rel => exact ⟨2, by decide, rfl, HB.out⟩
   case measure => simp [intOf]
  ·go_wp2_with fail
   go_ret
   exact ⟨rfl, HB.out⟩
theorem zRe (w : World) : Calls Tryz.prog 67 #[.string ⟨#[99, 99, 99]⟩] w fun e w' => e = .returned (.bool true) ∧ Below w.heap.size w w' := by
 go_enter Tryz.func67, Tryz.ntmps67
 go_wp2_with fail
 go_loopw [14] (fun i wr => ∃ q : Nat, q <= 3 ∧ i = .int .i64 (q : Int) ∧ Below w.heap.size w wr) (fun i _ => 3 - (intOf i).toNat)
 case atStart => exact ⟨0, Qb _, rfl, Qa _ _⟩
 case round =>
  obtain ⟨q, hq, rfl, hb⟩ := hrel
  have HB := hid hb
  clear hb
  rcases (by omega : q = 0 ∨ q = 1 ∨ q = 2 ∨ q = 3) with rfl | rfl | rfl | rfl
  ·go_wp2_with fail
   go_roundw
   case rel => exact ⟨1, by decide, rfl, HB.out⟩
   case measure => simp [intOf]
  ·go_wp2_with fail
   go_roundw
   case rel => exact ⟨2, by decide, rfl, HB.out⟩
   case measure => simp [intOf]
  ·go_wp2_with fail
   go_roundw
   case rel => exact ⟨3, by decide, rfl, HB.out⟩
   case measure => simp [intOf]
  ·go_wp2_with fail
   go_ret
   exact ⟨rfl, HB.out⟩
theorem zRf (w : World) : Calls Tryz.prog 67 #[.string ⟨#[110, 117, 108, 108]⟩] w fun e w' => e = .returned (.bool true) ∧ Below w.heap.size w w' := by
 go_enter Tryz.func67, Tryz.ntmps67
 go_wp2_with fail
 go_loopw [14] (fun i wr => ∃ q : Nat, q <= 4 ∧ i = .int .i64 (q : Int) ∧ Below w.heap.size w wr) (fun i _ => 4 - (intOf i).toNat)
 case atStart => exact ⟨0, Qb _, rfl, Qa _ _⟩
 case round =>
  obtain ⟨q, hq, rfl, hb⟩ := hrel
  have HB := hid hb
  clear hb
  rcases (by omega : q = 0 ∨ q = 1 ∨ q = 2 ∨ q = 3 ∨ q = 4) with rfl | rfl | rfl | rfl | rfl
  ·go_wp2_with fail
   go_roundw
   case rel => exact ⟨1, by decide, rfl, HB.out⟩
   case measure => simp [intOf]
  ·go_wp2_with fail
   go_roundw
   case rel => exact ⟨2, by decide, rfl, HB.out⟩
   case measure => simp [intOf]
  ·go_wp2_with fail
   go_roundw
   case rel => exact ⟨3, by decide, rfl, HB.out⟩
   case measure => simp [intOf]
  ·go_wp2_with fail
   go_roundw
   case rel => exact ⟨4, by decide, rfl, HB.out⟩
   case measure => simp [intOf]
  ·go_wp2_with fail
   go_ret
   exact ⟨rfl, HB.out⟩
theorem zRg (w : World) : Calls Tryz.prog 67 #[.string ⟨#[97, 110, 100]⟩] w fun e w' => e = .returned (.bool true) ∧ Below w.heap.size w w' := by
 go_enter Tryz.func67, Tryz.ntmps67
 go_wp2_with fail
 go_loopw [14] (fun i wr => ∃ q : Nat, q <= 3 ∧ i = .int .i64 (q : Int) ∧ Below w.heap.size w wr) (fun i _ => 3 - (intOf i).toNat)
 case atStart => exact ⟨0, Qb _, rfl, Qa _ _⟩
 case round =>
  obtain ⟨q, hq, rfl, hb⟩ := hrel
  have HB := hid hb
  clear hb
  rcases (by omega : q = 0 ∨ q = 1 ∨ q = 2 ∨ q = 3) with rfl | rfl | rfl | rfl
  ·go_wp2_with fail
   go_roundw
   case rel => exact ⟨1, by decide, rfl, HB.out⟩
   case measure => simp [intOf]
  ·go_wp2_with fail
   go_roundw
   case rel => exact ⟨2, by decide, rfl, HB.out⟩
   case measure => simp [intOf]
  ·go_wp2_with fail
   go_roundw
   case rel => exact ⟨3, by decide, rfl, HB.out⟩
   case measure => simp [intOf]
  ·go_wp2_with fail
   go_ret
   exact ⟨rfl, HB.out⟩
theorem zRh (w : World) : Calls Tryz.prog 67 #[.string ⟨#[98]⟩] w fun e w' => e = .returned (.bool true) ∧ Below w.heap.size w w' := by
 go_enter Tryz.func67, Tryz.ntmps67
 go_wp2_with fail
 go_loopw [14] (fun i wr => ∃ q : Nat, q <= 1 ∧ i = .int .i64 (q : Int) ∧ Below w.heap.size w wr) (fun i _ => 1 - (intOf i).toNat)
 case atStart => exact ⟨0, Qb _, rfl, Qa _ _⟩
 case round =>
  obtain ⟨q, hq, rfl, hb⟩ := hrel
  have HB := hid hb
  clear hb
  rcases (by omega : q = 0 ∨ q = 1) with rfl | rfl
  ·go_wp2_with fail
   go_roundw
   case rel => exact ⟨1, by decide, rfl, HB.out⟩
   case measure => simp [intOf]
  ·go_wp2_with fail
   go_ret
   exact ⟨rfl, HB.out⟩
theorem zOh {k : Nat} (hk : k < 7) (w : World) :
  Calls Tryz.prog 67 #[.string (nm7 k)] w fun e w' => e = .returned (.bool true) ∧ Below w.heap.size w w' := by
 rcases (by omega : k = 0 ∨ k = 1 ∨ k = 2 ∨ k = 3 ∨ k = 4 ∨ k = 5 ∨ k = 6) with rfl | rfl | rfl | rfl | rfl | rfl | rfl
 ·exact zRb w
 ·exact zRc w
 ·exact zRd w
 ·exact zRe w
 ·exact zRf w
 ·exact zRg w
 ·exact zRh w
theorem zOi (k : Int) (hk : k = 1 ∨ k = 2) (w : World) :
  Calls Tryz.prog 68 #[.int .i64 k] w fun e w' => e = .returned (.bool true) ∧ Below w.heap.size w w' := by
 rcases hk with rfl | rfl
 ·go_enter Tryz.func68, Tryz.ntmps68
  go_wp2_with fail
  go_ret
  exact ⟨rfl, Qa _ _⟩
 ·go_enter Tryz.func68, Tryz.ntmps68
  go_wp2_with fail
  go_ret
  exact ⟨rfl, Qa _ _⟩
theorem zP3 (nm x : ByteArray) (k : Int) (u : Bool) (c : Nat) (w : World) (hne : (x.toList == nm.toList) = false) (hc : w.cell? ⟨c, 0, none⟩ = some (.string nm)) :
  Calls Tryz.prog 94 #[.agg #[.string x, .int .i64 k, .bool u], .pointer (some ⟨c, 0, none⟩)] w fun e w' => e = .returned (.bool false) ∧ Below w.heap.size w w' := by
 have lc := Qd w _ hc
 have hc2 : (w.alloc (.cells #[.string x, .int .i64 k, .bool u] 46)).cell? ⟨c, 0, none⟩ = some (.string nm) := Lib.cell?_alloc_some _ hc
 go_enter Tryz.func94, Tryz.ntmps94
 go_wp2_with fail
 go_ret
 exact ⟨rfl, zAd w _⟩
theorem zKi (l : List Co) (hl : l.length <= 1000) (v : Value) (nm : ByteArray) (c : Nat) (w : World) (hr : RdC w v l) (hno : ∀ x ∈ l, (x.n.toList == nm.toList) = false) (hc : w.cell? ⟨c, 0, none⟩ = some (.string nm)) :
  Calls Tryz.prog 119 #[v, .func (.func 94) #[] #[.pointer (some ⟨c, 0, none⟩)]] w fun e w' => e = .returned (.int .i64 (-1)) ∧ Below w.heap.size w w' := by
 obtain ⟨ao, cap, rfl⟩ := zBs hr
 obtain ⟨n, hn⟩ : ∃ n, n = l.length := ⟨_, rfl⟩
 rw [<- hn] at hr hl ⊢
 have HN := hid hn
 have HR := hid hr
 have HC := hid hc
 have HNO := hid hno
 clear hn hr hc hno
 go_enter Tryz.func119, Tryz.ntmps119
 go_wp2_with fail
 go_loopw [8] (fun i wr => ∃ q : Nat, q <= n ∧ i = .int .i64 (q : Int) ∧ Below w.heap.size w wr) (fun i _ => n - (intOf i).toNat)
 case atStart => exact ⟨0, Qb _, rfl, Qa _ _⟩
 case round =>
  obtain ⟨q, hq, rfl, hb⟩ := hrel
  have HB := hid hb
  by_cases hlt : q < n
  ·obtain ⟨x, hx⟩ : ∃ x, l[q]? = some x := ⟨_, Qe (by rw [<- HN.out]; exact hlt)⟩
   obtain ⟨b, off, rfl, k0, k1, k2⟩ := RdC.at (RdC.kept HR.out hb) hx
   have HCALL := hid (zP3 nm x.n x.k x.u c wr (HNO.out x (Qf hx)) ((hb.cell (p := ⟨c, 0, none⟩) (Qd _ _ HC.out)).trans HC.out))
   clear hb hx
   go_wp2_with fail
   refine HCALL.out.mono ?_
   rintro e w2 ⟨rfl, hb2⟩
   have HB2 := hid (zAa HB.out hb2)
   clear hb2
   go_wp2_with fail
   go_roundw
   case rel => exact ⟨q + 1, by omega, by go_num, HB2.out⟩
   case measure => simp [intOf]; omega
  ·have hqn : q = n := by omega
   clear hb hqn
   go_wp2_with fail
   go_ret
   exact ⟨rfl, HB.out⟩
theorem zRi (l : List Co) (hl : l.length <= 1000) (v : Value) (nm : ByteArray) (w : World) (hr : RdC w v l) (hno : ∀ x ∈ l, (x.n.toList == nm.toList) = false) :
  Calls Tryz.prog 69 #[v, .string nm] w fun e w' => e = .returned (.bool false) ∧ Below w.heap.size w w' := by
 obtain ⟨ao, cap, rfl⟩ := zBs hr
 obtain ⟨n, hn⟩ : ∃ n, n = l.length := ⟨_, rfl⟩
 rw [<- hn] at hr ⊢
 have hc : (w.alloc (.cells #[.string nm] 9)).cell? ⟨w.heap.size, 0, none⟩ = some (.string nm) := by rw [Qk _ _ 0 _ _ _ (Ql w _)]; rfl
 have HI := hid (zKi l hl _ nm w.heap.size (w.alloc (.cells #[.string nm] 9)) (RdC.kept hr (zAd w _)) hno hc)
 have HBA := hid (zAd w (.cells #[.string nm] 9))
 clear hr hn hc hno
 go_enter Tryz.func69, Tryz.ntmps69
 go_wp2_with fail
 refine (show Calls Tryz.prog 93 #[.slice ao n cap, .func (.func 94) #[] #[.pointer (some ⟨w.heap.size, 0, none⟩)]] _ (fun e w' => e = .returned (.bool false) ∧ Below w.heap.size w w') from ?_).mono ?_
 ·go_enter Tryz.func93, Tryz.ntmps93
  go_wp2_with fail
  refine HI.out.mono ?_
  rintro e w2 ⟨rfl, hb2⟩
  have HB2 := hid (zAa HBA.out hb2)
  clear hb2
  go_wp2_with fail
  go_ret
  exact ⟨rfl, HB2.out⟩
 ·rintro e w2 ⟨rfl, hb2⟩
  have HB2 := hid hb2
  clear hb2
  go_wp2_with fail
  go_ret
  exact ⟨rfl, HB2.out⟩
structure SchOk (cols : List Co) : Prop where
 ok : ColsOk cols
 nm : ∀ c ∈ cols, ∃ k, k < 7 ∧ c.n = nm7 k
 ne : ∀ (k : Nat) (c : Co), cols[k]? = some c -> ∀ x ∈ cols.take k, (x.n.toList == c.n.toList) = false
def nm6 (k : Nat) : ByteArray := match k with
 | 0 => ⟨#[107, 101, 121]⟩
 | k + 1 => nameOf k
theorem zGl {n : Int} {k : Nat} {co : Co} (h : (colsN n)[k]? = some co) : k < 6 ∧ co.n = nm6 k := by
 have hk := (List.getElem?_eq_some_iff.1 h).1
 have h6 := (zIf n).le
 refine ⟨by omega, ?_⟩
 unfold colsN colsOf at h
 cases k with
 | zero => simp only [List.getElem?_cons_zero, Option.some.injEq] at h; rw [<- h]; rfl
 | succ k =>
  rw [List.getElem?_cons_succ, List.getElem?_map, List.getElem?_zipIdx] at h
  cases hx : (kindsOf n)[k]? with
  | none => rw [hx] at h; simp at h
  | some c =>
   rw [hx] at h
   simp only [Option.map_some, Option.some.injEq, Nat.zero_add] at h
   rw [<- h]
   rfl
theorem zS2 : ∀ {j k : Nat}, j < k -> k < 6 -> ((nm6 j).toList == (nm6 k).toList) = false := fun {j k} h1 h2 => by
 rcases (by omega : k = 1 ∨ k = 2 ∨ k = 3 ∨ k = 4 ∨ k = 5) with rfl | rfl | rfl | rfl | rfl
 all_goals
  rcases (by omega : j = 0 ∨ j = 1 ∨ j = 2 ∨ j = 3 ∨ j = 4) with rfl | rfl | rfl | rfl | rfl
  all_goals first | (exfalso; omega) | kernel_rfl
theorem zMs {n : Int} {k : Nat} {co : Co} (h : (colsN n)[k]? = some co) : ∀ c ∈ (colsN n).take k, (c.n.toList == co.n.toList) = false := fun c hc => by
 obtain ⟨j, hj⟩ := Qi hc
 rw [Qh] at hj
 split at hj
 ·rename_i hjk
  rw [(zGl hj).2, (zGl h).2]
  exact zS2 hjk (zGl h).1
 ·cases hj
theorem zNc (n : Int) : SchOk (colsN n) where
 ok := zIf n
 nm := fun c hc => by
  obtain ⟨k, hk⟩ := Qi hc
  have h := zGl hk
  refine ⟨k, by omega, h.2.trans ?_⟩
  rcases (by omega : k = 0 ∨ k = 1 ∨ k = 2 ∨ k = 3 ∨ k = 4 ∨ k = 5) with rfl | rfl | rfl | rfl | rfl | rfl <;> rfl
 ne := fun k c hc => zMs hc
theorem zRj (cols : List Co) (hsc : SchOk cols) (sv : Value) (w : World) (hv : RdC w sv cols) :
  Calls Tryz.prog 42 #[.agg #[sv]] w fun e w' => e = .returned (.bool true) ∧ Below w.heap.size w w' := by
 obtain ⟨so, sc, rfl⟩ := zBs hv
 obtain ⟨sn, hsn⟩ : ∃ sn, sn = cols.length := ⟨_, rfl⟩
 rw [<- hsn] at hv ⊢
 have hne : 0 < sn := by have := hsc.ok.ne; omega
 have hle : sn <= 6 := by have := hsc.ok.le; omega
 have q0 : ((sn : Int) == 0) = false := by rw [beq_eq_false_iff_ne]; omega
 have q1 : decide ((sn : Int) > 6) = false := by rw [decide_eq_false_iff_not]; omega
 have q2 : ¬ (6 < (sn : Int)) := by omega
 have q3 : ¬ (6 < sn) := by omega
 have q4 : ¬ (sn = 0) := by omega
 have HV := hid (RdC.kept hv (zAd w (.cells #[.slice so sn sc] 24)))
 have HW := hid (zAd w (.cells #[.slice so sn sc] 24))
 have hsb := Ql w (.cells #[.slice so sn sc] 24)
 obtain ⟨W, hW⟩ : ∃ W : World, W = w.alloc (.cells #[.slice so sn sc] 24) := ⟨_, rfl⟩
 obtain ⟨SB, hSB⟩ : ∃ SB, SB = w.heap.size := ⟨_, rfl⟩
 have HSN := hid hsn
 go_enter Tryz.func42, Tryz.ntmps42
 clear hv hsn
 go_upto_region 1 with (fail)
 rw [<- hW] at HV HW hsb ⊢
 rw [<- hSB] at hsb ⊢
 have HSB := hid hsb
 have cs0 : W.cell? ⟨SB, 0, none⟩ = some (.slice so sn sc) := by rw [Qk W SB 0 _ _ _ hsb]; rfl
 clear hW hSB hsb
 go_wp2_with fail
 clear cs0
 go_loopw [19] (fun i wr => ∃ q : Nat, q <= sn ∧ i = .int .i64 (q : Int) ∧ Below W.heap.size W wr) (fun i _ => sn - (intOf i).toNat)
 case atStart => exact ⟨0, Qb _, rfl, Qa _ _⟩
 case round =>
  obtain ⟨q, hq, rfl, hb⟩ := hrel
  have HB := hid hb
  have hsb := (hb.block SB (Qj.1 HSB.out).1).trans HSB.out
  by_cases hlt : q < sn
  ·obtain ⟨x, hx⟩ : ∃ x, cols[q]? = some x := ⟨_, Qe (by rw [<- HSN.out]; exact hlt)⟩
   have HX := hid hx
   have hk := hsc.ok.ks x (Qf hx)
   have hV := RdC.kept HV.out hb
   obtain ⟨b, off, rfl, k0, k1, k2⟩ := RdC.at hV hx
   have HVR := hid hV
   obtain ⟨xn, xk, xu⟩ := x
   simp only at k0 k1 k2 hk
   obtain ⟨k7, hx6, hxn⟩ := hsc.nm _ (Qf hx)
   simp only at hxn
   have HC1 := hid fun w' => zOh hx6 w'
   rw [<- hxn] at HC1
   have HC2 := hid fun w' => zOi xk hk w'
   have HTK := hid fun w' (h : Below W.heap.size W w') => zRi (cols.take q) (by rw [Qg, <- HSN.out]; omega) _ xn w' (RdC.take (RdC.kept HV.out h) hq) (hsc.ne q _ hx)
   clear hb hx hk hV hxn hx6
   have hqs : q <= sn := hq
   have hqi : (q : Int) <= (sn : Int) := by omega
   go_upto_region 6 with (fail)
   obtain ⟨W5, hW5⟩ : ∃ W5 : World, W5 = wr.alloc (.cells #[.string xn, .int .i64 xk, .bool xu] 46) := ⟨_, rfl⟩
   rw [<- hW5]
   have hby : Below wr.heap.size wr W5 := by rw [hW5]; exact zAd _ _
   have hxb : W5.heap[wr.heap.size]? = some (.cells #[.string xn, .int .i64 xk, .bool xu] 46 (0, 0)) := by rw [hW5]; exact Ql wr _
   replace hsb := (hby.block SB (Qj.1 hsb).1).trans hsb
   obtain ⟨XB, hXB⟩ : ∃ XB, XB = wr.heap.size := ⟨_, rfl⟩
   rw [<- hXB] at hxb ⊢
   have HB5 := hid (zAa HB.out hby)
   clear hby hW5 hXB k0 k1 k2
   have cs0 : W5.cell? ⟨SB, 0, none⟩ = some (.slice (some ⟨b, off, none⟩) sn sc) := by rw [Qk W5 SB 0 _ _ _ hsb]; rfl
   have cx0 : W5.cell? ⟨XB, 0, none⟩ = some (.string xn) := by rw [Qk W5 XB 0 _ _ _ hxb]; rfl
   have cx1 : W5.cell? ⟨XB, 1, none⟩ = some (.int .i64 xk) := by rw [Qk W5 XB 1 _ _ _ hxb]; rfl
   clear hsb hxb
   have hcap : sn <= sc := by
    obtain ⟨_, _, e0, h0, _⟩ := HVR.out
    simp only [Value.slice.injEq, Qc] at e0
    obtain ⟨_, e1, e2⟩ := e0
    have := h0.2
    rw [Qc] at this
    omega
   have hqc : q <= sc := by omega
   have hqci : (q : Int) <= (sc : Int) := by omega
   set_option maxRecDepth 1000000 in
   go_region_held3 (fun w' => w'.cell? ⟨SB, 0, none⟩ = some (.slice (some ⟨b, off, none⟩) sn sc) ∧ w'.cell? ⟨XB, 0, none⟩ = some (.string xn) ∧ w'.cell? ⟨XB, 1, none⟩ = some (.int .i64 xk) ∧ Below W5.heap.size W5 w')
    (first | assumption | exact zAm _ _ | exact Qa _ _ | exact ⟨(by first | assumption | exact (hB9.cell (Qd _ _ cs0)).trans cs0), (by first | assumption | exact (hB9.cell (Qd _ _ cx0)).trans cx0), (by first | assumption | exact (hB9.cell (Qd _ _ cx1)).trans cx1), (by first | assumption | exact zAm _ _ | exact Qa _ _)⟩)
    (first
     | (go_at_call 67; refine (HC1.out _).mono ?_; rintro e wA ⟨rfl, hbA⟩; have hBA : Below W5.heap.size W5 wA := (by first | exact hbA | exact zAa (zAm _ _) hbA); have hB9 := hBA)
     | (go_at_call 68; refine (HC2.out _).mono ?_; rintro e wB ⟨rfl, hbB⟩; have hBB : Below W5.heap.size W5 wB := zAa hBA hbB; have hB9 := hBB)
     | (go_at_call 69; refine (HTK.out _ (zAa HB5.out hBB)).mono ?_; rintro e wC ⟨rfl, hbC⟩; have hBC : Below W5.heap.size W5 wC := zAa hBB hbC; have hB9 := hBC))
   all_goals
    go_wp2_with fail
    go_roundw
    case rel => exact ⟨q + 1, by omega, by go_num, zAa HB5.out hBC⟩
    case measure => simp [intOf]; omega
  ·have hqn : q = sn := by omega
   have cs0 : wr.cell? ⟨SB, 0, none⟩ = some (.slice so sn sc) := by rw [Qk wr SB 0 _ _ _ hsb]; rfl
   obtain ⟨x, hx⟩ : ∃ x, cols[0]? = some x := ⟨_, Qe (by rw [<- HSN.out]; exact hne)⟩
   have hk := hsc.ok.hd x hx
   have hV := RdC.kept HV.out hb
   obtain ⟨b, off, rfl, k0, k1, k2⟩ := RdC.at hV hx
   simp only [Nat.zero_mul, Nat.add_zero] at k0 k1 k2
   rw [hk.1] at k1
   rw [hk.2] at k2
   have HF := fun o => hid (zAl (zAa HW.out hb) o)
   clear hb hsb hqn hx hk hV
   go_wp2_with fail
   go_ret
   exact ⟨rfl, (HF _).out⟩
end Go.Proofs.YtmpgnjhgegbdkaaGreat
