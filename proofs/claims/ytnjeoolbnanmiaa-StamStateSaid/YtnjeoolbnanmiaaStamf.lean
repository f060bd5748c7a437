/-
  Contracts of layer 11's Stamp and Txns, and of SamePlaces.
-/
import Derived.Test.YtnjeoolbnanmiaaSees
namespace Go.Proofs.Ytnjeoolbnanmiaa
set_option linter.unusedVariables false
open Go.RowKit

/-- A stamp of a number. -/
def stampOf (n : Int) : Int × Int := if bits .and .i64 n 1 = 0 then (0, bits .and .i64 (n / 2) 15) else (bits .and .i64 (n / 2) 7 % 6 + 1, 0)

theorem stampOf_le (n : Int) : 0 ≤ (stampOf n).1 ∧ (stampOf n).1 ≤ 6 := by
  unfold stampOf
  split
  · simp
  · simp only; omega

theorem stampOf_b (n : Int) : I64 (stampOf n).2 := by
  obtain ⟨q, hq, hq1⟩ := and_some (n / 2) 15 15 rfl (by decide)
  unfold stampOf
  split
  · simp only [hq]; exact ⟨by omega, by omega⟩
  · exact ⟨by simp, by simp⟩

theorem infoStamp : (Try.prog.info? 31).map (·.size) = some 2 := by kernel_rfl

set_option maxRecDepth 100000 in
set_option maxHeartbeats 1000000 in
theorem stamp_any (n : Int) (w : World) :
    Calls Try.prog 20 #[.int .i64 n] w fun e w' => e = .returned (stampV (stampOf n).1 (stampOf n).2) ∧ Below w.heap.size w w' := by
  obtain ⟨p, hp, hp1⟩ := and_some n 1 1 rfl (by decide)
  obtain ⟨q, hq, hq1⟩ := and_some (n / 2) 15 15 rfl (by decide)
  obtain ⟨r, hr, hr1⟩ := and_some (n / 2) 7 7 rfl (by decide)
  have HA := Lib.hid (show stampOf n = if (p : Int) = 0 then (0, (q : Int)) else ((r : Int) % 6 + 1, 0) by unfold stampOf; rw [hp, hq, hr])
  have hz := heap_alloc_new w (.cells #[.int .i64 0, .int .i64 0] 31)
  have HZ := Lib.hid hz
  have f0 : (w.alloc (.cells #[.int .i64 0, .int .i64 0] 31)).frozen? ⟨w.heap.size, 0, none⟩ = false := frozen_of_row _ _ 0 _ _ hz
  clear hz
  by_cases h0 : p = 0
  · have hb : ((p : Int) == 0) = true := by rw [beq_iff_eq]; omega
    have HS := Lib.hid (show stampOf n = (0, (q : Int)) by rw [HA.out, if_pos (by omega)])
    clear h0
    go_enter Try.func20, Try.ntmps20
    go_wp2_with fail
    (try simp only [Exit.inBlock, Exit.then])
    refine bodyPost_ret (results_cell_row rfl _ _ w.heap.size _ _ (0, 0) _ rfl (heap_alloc_new w _) Try.underlying31 rfl infoStamp) rfl ?_
    rw [HS.out]
    exact ⟨rfl, below_alloc w _⟩
  · have hb : ((p : Int) == 0) = false := by rw [beq_eq_false_iff_ne]; omega
    have HS := Lib.hid (show stampOf n = ((r : Int) % 6 + 1, 0) by rw [HA.out, if_neg (by omega)])
    clear h0
    go_enter Try.func20, Try.ntmps20
    go_wp2_with fail
    (try simp only [Exit.inBlock, Exit.then])
    refine bodyPost_ret (results_cell_row rfl _ _ w.heap.size _ _ (0, 0) _ rfl (heap_alloc_new w _) Try.underlying31 rfl infoStamp) rfl ?_
    rw [HS.out]
    exact ⟨rfl, below_alloc w _⟩

def flatI : List Ti → List Value
  | [] => []
  | t :: r => t.cells ++ flatI r
theorem flatI_len (l : List Ti) : (flatI l).length = l.length * 4 := by
  induction l with
  | nil => rfl
  | cons t r ih => rw [flatI, List.length_append, ih, List.length_cons, Nat.succ_mul]; simp [Ti.cells]; omega
theorem flatI_append (a b : List Ti) : flatI (a ++ b) = flatI a ++ flatI b := by
  induction a with
  | nil => rfl
  | cons t r ih => rw [List.cons_append, flatI, ih, flatI, List.append_assoc]
theorem flatI_at (l : List Ti) (k : Nat) (t : Ti) (hk : l[k]? = some t) (j : Nat) (hj : j < 4) : (flatI l)[k * 4 + j]? = t.cells[j]? := by
  induction l generalizing k with
  | nil => cases hk
  | cons u r ih =>
    rw [flatI]
    cases k with
    | zero =>
      have hu : u = t := by simpa using hk
      subst hu
      rw [Nat.zero_mul, Nat.zero_add, List.getElem?_append_left (by simp [Ti.cells]; omega)]
    | succ k =>
      have hl : u.cells.length = 4 := rfl
      rw [List.getElem?_append_right (by rw [hl, Nat.succ_mul]; omega), hl, Nat.succ_mul, show k * 4 + 4 + j - 4 = k * 4 + j from by omega]
      exact ih k (by simpa using hk)
theorem flatI_set (l : List Ti) (k : Nat) (t t' : Ti) (hk : l[k]? = some t) (j : Nat) (hj : j < 4) (v : Value) (hv : t'.cells = t.cells.set j v) : (flatI l).set (k * 4 + j) v = flatI (l.set k t') := by
  induction l generalizing k with
  | nil => cases hk
  | cons u r ih =>
    cases k with
    | zero =>
      have hu : u = t := by simpa using hk
      subst hu
      rw [Nat.zero_mul, Nat.zero_add, flatI, List.set_append_left _ _ (by simp [Ti.cells]; omega), ← hv]; rfl
    | succ k =>
      have hl : u.cells.length = 4 := rfl
      rw [flatI, List.set_append_right _ _ (by rw [hl, Nat.succ_mul]; omega), hl, Nat.succ_mul, show k * 4 + 4 + j - 4 = k * 4 + j from by omega, ih k (by simpa using hk)]; rfl

theorem rdT_of_own {B : Nat} {l : List Ti} {w : World} {v : Value} (hown : w.ownsRow B 26 4 v l.length (flatI l)) : RdT w v l := by
  have hown2 := hown
  rcases hown.2 with ⟨rfl, h0⟩ | ⟨gg, cap, cur, rfl, _⟩
  · have : l = [] := List.length_eq_zero_iff.1 h0
    subst this
    exact ⟨none, 0, rfl, fun k t ht => by cases ht⟩
  · refine ⟨some ⟨gg, 0, none⟩, cap, rfl, fun k t ht => ⟨gg, 0, rfl, fun j hj => ?_⟩⟩
    have hkl : k < l.length := (List.getElem?_eq_some_iff.1 ht).1
    rw [Nat.zero_add, hown2.cellAt (k * 4 + j) (by omega), flatI_at l k t ht j hj]

/-- Transactions of few IDs, that rise; of states that there are. -/
structure Good (l : List Ti) (n : Nat) : Prop where
  len : l.length ≤ n
  ids : ∀ t ∈ l, 1 ≤ t.i ∧ t.i ≤ n
  up : l.Pairwise fun a b => a.i < b.i

theorem Good.more {l : List Ti} {n : Nat} (h : Good l n) (t : Ti) (ht : t.i = n + 1) : Good (l ++ [t]) (n + 1) := by
  refine ⟨by rw [List.length_append]; have := h.len; simp; omega, fun u hu => ?_, ?_⟩
  · rcases List.mem_append.1 hu with h1 | h1
    · have := h.ids u h1; omega
    · have : u = t := by simpa using h1
      subst this; omega
  · rw [List.pairwise_append]
    refine ⟨h.up, by simp, fun a ha b hb => ?_⟩
    have : b = t := by simpa using hb
    subst this
    have := h.ids a ha
    omega
theorem Good.mono {l : List Ti} {n m : Nat} (h : Good l n) (hm : n ≤ m) : Good l m :=
  ⟨Nat.le_trans h.len hm, fun t ht => by have := h.ids t ht; omega, h.up⟩

theorem slF_own {B : Nat} {w : World} {E : TypeId} {ao : Option Addr} {n cap : Nat} {xs : List Value} (hown : w.ownsRow B E 4 (.slice ao n cap) n xs) (h : 0 < n ∨ (ao = none ∧ cap = 0 ∧ n = 0)) : SlF (.slice ao n cap) := by
  rcases h with h | ⟨rfl, rfl, rfl⟩
  · rcases hown.2 with ⟨h1, h0⟩ | ⟨g, cap', cur, h1, _, _, r⟩
    · omega
    · simp only [Value.slice.injEq] at h1
      obtain ⟨rfl, _, rfl⟩ := h1
      exact .inr ⟨g, 0, n, cap, by have := r.1; omega, rfl⟩
  · exact .inl rfl

set_option maxRecDepth 100000 in
set_option maxHeartbeats 4000000 in
theorem txns_any (v : Value) (zs : List Int) (w : World) (hr : Rd w v (zs.map (Value.int .i64))) :
    Calls Try.prog 17 #[v] w fun e w' => ∃ ao cap, ∃ l : List Ti, e = .returned (.slice ao l.length cap) ∧ w'.ownsRow w.heap.size 26 4 (.slice ao l.length cap) l.length (flatI l) ∧ Good l 5 ∧ SlF (.slice ao l.length cap) ∧ Below w.heap.size w w' := by
  obtain ⟨ao0, cap0, hv, hcap, hcc⟩ := id hr
  obtain ⟨len0, hlen⟩ : ∃ n, n = (zs.map (Value.int .i64)).length := ⟨_, rfl⟩
  rw [← hlen] at hv
  subst hv
  have HC := Lib.hid (rdz_cells hr).2
  clear hr hcap hlen hcc
  obtain ⟨i0, hi, hz0, hz1, hz2⟩ := info_parts infoTx
  go_enter Try.func17, Try.ntmps17
  go_wp2_with fail
  go_loopw [3, 4] (fun o i wr => ∃ k : Nat, ∃ l : List Ti, ∃ ao : Option Addr, ∃ cap : Nat, k ≤ 5 ∧ i = .int .i64 (k : Int) ∧ o = .slice ao l.length cap ∧ Good l k ∧ (0 < l.length ∨ (ao = none ∧ cap = 0 ∧ l.length = 0)) ∧ wr.ownsRow w.heap.size 26 4 (.slice ao l.length cap) l.length (flatI l) ∧ Below w.heap.size w wr) (fun _ i _ => 5 - (intOf i).toNat)
  case atStart => exact ⟨0, [], none, 0, by omega, rfl, rfl, ⟨Nat.le_refl _, fun t h => (by cases h), List.Pairwise.nil⟩, .inr ⟨rfl, rfl, rfl⟩, ⟨rfl, .inl ⟨rfl, rfl⟩⟩, Below.refl _ _⟩
  case round =>
    obtain ⟨k, l, ao, cap, hk, rfl, rfl, hg, hnil, hown, hbel⟩ := hrel
    obtain ⟨wo, rfl⟩ : ∃ wo : World, wo = wr := ⟨_, rfl⟩
    have HG := Lib.hid hg
    have HO := Lib.hid hown
    have HB := Lib.hid hbel
    have HNIL := Lib.hid hnil
    clear hg hown hbel hnil
    obtain ⟨n, hn⟩ : ∃ n, n = l.length := ⟨_, rfl⟩
    rw [← hn] at HO HNIL ⊢
    have HN := Lib.hid hn
    clear hn
    by_cases hlt : k < len0 ∧ k < 5
    · obtain ⟨hlt1, hlt2⟩ := hlt
      have hd1 : decide ((k : Int) < (len0 : Int)) = true := by simp; omega
      have hd2 : decide ((k : Int) < 5) = true := by simp; omega
      obtain ⟨b, off, rfl, hcell⟩ := HC.out (by omega)
      have hx0 := hcell k hlt1
      obtain ⟨x, hxe⟩ : ∃ x, x = zs.getD k 0 := ⟨_, rfl⟩
      rw [← hxe] at hx0
      have hx := (HB.out.cell (p := ⟨b, off + k, none⟩) (World.block_lt_of_cell? _ _ hx0)).trans hx0
      obtain ⟨c7, hc7, hc7l⟩ := and_some x 7 7 rfl (by decide)
      obtain ⟨s3, hs3, hs3l⟩ := and_some (x / 8) 3 3 rfl (by decide)
      obtain ⟨b7, hb7, hb7l⟩ := and_some (x / 32) 7 7 rfl (by decide)
      obtain ⟨e7, he7, he7l⟩ := and_some (x / 256) 7 7 rfl (by decide)
      have hxa := fun o => Lib.cell?_alloc_some o hx
      clear hcell hxe hx0
      by_cases h7 : c7 = 0
      · have hq : ((c7 : Int) == 0) = true := by rw [beq_iff_eq]; omega
        go_wp2_with fail
        go_roundw
        case rel => exact ⟨k + 1, l, ao, cap, by omega, by go_num, by rw [← HN.out], HG.out.mono (by omega), by rw [← HN.out]; exact HNIL.out, by rw [← HN.out]; exact HO.out, HB.out⟩
        case measure => simp [intOf]; omega
      · have hq : ((c7 : Int) == 0) = false := by rw [beq_eq_false_iff_ne]; omega
        go_upto_region 6 with (fail)
        go_region
        have hn5 : n ≤ 5 := by rw [HN.out]; have := HG.out.len; omega
        by_cases hs0 : s3 = 0
        · subst hs0
          have HO1 := Lib.hid (((HO.out.alloc (.cells #[.int .i64 ((k : Int) + 1), .int .i64 1, .int .i64 (b7 : Int), .int .i64 0] 26)).alloc (.cells #[.int .i64 ((k : Int) + 1), .int .i64 1, .int .i64 (b7 : Int), .int .i64 0] 26)).drew)
          have hnw := heap_alloc_new (wo.alloc (.cells #[.int .i64 ((k : Int) + 1), .int .i64 1, .int .i64 (b7 : Int), .int .i64 0] 26)) (.cells #[.int .i64 ((k : Int) + 1), .int .i64 1, .int .i64 (b7 : Int), .int .i64 0] 26)
          rw [show (wo.alloc (.cells #[.int .i64 ((k : Int) + 1), .int .i64 1, .int .i64 (b7 : Int), .int .i64 0] 26)).heap.size = wo.heap.size + 1 by simp] at hnw
          have HNW := Lib.hid (World.news_of_block (w := ((wo.alloc (.cells #[.int .i64 ((k : Int) + 1), .int .i64 1, .int .i64 (b7 : Int), .int .i64 0] 26)).alloc (.cells #[.int .i64 ((k : Int) + 1), .int .i64 1, .int .i64 (b7 : Int), .int .i64 0] 26)).drew) (cs := #[.int .i64 ((k : Int) + 1), .int .i64 1, .int .i64 (b7 : Int), .int .i64 0]) (t := 26) (fr := (0, 0)) hnw)
          have HON := Lib.hid (show ∀ u ∈ ([.int .i64 ((k : Int) + 1), .int .i64 1, .int .i64 (b7 : Int), .int .i64 0] : List Value), u.oneCell' = true by intro u hu; simp at hu; rcases hu with rfl | rfl | rfl | rfl <;> rfl)
          have HSZ := Lib.hid (show w.heap.size ≤ ((wo.alloc (.cells #[.int .i64 ((k : Int) + 1), .int .i64 1, .int .i64 (b7 : Int), .int .i64 0] 26)).alloc (.cells #[.int .i64 ((k : Int) + 1), .int .i64 1, .int .i64 (b7 : Int), .int .i64 0] 26)).drew.heap.size by have := HB.out.size; simp; omega)
          have HBW := Lib.hid (show Below w.heap.size w ((wo.alloc (.cells #[.int .i64 ((k : Int) + 1), .int .i64 1, .int .i64 (b7 : Int), .int .i64 0] 26)).alloc (.cells #[.int .i64 ((k : Int) + 1), .int .i64 1, .int .i64 (b7 : Int), .int .i64 0] 26)).drew from (below_lay (below_lay HB.out _) _).trans (below_drw _ _))
          clear hnw
          go_wp2_with (at_builtin; go_must (refine wpList_append_own _ rfl _ _ 22 rfl w.heap.size 26 i0 _ 4 32 Try.underlying22 hi hz0 hz1 hz2 rfl (by decide) _ _ _ rfl HO1.out ⟨wo.heap.size + 1, 0, none⟩ 1 1 [.int .i64 ((k : Int) + 1), .int .i64 1, .int .i64 (b7 : Int), .int .i64 0] rfl rfl HNW.out HON.out (by unfold maxLen; omega) (by omega) HSZ.out ?_); intro v' w3 hown' hgrow _)
          have HO' := Lib.hid hown'
          have HB' := Lib.hid (below_own_any HBW.out HO1.out hgrow)
          obtain ⟨ao3, cap3, hv⟩ := own_shape hown'
          subst hv
          clear hown' hgrow HO1 HNW HON HSZ HBW
          have HV := Lib.hid (show Value.slice ao3 (n + 1) cap3 = .slice ao3 (l ++ [(⟨(k : Int) + 1, 1, b7, 0⟩ : Ti)]).length cap3 by rw [List.length_append, ← HN.out]; rfl)
          have HE := Lib.hid (show w3.ownsRow w.heap.size 26 4 (.slice ao3 (l ++ [(⟨(k : Int) + 1, 1, b7, 0⟩ : Ti)]).length cap3) (l ++ [(⟨(k : Int) + 1, 1, b7, 0⟩ : Ti)]).length (flatI (l ++ [(⟨(k : Int) + 1, 1, b7, 0⟩ : Ti)])) by
            rw [List.length_append, ← HN.out, flatI_append]; exact HO'.out)
          go_wp2
          go_roundw
          case rel => exact ⟨k + 1, l ++ [⟨(k : Int) + 1, 1, b7, 0⟩], ao3, cap3, by omega, by go_num, HV.out, HG.out.more _ rfl, .inl (by simp), HE.out, HB'.out⟩
          case measure => simp [intOf]; omega
        · have hq3 : (((s3 : Int) + 1) == 1) = false := by rw [beq_eq_false_iff_ne]; omega
          go_upto_region 8 with (fail)
          go_region
          have HO1 := Lib.hid (((HO.out.alloc (.cells #[.int .i64 ((k : Int) + 1), .int .i64 ((s3 : Int) + 1), .int .i64 (b7 : Int), .int .i64 ((b7 : Int) + 1 + (e7 : Int))] 26)).alloc (.cells #[.int .i64 ((k : Int) + 1), .int .i64 ((s3 : Int) + 1), .int .i64 (b7 : Int), .int .i64 ((b7 : Int) + 1 + (e7 : Int))] 26)).drew.drew)
          have hnw := heap_alloc_new (wo.alloc (.cells #[.int .i64 ((k : Int) + 1), .int .i64 ((s3 : Int) + 1), .int .i64 (b7 : Int), .int .i64 ((b7 : Int) + 1 + (e7 : Int))] 26)) (.cells #[.int .i64 ((k : Int) + 1), .int .i64 ((s3 : Int) + 1), .int .i64 (b7 : Int), .int .i64 ((b7 : Int) + 1 + (e7 : Int))] 26)
          rw [show (wo.alloc (.cells #[.int .i64 ((k : Int) + 1), .int .i64 ((s3 : Int) + 1), .int .i64 (b7 : Int), .int .i64 ((b7 : Int) + 1 + (e7 : Int))] 26)).heap.size = wo.heap.size + 1 by simp] at hnw
          have HNW := Lib.hid (World.news_of_block (w := ((wo.alloc (.cells #[.int .i64 ((k : Int) + 1), .int .i64 ((s3 : Int) + 1), .int .i64 (b7 : Int), .int .i64 ((b7 : Int) + 1 + (e7 : Int))] 26)).alloc (.cells #[.int .i64 ((k : Int) + 1), .int .i64 ((s3 : Int) + 1), .int .i64 (b7 : Int), .int .i64 ((b7 : Int) + 1 + (e7 : Int))] 26)).drew.drew) (cs := #[.int .i64 ((k : Int) + 1), .int .i64 ((s3 : Int) + 1), .int .i64 (b7 : Int), .int .i64 ((b7 : Int) + 1 + (e7 : Int))]) (t := 26) (fr := (0, 0)) hnw)
          have HON := Lib.hid (show ∀ u ∈ ([.int .i64 ((k : Int) + 1), .int .i64 ((s3 : Int) + 1), .int .i64 (b7 : Int), .int .i64 ((b7 : Int) + 1 + (e7 : Int))] : List Value), u.oneCell' = true by intro u hu; simp at hu; rcases hu with rfl | rfl | rfl | rfl <;> rfl)
          have HSZ := Lib.hid (show w.heap.size ≤ ((wo.alloc (.cells #[.int .i64 ((k : Int) + 1), .int .i64 ((s3 : Int) + 1), .int .i64 (b7 : Int), .int .i64 ((b7 : Int) + 1 + (e7 : Int))] 26)).alloc (.cells #[.int .i64 ((k : Int) + 1), .int .i64 ((s3 : Int) + 1), .int .i64 (b7 : Int), .int .i64 ((b7 : Int) + 1 + (e7 : Int))] 26)).drew.drew.heap.size by have := HB.out.size; simp; omega)
          have HBW := Lib.hid (show Below w.heap.size w ((wo.alloc (.cells #[.int .i64 ((k : Int) + 1), .int .i64 ((s3 : Int) + 1), .int .i64 (b7 : Int), .int .i64 ((b7 : Int) + 1 + (e7 : Int))] 26)).alloc (.cells #[.int .i64 ((k : Int) + 1), .int .i64 ((s3 : Int) + 1), .int .i64 (b7 : Int), .int .i64 ((b7 : Int) + 1 + (e7 : Int))] 26)).drew.drew from ((below_lay (below_lay HB.out _) _).trans (below_drw _ _)).trans (below_drw _ _))
          clear hnw
          go_wp2_with (at_builtin; go_must (refine wpList_append_own _ rfl _ _ 22 rfl w.heap.size 26 i0 _ 4 32 Try.underlying22 hi hz0 hz1 hz2 rfl (by decide) _ _ _ rfl HO1.out ⟨wo.heap.size + 1, 0, none⟩ 1 1 [.int .i64 ((k : Int) + 1), .int .i64 ((s3 : Int) + 1), .int .i64 (b7 : Int), .int .i64 ((b7 : Int) + 1 + (e7 : Int))] rfl rfl HNW.out HON.out (by unfold maxLen; omega) (by omega) HSZ.out ?_); intro v' w3 hown' hgrow _)
          have HO' := Lib.hid hown'
          have HB' := Lib.hid (below_own_any HBW.out HO1.out hgrow)
          obtain ⟨ao3, cap3, hv⟩ := own_shape hown'
          subst hv
          clear hown' hgrow HO1 HNW HON HSZ HBW
          have HV := Lib.hid (show Value.slice ao3 (n + 1) cap3 = .slice ao3 (l ++ [(⟨(k : Int) + 1, ((s3 : Int) + 1), b7, ((b7 : Int) + 1 + (e7 : Int))⟩ : Ti)]).length cap3 by rw [List.length_append, ← HN.out]; rfl)
          have HE := Lib.hid (show w3.ownsRow w.heap.size 26 4 (.slice ao3 (l ++ [(⟨(k : Int) + 1, ((s3 : Int) + 1), b7, ((b7 : Int) + 1 + (e7 : Int))⟩ : Ti)]).length cap3) (l ++ [(⟨(k : Int) + 1, ((s3 : Int) + 1), b7, ((b7 : Int) + 1 + (e7 : Int))⟩ : Ti)]).length (flatI (l ++ [(⟨(k : Int) + 1, ((s3 : Int) + 1), b7, ((b7 : Int) + 1 + (e7 : Int))⟩ : Ti)])) by
            rw [List.length_append, ← HN.out, flatI_append]; exact HO'.out)
          go_wp2
          go_roundw
          case rel => exact ⟨k + 1, l ++ [⟨(k : Int) + 1, ((s3 : Int) + 1), b7, ((b7 : Int) + 1 + (e7 : Int))⟩], ao3, cap3, by omega, by go_num, HV.out, HG.out.more _ rfl, .inl (by simp), HE.out, HB'.out⟩
          case measure => simp [intOf]; omega
    · have HO2 : wo.ownsRow w.heap.size 26 4 (.slice ao l.length cap) l.length (flatI l) := by rw [← HN.out]; exact HO.out
      have HE := Lib.hid (⟨HO2, HG.out.mono hk, slF_own HO2 (by rw [← HN.out]; exact HNIL.out), HB.out⟩ : wo.ownsRow w.heap.size 26 4 (.slice ao l.length cap) l.length (flatI l) ∧ Good l 5 ∧ SlF (.slice ao l.length cap) ∧ Below w.heap.size w wo)
      have HV := Lib.hid (show Value.slice ao n cap = .slice ao l.length cap by rw [← HN.out])
      clear HO2
      go_wp2_with fail
      all_goals
        go_ret
        exact ⟨ao, cap, l, congrArg Ending.returned HV.out, HE.out⟩

/-- Two rows of numbers, of which one may be the other. -/
theorem same_any (u v : Value) (xs : List Int) (w : World) {B B' : Nat} (hu : Canon.RdI B w u xs) (hv : Canon.RdI B' w v xs) (hl : xs.length ≤ 1000000) :
    Calls Try.prog 21 #[u, v] w fun e w' => e = .returned (.bool true) ∧ Below w.heap.size w w' := by
  obtain ⟨ao, cap, rfl, _, _, hc⟩ := hu
  obtain ⟨ao', cap', rfl, _, _, hc'⟩ := hv
  have HC := Lib.hid hc
  have HC' := Lib.hid hc'
  clear hc hc'
  obtain ⟨n, hn⟩ : ∃ n, n = xs.length := ⟨_, rfl⟩
  rw [← hn] at HC HC' hl ⊢
  have HN := Lib.hid hn
  clear hn
  go_enter Try.func21, Try.ntmps21
  go_wp2_with fail
  go_loopw [5] (fun i wr => ∃ k : Nat, k ≤ n ∧ i = .int .i64 (k : Int) ∧ Below w.heap.size w wr) (fun i _ => n - (intOf i).toNat)
  case atStart => exact ⟨0, by omega, rfl, Below.refl _ _⟩
  case round =>
    obtain ⟨k, hk, rfl, hbel⟩ := hrel
    obtain ⟨wo, rfl⟩ : ∃ wo : World, wo = wr := ⟨_, rfl⟩
    have HB := Lib.hid hbel
    clear hbel
    by_cases hlt : k < n
    · have hd : decide ((k : Int) < (n : Int)) = true := by simp; omega
      obtain ⟨x, hx⟩ : ∃ x, xs[k]? = some x := ⟨_, List.getElem?_eq_getElem (by rw [← HN.out]; exact hlt)⟩
      obtain ⟨b, off, rfl, _, hcell⟩ := HC.out (by omega)
      obtain ⟨b', off', rfl, _, hcell'⟩ := HC'.out (by omega)
      have h1 := hcell k x hx
      have h2 := hcell' k x hx
      have k1 := (HB.out.cell (p := ⟨b, off + k, none⟩) (World.block_lt_of_cell? _ _ h1)).trans h1
      have k2 := (HB.out.cell (p := ⟨b', off' + k, none⟩) (World.block_lt_of_cell? _ _ h2)).trans h2
      clear hcell hcell' h1 h2 hx
      go_wp2_with fail
      go_region
      go_wp2_with fail
      go_roundw
      case rel => exact ⟨k + 1, by omega, by go_num, HB.out.trans (below_drw _ _)⟩
      case measure => simp [intOf]; omega
    · have hd : decide ((k : Int) < (n : Int)) = false := by simp; omega
      go_wp2_with fail
      go_ret
      exact ⟨rfl, HB.out⟩

end Go.Proofs.Ytnjeoolbnanmiaa
