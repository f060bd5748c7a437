import Derived.OwnWalk
import Derived.WalkSpells
import Derived.Shelf.Slices.Clone
import Derived.Test.YtmpgnjhgegbdkaaGreatPlmath
import Derived.Test.YtmpgnjhgegbdkaaGreatAt
import Derived.Laws.AppendOwnNone
import Derived.Laws.NewBlocks
set_option linter.unusedVariables false
set_option maxHeartbeats 2000000
set_option maxRecDepth 100000
open Go.Lib (hid)
namespace Go.Proofs.YtmpgnjhgegbdkaaGreat
open Go.RowKit
open _root_.List renaming length_map -> Qa, length_append -> Qb, append_assoc -> Qe, length_eq_zero_iff -> Qg, map_append -> Qj, length_singleton -> Ql, getElem?_eq_getElem -> Qo, drop_of_length_le -> Qq
open _root_.Nat renaming le_refl -> Qc, eq_zero_or_pos -> Qf, mul_one -> Qh, zero_le -> Qi, mul_le_mul_right -> Qk, pow_add -> Qm, succ_mul -> Qn, lt_or_ge -> Qp
open Go.RowKit.Below renaming refl -> Qd
open Go renaming cell_of_row -> Qr, heap_setCell_same -> Qs
theorem zDg {w : World} {B : Nat} {E : TypeId} {size : Nat} {v : Value} {n : Nat} {xs : List Value} (h : w.ownsRow B E size v n xs) : ∃ ao cap, v = .slice ao n cap := by
 rcases h.2 with ⟨rfl, rfl⟩ | ⟨g, cap, cur, rfl, _⟩
 ·exact ⟨none, 0, rfl⟩
 ·exact ⟨_, cap, rfl⟩
theorem zCu (v : Value) (bs : List Nat) (w : World) (hr : Rd w v (bs.map u8v)) (hbig : bs.length <= 140737488355328) :
  Calls Tryz.prog 77 #[v] w (RetOwn w.heap.size 5 (bs.map u8v) w) := by
 have q22 : ∀ (w : World) (a : Option Addr) (n c n' c' : Nat), (binOp .eql 29 (.slice a n c) (.slice none n' c')).run Tryz.prog w = .ok (.bool a.isNone) w := fun w a n c n' c' => Lib.run_eql_slice_nil w _ _ a n c n' c' Tryz.underlying29
 have hr0 := hr
 obtain ⟨ao, cap, hv, _⟩ := hr
 rw [Qa] at hv
 subst hv
 have hc := (zA0 hr0).2
 obtain ⟨n, hn⟩ : ∃ n, n = bs.length := ⟨_, rfl⟩
 rw [<- hn] at hc hbig hr0 ⊢
 have HN := hid hn
 have HR := hid hr0
 clear hr0 hn
 rcases ao with _ | a
 ·have h0 : n = 0 := by
   rcases Qf n with h | h
   ·exact h
   ·obtain ⟨b, off, h1, _⟩ := hc h; cases h1
  have hb : bs = [] := Qg.1 (by rw [<- HN.out]; exact h0)
  clear hc
  go_enter Tryz.func77, Tryz.ntmps77
  go_wp2
  go_ret
  subst hb
  exact ⟨none, 0, rfl, zKp _ _ _, Qd _ _⟩
 ·clear hc
  have H1 := hid (show (bs.map u8v).length = n * 1 by rw [Qa, Qh]; exact HN.out.symm)
  have H2 := hid (zFt (HR.out.kept (zAd w (.cells #[] 5))))
  have H3 := hid (zAq bs)
  obtain ⟨i0, hi, hz0, hz1, hz2⟩ := info_parts zHl
  go_enter Tryz.func77, Tryz.ntmps77
  go_wp2_with (at_builtin; refine wpList_append_own _ rfl _ _ 29 rfl w.heap.size 5 i0 (.int .u8 0) 1 1 Tryz.underlying29 hi hz0 hz1 hz2 rfl (by decide) _ _ _ rfl (World.ownsRow_made w #[] 0 (Qc _) (Qi _) rfl) a n cap (bs.map u8v) rfl H1.out H2.out H3.out (by unfold maxLen; omega) (by omega) (by simp) ?_)
  intro v' w1 hown hgrow hnil
  go_wp2
  go_ret
  have hown' : w1.ownsRow w.heap.size 5 1 v' n (bs.map u8v) := by simpa using hown
  have hbl : Below w.heap.size w w1 := ((Qd _ w).alloc (Qc _) _).grown hgrow (by simp) (by intro k hk; simp [Value.ownBlock] at hk; omega)
  have hl : n = (bs.map u8v).length := by rw [Qa]; exact HN.out
  obtain ⟨ao, cap', hv⟩ := zDg hown'
  refine ⟨ao, cap', ?_, ?_, hbl⟩
  ·show Ending.returned v' = _
   rw [hv, <- hl]
  ·rw [<- hl, <- hv]; exact hown'
theorem zNk (v : Value) (bs : List Nat) (w : World) (hr : Rd w v (bs.map u8v)) (hbig : bs.length <= 140737488355328) :
  Calls Tryz.prog 75 #[v] w (RetOwn w.heap.size 5 (bs.map u8v) w) := by
 have q22 : ∀ (w : World) (a : Option Addr) (n c n' c' : Nat), (binOp .eql 29 (.slice a n c) (.slice none n' c')).run Tryz.prog w = .ok (.bool a.isNone) w := fun w a n c n' c' => Lib.run_eql_slice_nil w _ _ a n c n' c' Tryz.underlying29
 have hr0 := hr
 obtain ⟨ao, cap, hv, _⟩ := hr
 rw [Qa] at hv
 subst hv
 have hc := (zA0 hr0).2
 obtain ⟨n, hn⟩ : ∃ n, n = bs.length := ⟨_, rfl⟩
 rw [<- hn] at hc hbig hr0 ⊢
 have HN := hid hn
 have HR := hid hr0
 clear hr0 hn
 rcases ao with _ | a
 ·have h0 : n = 0 := by
   rcases Qf n with h | h
   ·exact h
   ·obtain ⟨b, off, h1, _⟩ := hc h; cases h1
  have hb : bs = [] := Qg.1 (by rw [<- HN.out]; exact h0)
  clear hc
  go_enter Tryz.func75, Tryz.ntmps75
  go_wp2
  go_ret
  subst hb
  exact ⟨none, 0, rfl, zKp _ _ _, Qd _ _⟩
 ·clear hc
  have H1 := hid (show (bs.map u8v).length = n * 1 by rw [Qa, Qh]; exact HN.out.symm)
  have H2 := hid (zFt (HR.out.kept (zAd w (.cells #[] 5))))
  have H3 := hid (zAq bs)
  obtain ⟨i0, hi, hz0, hz1, hz2⟩ := info_parts zHl
  go_enter Tryz.func75, Tryz.ntmps75
  go_wp2_with (at_builtin; refine wpList_append_own _ rfl _ _ 29 rfl w.heap.size 5 i0 (.int .u8 0) 1 1 Tryz.underlying29 hi hz0 hz1 hz2 rfl (by decide) _ _ _ rfl (World.ownsRow_made w #[] 0 (Qc _) (Qi _) rfl) a n cap (bs.map u8v) rfl H1.out H2.out H3.out (by unfold maxLen; omega) (by omega) (by simp) ?_)
  intro v' w1 hown hgrow hnil
  go_wp2
  go_ret
  have hown' : w1.ownsRow w.heap.size 5 1 v' n (bs.map u8v) := by simpa using hown
  have hbl : Below w.heap.size w w1 := ((Qd _ w).alloc (Qc _) _).grown hgrow (by simp) (by intro k hk; simp [Value.ownBlock] at hk; omega)
  have hl : n = (bs.map u8v).length := by rw [Qa]; exact HN.out
  obtain ⟨ao, cap', hv⟩ := zDg hown'
  refine ⟨ao, cap', ?_, ?_, hbl⟩
  ·show Ending.returned v' = _
   rw [hv, <- hl]
  ·rw [<- hl, <- hv]; exact hown'
theorem one_cell (w : World) (x : Value) (E : TypeId) : ∀ j u, [x][j]? = some u -> (w.alloc (.cells #[x] E)).cell? ((⟨w.heap.size, 0, none⟩ : Addr).add j) = some u := cell_one_new _ _ _
theorem zEj (v : Value) (bs : List Nat) (u : Nat) (w : World) (hr : Rd w v (bs.map u8v)) (hbig : bs.length <= 70368744177664) (hu : u < 18446744073709551616) :
  Calls Tryz.prog 46 #[v, .int .u64 u] w (RetOwn w.heap.size 5 ((bs ++ numC u).map u8v) w) := by
 have HR := hid hr
 have HU := hid hu
 clear hr hu
 obtain ⟨i0, hi, hz0, hz1, hz2⟩ := info_parts zHl
 go_enter Tryz.func46, Tryz.ntmps46
 go_wp2_with fail
 refine (zNk v bs w HR.out (by omega)).mono ?_
 rintro e w1 ⟨ao, cap, rfl, hown, hb⟩
 have HO1 := hid hown
 have HB1 := hid hb
 clear hown hb
 go_wp2_with fail
 go_loopw [0, 1] (fun vb uu wr => ∃ U f : Nat, ∃ front : List Nat, f <= 9 ∧ U < 128 ^ (f + 1) ∧ U < 18446744073709551616 ∧ uu = .int .u64 (U : Int) ∧ front ++ numF f U = numC u ∧ front.length + f = 9 ∧ wr.ownsRow w.heap.size 5 1 vb (bs.length + front.length) ((bs ++ front).map u8v) ∧ Below w.heap.size w wr) (fun _ uu _ => (intOf uu).toNat)
 case atStart =>
  refine ⟨u, 9, [], Qc _, ?_, HU.out, rfl, rfl, rfl, ?_, HB1.out⟩
  ·exact Nat.lt_of_lt_of_le HU.out (by decide)
  ·have := HO1.out; simpa using this
 case round =>
  obtain ⟨U, f, front, hf, hUf, hU, rfl, hfr, hfl, hown, hbel⟩ := hrel
  obtain ⟨ao2, cap2, hv⟩ := zDg hown
  subst hv
  have HO := hid hown
  have HB := hid hbel
  have HFR := hid hfr
  have HUF := hid hUf
  have HFL := hid hfl
  have HU64 := hid hU
  have HOA := hid (fun o => hown.alloc o)
  clear hown hbel hfr hUf hfl HO1 HB1 hU
  have hfl2 : front.length <= 9 := by have := HFL.out; omega
  by_cases hge : 128 <= U
  ·obtain ⟨x, hx⟩ : ∃ x, x = U % 128 + 128 := ⟨_, rfl⟩
   have hor := zRy U
   rw [<- hx] at hor
   have HX := hid hx
   have H2 := hid (one_cell wr (u8v x) 5)
   have H3 := hid (zAq [x])
   have hf1 : 1 <= f := by
    rcases Qf f with h | h
    ·have := HUF.out; rw [h] at this; simp at this; omega
    ·exact h
   have hsz := hid (show w.heap.size <= (wr.alloc (.cells #[u8v x] 5)).heap.size by simp; have := HB.out.size; omega)
   clear hx
   go_wp2_with (at_builtin; go_must (refine wpList_append_own _ rfl _ _ 29 rfl w.heap.size 5 i0 (.int .u8 0) 1 1 Tryz.underlying29 hi hz0 hz1 hz2 rfl (by decide) _ _ _ rfl (HOA.out _) ⟨wr.heap.size, 0, none⟩ 1 1 [u8v x] rfl rfl H2.out H3.out (by unfold maxLen; omega) (by omega) hsz.out ?_); intro v' w3 hown' hgrow _)
   have HO' := hid hown'
   have HG' := hid hgrow
   clear hown' hgrow
   go_wp2
   go_roundw
   case rel =>
    obtain ⟨g, rfl⟩ : ∃ g, f = g + 1 := ⟨f - 1, by omega⟩
    have hnb := zKo g U (by omega)
    refine ⟨U / 128, g, front ++ [x], by omega, ?_, by have := HU64.out; omega, by go_num, ?_, by have := HFL.out; simp; omega, ?_, ?_⟩
    ·have := HUF.out; rw [Nat.pow_succ] at this; omega
    ·rw [Qe, List.singleton_append, HX.out, <- hnb]; exact HFR.out
    ·have := HO'.out
     rw [<- Qe, Qj, Qb, Ql, <- Nat.add_assoc]
     exact this
    ·exact (HB.out.alloc HB.out.size _).grown HG'.out hsz.out (by
      intro k hk
      have := HO.out
      rcases this.2 with ⟨h, _⟩ | ⟨g', cap', cur, h, hbg, _⟩
      ·rw [h] at hk; cases hk
      ·rw [h] at hk; cases hk; exact hbg)
   case measure => simp [intOf]; omega
  ·have hm : (U : Int) % 256 = (U : Int) := by omega
   have H2 := hid (one_cell wr (u8v U) 5)
   have H3 := hid (zAq [U])
   have hsz := hid (show w.heap.size <= (wr.alloc (.cells #[u8v U] 5)).heap.size by simp; have := HB.out.size; omega)
   go_wp2_with (at_builtin; go_must (refine wpList_append_own _ rfl _ _ 29 rfl w.heap.size 5 i0 (.int .u8 0) 1 1 Tryz.underlying29 hi hz0 hz1 hz2 rfl (by decide) _ _ _ rfl (HOA.out _) ⟨wr.heap.size, 0, none⟩ 1 1 [u8v U] rfl rfl H2.out H3.out (by unfold maxLen; omega) (by omega) hsz.out ?_); intro v' w3 hown' hgrow _)
   have HO' := hid hown'
   have HG' := hid hgrow
   clear hown' hgrow
   go_wp2
   go_ret
   have hfin : front ++ [U] = numC u := by have := HFR.out; rwa [zIl f U (by omega)] at this
   have hown2 : w3.ownsRow w.heap.size 5 1 v' ((bs ++ numC u).map u8v).length ((bs ++ numC u).map u8v) := by
    have := HO'.out
    rw [<- hfin, <- Qe, Qj, Qb, Qa, Qb, Qa, Ql]
    exact this
   have hbl : Below w.heap.size w w3 := (HB.out.alloc HB.out.size _).grown HG'.out hsz.out (by
      intro k hk
      have := HO.out
      rcases this.2 with ⟨h, _⟩ | ⟨g', cap', cur, h, hbg, _⟩
      ·rw [h] at hk; cases hk
      ·rw [h] at hk; cases hk; exact hbg)
   obtain ⟨ao', cap', hv⟩ := zDg hown2
   refine ⟨ao', cap', ?_, ?_, hbl⟩
   ·show Ending.returned v' = _
    rw [hv]
   ·rw [<- hv]; exact hown2
def nextF : Nat -> Nat -> List Nat -> Option (Nat × Nat)
 | _, _, [] => none
 | i, u, x :: r => if i = 9 ∧ 1 < x then none else if 128 <= x then nextF (i + 1) (u + x % 128 * 2 ^ (7 * i)) r
  else if x = 0 ∧ 0 < i then none else some (u + x % 128 * 2 ^ (7 * i), i + 1)
def nextC (bs : List Nat) : Option (Nat × Nat) := nextF 0 0 bs
theorem zQn (U x i : Nat) (hU : U < 2 ^ (7 * i)) (hi : i <= 9) (hx : x < 256) (h9 : i = 9 -> x <= 1) :
  bits .or .u64 (U : Int) (IntKind.u64.wrap (IntKind.u64.wrap (bits .and .u8 (x : Int) 127) * 2 ^ (7 * i))) = ((U + x % 128 * 2 ^ (7 * i) : Nat) : Int) := by
 have e0 : (127 : Int) = ((127 : Nat) : Int) := rfl
 have e1 : bits .and .u8 (x : Int) 127 = ((x % 128 : Nat) : Int) := by rw [e0, u8_and_nat _ _ hx (by decide), nat_mask7]
 have hp : x % 128 * 2 ^ (7 * i) + 2 ^ (7 * i) <= 18446744073709551616 := by
  by_cases h : i = 9
  ·have := h9 h; subst h
   have h3 : x % 128 <= 1 := by omega
   have : x % 128 * 2 ^ (7 * 9) <= 1 * 2 ^ (7 * 9) := Qk _ h3
   have h4 : 2 * (2 : Nat) ^ (7 * 9) = 18446744073709551616 := by decide +kernel
   rw [Nat.one_mul] at this
   generalize (2 : Nat) ^ (7 * 9) = z at *
   omega
  ·have h3 : x % 128 + 1 <= 128 := by omega
   have h5 : (x % 128 + 1) * 2 ^ (7 * i) <= 128 * 2 ^ (7 * i) := Qk _ h3
   have h6 : 128 * 2 ^ (7 * i) = 2 ^ (7 * i + 7) := by rw [Qm]; omega
   have h7 : (2 : Nat) ^ (7 * i + 7) <= 2 ^ 64 := Nat.pow_le_pow_right (by decide) (by omega)
   have h64 : (2 : Nat) ^ 64 = 18446744073709551616 := rfl
   rw [h64] at h7
   rw [Qn] at h5
   omega
 have e2 : ((x % 128 : Nat) : Int) * 2 ^ (7 * i) = ((x % 128 * 2 ^ (7 * i) : Nat) : Int) := by simp
 have hpos : 0 < 2 ^ (7 * i) := Nat.two_pow_pos _
 have hsm : x % 128 < 18446744073709551616 := by omega
 rw [e1, wrap_small _ hsm, e2, wrap_small _ (by omega), u64_or_nat _ _ (by omega) (by omega)]
 rw [Nat.or_comm, nat_join (7 * i) _ U (Nat.mul_mod_left _ _) hU, Nat.add_comm]
theorem zCi (ao : Option Addr) (len cap : Nat) (bs : List Nat) (w : World) (hr : Rd w (.slice ao len cap) (bs.map u8v)) (h256 : ∀ x ∈ bs, x < 256) (hbig : len <= 140737488355328) :
  Calls Tryz.prog 78 #[.slice ao len cap] w fun e w' => e = .returned (.tuple #[.int .u64 (((nextC bs).getD (0, 0)).1 : Nat), .int .i64 (((nextC bs).getD (0, 0)).2 : Nat)]) ∧ w = w' := by
 have HL := hid (zA0 hr).1
 have HC := hid (zA0 hr).2
 have H256 := hid h256
 clear hr h256
 go_enter Tryz.func78, Tryz.ntmps78
 go_wp2
 go_loop [4, 9] (fun u i => ∃ k U : Nat, k <= len ∧ k <= 9 ∧ i = .int .i64 (k : Int) ∧ u = .int .u64 (U : Int) ∧ U < 2 ^ (7 * k) ∧ nextF k U (bs.drop k) = nextC bs) (fun _ i => len - (intOf i).toNat)
 case atStart => exact ⟨0, 0, Qi _, by omega, rfl, rfl, by simp, rfl⟩
 case round =>
  obtain ⟨k, U, hk, hk9, rfl, rfl, hU, hnx⟩ := hrel
  have HU := hid hU
  have HN := hid hnx
  clear hU hnx
  by_cases hlt : k < len
  ·obtain ⟨b, off, rfl, hcell⟩ := HC.out (by omega)
   have hx := hcell k hlt
   obtain ⟨x, hxe⟩ : ∃ x, x = bs.getD k 0 := ⟨_, rfl⟩
   rw [<- hxe] at hx
   have hget : bs[k]? = some x := by
    rw [hxe, List.getD_eq_getElem?_getD, Qo (by rw [<- HL.out]; exact hlt)]; rfl
   have hx2 : x < 256 := H256.out x (List.mem_of_getElem? hget)
   have hdrop : bs.drop k = x :: bs.drop (k + 1) := by
    have hkl : k < bs.length := by rw [<- HL.out]; exact hlt
    rw [List.drop_eq_getElem_cons hkl]
    congr 1
    rw [Qo hkl] at hget
    simpa using hget
   have hstep : nextF k U (bs.drop k) = (if k = 9 ∧ 1 < x then none else if 128 <= x then nextF (k + 1) (U + x % 128 * 2 ^ (7 * k)) (bs.drop (k + 1))
     else if x = 0 ∧ 0 < k then none else some (U + x % 128 * 2 ^ (7 * k), k + 1)) := by rw [hdrop]; rfl
   have HS := hid (hstep.symm.trans HN.out)
   clear hcell hxe hget hdrop hstep
   by_cases h9 : k = 9 ∧ 1 < x
   ·obtain ⟨h91, h92⟩ := h9
    have HR := hid (show nextC bs = none by have := HS.out; rw [if_pos ⟨h91, h92⟩] at this; exact this.symm)
    subst h91
    have hb1 : decide ((1 : Int) < (x : Int)) = true := by simp; omega
    go_wp2
    go_ret2
    exact ⟨by rw [HR.out]; rfl, rfl⟩
   ·have hs2 := HS.out
    rw [if_neg h9] at hs2
    have HS2 := hid hs2
    have hx9 : k = 9 -> x <= 1 := by intro h; rcases Qp 1 x with h2 | h2; exact absurd ⟨h, h2⟩ h9; exact h2
    have HOR := hid (zQn U x k HU.out hk9 hx2 hx9)
    have HX9 := hid hx9
    clear hs2 h9
    by_cases hx128 : 128 <= x
    ·have hkn9 : ¬ k = 9 := by intro h; have := HX9.out h; omega
     have hb9 : ((k : Int) == 9) = false := by rw [beq_eq_false_iff_ne]; omega
     have HR := hid (show nextF (k + 1) (U + x % 128 * 2 ^ (7 * k)) (bs.drop (k + 1)) = nextC bs by have := HS2.out; rwa [if_pos hx128] at this)
     clear hx9
     go_wp2
     go_round
     case rel =>
      refine ⟨k + 1, U + x % 128 * 2 ^ (7 * k), by omega, by omega, by go_num, by rw [HOR.out], ?_, HR.out⟩
      have h1 := HU.out
      have h3 : x % 128 + 1 <= 128 := by omega
      have h5 : (x % 128 + 1) * 2 ^ (7 * k) <= 128 * 2 ^ (7 * k) := Qk _ h3
      have h6 : 128 * 2 ^ (7 * k) = 2 ^ (7 * (k + 1)) := by rw [Nat.mul_add, Qm]; omega
      rw [Qn] at h5
      omega
     case measure => simp [intOf]; omega
    ·have hb128 : decide ((128 : Int) <= (x : Int)) = false := by simp; omega
     have HR0 := hid (show (if x = 0 ∧ 0 < k then none else some (U + x % 128 * 2 ^ (7 * k), k + 1)) = nextC bs by have := HS2.out; rwa [if_neg hx128] at this)
     by_cases hz : x = 0 ∧ 0 < k
     ·have HR := hid (show nextC bs = none by have := HR0.out; rw [if_pos hz] at this; exact this.symm)
      obtain ⟨hz1, hz2⟩ := hz
      have hz3 : ((x : Int) == 0) = true := by rw [beq_iff_eq]; omega
      have hz4 : ((k : Int) == 9) = true ∨ ((k : Int) == 9) = false := by cases ((k : Int) == 9) <;> simp
      clear hz1 hx9
      rcases hz4 with hz4 | hz4
      ·have hb1 : decide ((1 : Int) < (x : Int)) = false := by rw [beq_iff_eq] at hz3; simp; omega
       go_wp2
       go_ret2
       exact ⟨by rw [HR.out]; rfl, rfl⟩
      ·go_wp2
       go_ret2
       exact ⟨by rw [HR.out]; rfl, rfl⟩
     ·have HR := hid (show nextC bs = some (U + x % 128 * 2 ^ (7 * k), k + 1) by have := HR0.out; rw [if_neg hz] at this; exact this.symm)
      have hz4 : ((k : Int) == 9) = true ∨ ((k : Int) == 9) = false := by cases ((k : Int) == 9) <;> simp
      have hz5 : (((x : Int) == 0) = true ∧ k = 0) ∨ ((x : Int) == 0) = false := by
       by_cases h : x = 0
       ·left; exact ⟨by rw [beq_iff_eq]; omega, by omega⟩
       ·right; rw [beq_eq_false_iff_ne]; omega
      rcases hz5 with ⟨hz6, hk0⟩ | hz6
      ·have hk0' : decide (0 < k) = false := by simp; omega
       have hk9' : ((k : Int) == 9) = false := by rw [beq_eq_false_iff_ne]; omega
       clear hx9 hz hz4 hk0
       go_wp2
       go_ret2
       refine ⟨?_, rfl⟩
       rw [HR.out]
       exact zH0 (congrArg (Value.int .u64) HOR.out) rfl
      ·clear hz
       rcases hz4 with hz4 | hz4
       ·have hb1 : decide ((1 : Int) < (x : Int)) = false := by rw [beq_iff_eq] at hz4; simp; have := HX9.out (by omega); omega
        clear hx9
        go_wp2
        go_ret2
        refine ⟨?_, rfl⟩
        rw [HR.out]
        exact zH0 (congrArg (Value.int .u64) HOR.out) rfl
       ·clear hx9
        go_wp2
        go_ret2
        refine ⟨?_, rfl⟩
        rw [HR.out]
        exact zH0 (congrArg (Value.int .u64) HOR.out) rfl
  ·have HR := hid (show nextC bs = none by
    have := HN.out
    rw [Qq (by rw [<- HL.out]; omega)] at this
    exact this.symm)
   go_wp2
   go_ret2
   exact ⟨by rw [HR.out]; rfl, rfl⟩
def IsR (w : World) (r : Nat) (left : List Nat) (bad : Bool) : Prop :=
 ∃ v, w.heap[r]? = some (.cells #[v, .bool bad] 138 (0, 0)) ∧ Rd w v (left.map u8v)
theorem IsR.lt {w : World} {r : Nat} {left : List Nat} {bad : Bool} (h : IsR w r left bad) : r < w.heap.size := by
 obtain ⟨v, hv, _⟩ := h
 rcases Qp r w.heap.size with h | h
 ·exact h
 ·rw [Array.getElem?_eq_none h] at hv; cases hv
theorem IsR.kept {w w' : World} {r : Nat} {left : List Nat} {bad : Bool} (h : IsR w r left bad) (hb : Below w.heap.size w w') : IsR w' r left bad := by
 have hlt := h.lt
 obtain ⟨v, hv, hr⟩ := h
 exact ⟨v, (hb.block r hlt).trans hv, hr.kept hb⟩
theorem zDr (v : Value) (bs : List Nat) (w : World) (hr : Rd w v (bs.map u8v)) (hbig : bs.length <= 140737488355328) :
  Calls Tryz.prog 49 #[v] w fun e w' => ∃ r, e = .returned (.pointer (some ⟨r, 0, none⟩)) ∧ w.heap.size <= r ∧ IsR w' r bs false ∧ Below w.heap.size w w' := by
 go_enter Tryz.func49, Tryz.ntmps49
 go_wp2_with fail
 refine (zCu v bs w hr hbig).mono ?_
 rintro e w1 ⟨ao, cap, rfl, hown, hb⟩
 have HR1 := hid (Rd.of_owns hown)
 have HB1 := hid hb
 clear hown hb hr
 go_wp2_with fail
 go_ret
 have HR2 : Rd w1 (.slice ao bs.length cap) (bs.map u8v) := by have := HR1.out; rwa [Qa] at this
 exact ⟨w1.heap.size, rfl, HB1.out.size, ⟨_, heap_alloc_new w1 _, HR2.kept (zAd w1 _)⟩, zAl HB1.out _⟩
theorem zBr {w : World} {ao : Option Addr} {len cap : Nat} {xs : List Value} (h : Rd w (.slice ao len cap) xs) : len <= cap := by
 obtain ⟨ao', cap', hv, hcap, _⟩ := h
 simp only [Value.slice.injEq] at hv
 obtain ⟨_, hl, rfl⟩ := hv
 rw [hl]; exact hcap.2
theorem zBb {w : World} {r : Nat} {v : Value} {bad : Bool} (h : w.heap[r]? = some (.cells #[v, .bool bad] 138 (0, 0))) :
  w.cell? ⟨r, 0, none⟩ = some v ∧ w.cell? ⟨r, 1, none⟩ = some (.bool bad) ∧ w.frozen? ⟨r, 0, none⟩ = false ∧ w.frozen? ⟨r, 1, none⟩ = false :=
 ⟨by rw [Qr w r 0 _ _ _ h]; rfl, by rw [Qr w r 1 _ _ _ h]; rfl, frozen_of_row w r 0 _ _ h, frozen_of_row w r 1 _ _ h⟩
theorem zKv {w : World} {v : Value} {xs : List Value} {r : Nat} {j : Nat} {u : Value} (h : Rd w v xs) (hne : ∀ b off c n, v = .slice (some ⟨b, off, none⟩) n c -> 0 < n -> b ≠ r) : Rd (w.setCell ⟨r, j, none⟩ u) v xs := by
 obtain ⟨ao, cap, hv, hn, hc⟩ := h
 refine ⟨ao, cap, hv, hn, fun hp => ?_⟩
 obtain ⟨b, off, ha, hcell⟩ := hc hp
 refine ⟨b, off, ha, fun i hi => ?_⟩
 rw [<- hcell i hi]
 refine World.cell?_of_block ?_
 exact heap_setCell_other w ⟨r, j, none⟩ b u (hne b off cap _ (by rw [hv, ha]) hp)
theorem zJh {w : World} {r b off : Nat} {bad : Bool} {x : Int} {k : IntKind} {ao : Option Addr} {len cap : Nat} (h : w.heap[r]? = some (.cells #[.slice ao len cap, .bool bad] 138 (0, 0)))
  (hc : w.cell? ⟨b, off + 0, none⟩ = some (.int k x)) : b ≠ r := by
 intro hbr
 subst hbr
 rw [Qr w b (off + 0) _ _ _ h] at hc
 match off, hc with
 | 0, hc => simp at hc
 | 1, hc => simp at hc
 | n + 2, hc => simp at hc
theorem zF6 (r : Nat) (left : List Nat) (bad : Bool) (w : World) (h : IsR w r left bad) :
  Calls Tryz.prog 79 #[.pointer (some ⟨r, 0, none⟩)] w fun e w' => e = .returned (.tuple #[]) ∧ IsR w' r [] true ∧ w.grownBy w' (some r) := by
 obtain ⟨v, hv, hr⟩ := h
 obtain ⟨c0, c1, f0, f1⟩ := zBb hv
 have HV := hid hv
 clear hv hr
 go_enter Tryz.func79, Tryz.ntmps79
 go_wp2
 go_end0
 refine ⟨rfl, ⟨.slice none 0 0, ?_, Rd.nil _⟩, zAc (zAi _ _ _) (zAi _ _ _)⟩
 have h1 := Qs w r 0 _ _ (.slice none 0 0) HV.out
 have h2 := Qs (w.setCell ⟨r, 0, none⟩ (.slice none 0 0)) r 1 _ _ (.bool true) h1
 simpa using h2
theorem zDh (r : Nat) (left : List Nat) (bad : Bool) (w : World) (h : IsR w r left bad) :
  Calls Tryz.prog 179 #[.pointer (some ⟨r, 0, none⟩)] w fun e w' => e = .returned (.bool (!bad)) ∧ w = w' := by
 obtain ⟨v, hv, hr⟩ := h
 obtain ⟨c0, c1, f0, f1⟩ := zBb hv
 clear hv hr
 go_enter Tryz.func179, Tryz.ntmps179
 go_wp2
 go_ret
 exact ⟨rfl, rfl⟩
theorem zCj (r : Nat) (left : List Nat) (bad : Bool) (w : World) (h : IsR w r left bad) (hbig : left.length <= 140737488355328) :
  Calls Tryz.prog 104 #[.pointer (some ⟨r, 0, none⟩)] w (RetOwn w.heap.size 5 (left.map u8v) w) := by
 obtain ⟨v, hv, hr⟩ := h
 obtain ⟨c0, c1, f0, f1⟩ := zBb hv
 clear hv
 go_enter Tryz.func104, Tryz.ntmps104
 go_wp2_with fail
 refine (zCu v left w hr hbig).mono ?_
 rintro e w1 ⟨ao, cap, rfl, hown, hb⟩
 have HO := hid hown
 have HB := hid hb
 clear hown hb hr
 go_wp2_with fail
 go_ret
 exact ⟨ao, cap, by simp, HO.out, HB.out⟩
theorem zKw (r : Nat) (left : List Nat) (bad : Bool) (w : World) (h : IsR w r left bad) (h256 : ∀ x ∈ left, x < 256) (hbig : left.length <= 140737488355328) (u n : Nat) (hn : nextC left = some (u, n)) (hn1 : 0 < n) (hn2 : n <= left.length) :
  Calls Tryz.prog 50 #[.pointer (some ⟨r, 0, none⟩)] w fun e w' => e = .returned (.int .u64 (u : Nat)) ∧ IsR w' r (left.drop n) bad ∧ w.grownBy w' (some r) := by
 obtain ⟨v, hv, hr⟩ := h
 obtain ⟨c0, c1, f0, f1⟩ := zBb hv
 have HV := hid hv
 have HR := hid hr
 have hr2 := hr
 obtain ⟨ao, cap, hvs, hrr⟩ := hr2
 clear hrr
 rw [Qa] at hvs
 subst hvs
 have HN := hid hn
 obtain ⟨len, hlen⟩ : ∃ len, len = left.length := ⟨_, rfl⟩
 rw [<- hlen] at c0 hbig hn2 HR HV
 have HLEN := hid hlen
 clear hv hr hn hlen
 obtain ⟨b, off, rfl, hcell⟩ := (zA0 HR.out).2 (by omega)
 have HAP := hid (zJh HV.out (hcell 0 (by omega)))
 clear hcell
 go_enter Tryz.func50, Tryz.ntmps50
 go_wp2_with fail
 refine (zCi _ len cap left w HR.out h256 hbig).mono ?_
 rw [HN.out]
 rintro e w1 ⟨rfl, rfl⟩
 have hne : ((n : Int) == 0) = false := by rw [beq_eq_false_iff_ne]; omega
 go_wp2_with fail
 ·go_ret
  have hz : len - n = 0 := by have := zBr HR.out; omega
  refine ⟨rfl, ⟨_, Qs w r 0 _ _ _ HV.out, ?_⟩, zAi _ _ _⟩
  rw [hz, Qq (by rw [<- HLEN.out]; omega)]
  exact zBx _ _ _
 ·go_ret
  refine ⟨rfl, ⟨_, Qs w r 0 _ _ _ HV.out, ?_⟩, zAi _ _ _⟩
  have hd := zCe HR.out hn2
  rw [<- List.map_drop] at hd
  refine zKv hd fun b' off' c' n' hv' hp => ?_
  simp only [Value.slice.injEq, Option.some.injEq, Addr.mk.injEq] at hv'
  rw [<- hv'.1.1]
  exact HAP.out
theorem zI2 (r : Nat) (left : List Nat) (bad : Bool) (w : World) (h : IsR w r left bad) (h256 : ∀ x ∈ left, x < 256) (hbig : left.length <= 140737488355328) (hn : nextC left = none) :
  Calls Tryz.prog 50 #[.pointer (some ⟨r, 0, none⟩)] w fun e w' => e = .returned (.int .u64 0) ∧ IsR w' r [] true ∧ w.grownBy w' (some r) := by
 have HI := hid h
 obtain ⟨v, hv, hr⟩ := h
 obtain ⟨c0, c1, f0, f1⟩ := zBb hv
 have HR := hid hr
 have hr2 := hr
 obtain ⟨ao, cap, hvs, hrr⟩ := hr2
 clear hrr
 rw [Qa] at hvs
 subst hvs
 have HN := hid hn
 clear hv hr hn
 go_enter Tryz.func50, Tryz.ntmps50
 go_wp2_with fail
 refine (zCi ao left.length cap left w HR.out h256 hbig).mono ?_
 rw [HN.out]
 rintro e w1 ⟨rfl, rfl⟩
 go_wp2_with fail
 refine (zF6 r left bad w HI.out).mono ?_
 rintro e w2 ⟨rfl, hi, hg⟩
 have HI2 := hid hi
 have HG2 := hid hg
 clear hi hg
 go_wp2_with fail
 go_ret
 exact ⟨rfl, HI2.out, HG2.out⟩
def bytesC (xs : List Nat) : List Nat := numC xs.length ++ xs
theorem zNl (v y : Value) (bs xs : List Nat) (w : World) (hr : Rd w v (bs.map u8v)) (hy : Rd w y (xs.map u8v)) (hbig : bs.length <= 35184372088832) (hbx : xs.length <= 35184372088832) :
  Calls Tryz.prog 48 #[v, y] w (RetOwn w.heap.size 5 ((bs ++ bytesC xs).map u8v) w) := by
 have hy2 := hy
 obtain ⟨ao, cap, hv, hcap, _⟩ := hy
 rw [Qa] at hv
 subst hv
 obtain ⟨n, hn⟩ : ∃ n, n = xs.length := ⟨_, rfl⟩
 rw [<- hn] at hbx hy2 ⊢
 have HN := hid hn
 have HR := hid hr
 have HY := hid hy2
 have hn64 : n < 18446744073709551616 := by omega
 have HN64 := hid hn64
 have hnl := (zA5 9 n).1
 have hln := hid (show (bs ++ numC n).length <= 35184372088842 by rw [Qb]; unfold numC; omega)
 clear hr hy2 hn hn64 hnl
 obtain ⟨i0, hi, hz0, hz1, hz2⟩ := info_parts zHl
 go_enter Tryz.func48, Tryz.ntmps48
 go_wp2_with fail
 refine (zEj v bs n w HR.out (by omega) HN64.out).mono ?_
 rintro e w1 ⟨ao1, cap1, rfl, hown, hb⟩
 have hML : ((bs ++ numC n).map u8v).length = bs.length + (numC n).length := by rw [Qa, Qb]
 have HML := hid hML
 rw [hML] at hown
 have HO := hid hown
 have HB := hid hb
 have HY1 := hid (HY.out.kept hb)
 clear hown hb hML
 rcases ao with _ | a
 ·obtain rfl : cap = 0 := hcap.1 rfl
  have hn0 : n = 0 := by have := zBr HY.out; omega
  have HN0 := hid hn0
  clear hcap
  subst hn0
  go_wp2_with (at_builtin; refine wpList_append_own_none rfl _ _ 29 rfl w.heap.size 5 i0 1 Tryz.underlying29 hi _ _ _ rfl HO.out rfl ?_)
  go_ret
  have hx : xs = [] := Qg.1 HN.out.symm
  subst hx
  have e1 : bs ++ bytesC [] = bs ++ numC 0 := by simp [bytesC]
  rw [e1]
  refine ⟨ao1, cap1, ?_, ?_, HB.out⟩
  ·rw [HML.out]; rfl
  ·rw [HML.out]; exact HO.out
 ·clear hcap
  have H1 := hid (show (xs.map u8v).length = n * 1 by rw [Qa, Qh]; exact HN.out.symm)
  have H2 := hid (zFt HY1.out)
  have H3 := hid (zAq xs)
  have H4 := hid (show bs.length + (numC n).length <= 35184372088842 by have := hln.out; rwa [Qb] at this)
  have hsz := hid HB.out.size
  go_wp2_with (at_builtin; go_must (refine wpList_append_own _ rfl _ _ 29 rfl w.heap.size 5 i0 (.int .u8 0) 1 1 Tryz.underlying29 hi hz0 hz1 hz2 rfl (by decide) _ _ _ rfl HO.out a n cap (xs.map u8v) rfl H1.out H2.out H3.out (by have := H4.out; unfold maxLen; omega) (by have := H4.out; omega) hsz.out ?_); intro v' w3 hown' hgrow _)
  have HO' := hid hown'
  have HG' := hid hgrow
  clear hown' hgrow
  go_wp2
  go_ret
  have hown2 : w3.ownsRow w.heap.size 5 1 v' ((bs ++ bytesC xs).map u8v).length ((bs ++ bytesC xs).map u8v) := by
   have h1 := HO'.out
   have e1 : bs ++ bytesC xs = (bs ++ numC n) ++ xs := by unfold bytesC; rw [<- HN.out, Qe]
   have e2 : ((bs ++ bytesC xs).map u8v).length = bs.length + (numC n).length + n := by rw [e1, Qa, Qb, Qb, <- HN.out]
   rw [e2, e1, Qj]
   exact h1
  have hbl : Below w.heap.size w w3 := HB.out.grown HG'.out hsz.out (by
   intro k hk
   have := HO.out
   rcases this.2 with ⟨h, _⟩ | ⟨g', cap', cur, h, hbg, _⟩
   ·rw [h] at hk; cases hk
   ·rw [h] at hk; cases hk; exact hbg)
  obtain ⟨ao', cap', hv⟩ := zDg hown2
  refine ⟨ao', cap', ?_, ?_, hbl⟩
  ·show Ending.returned v' = _
   rw [hv]
  ·rw [<- hv]; exact hown2
theorem zAb {w w' : World} (h : Below w.heap.size w w') (row : Option Nat) : w.grownBy w' row := ⟨h.os, h.tape, h.output, h.size, fun k hk _ => h.block k hk⟩
theorem zMe (r : Nat) (left : List Nat) (bad : Bool) (w : World) (most : Int) (h : IsR w r left bad) (h256 : ∀ x ∈ left, x < 256) (hbig : left.length <= 140737488355328) (hn : nextC left = none) :
  Calls Tryz.prog 52 #[.pointer (some ⟨r, 0, none⟩), .int .i64 most] w fun e w' => e = .returned (.slice none 0 0) ∧ IsR w' r [] true ∧ w.grownBy w' (some r) := by
 have HI := hid h
 obtain ⟨v, hv, hr⟩ := h
 obtain ⟨c0, c1, f0, f1⟩ := zBb hv
 have HR := hid hr
 have hr2 := hr
 obtain ⟨ao, cap, hvs, hrr⟩ := hr2
 clear hrr
 rw [Qa] at hvs
 subst hvs
 have HN := hid hn
 clear hv hr hn
 go_enter Tryz.func52, Tryz.ntmps52
 go_wp2_with fail
 refine (zCi ao left.length cap left w HR.out h256 hbig).mono ?_
 rw [HN.out]
 rintro e w1 ⟨rfl, rfl⟩
 go_wp2_with fail
 refine (zF6 r left bad w HI.out).mono ?_
 rintro e w2 ⟨rfl, hi, hg⟩
 have HI2 := hid hi
 have HG2 := hid hg
 clear hi hg
 go_wp2_with fail
 go_ret
 exact ⟨rfl, HI2.out, HG2.out⟩
theorem zKx (r : Nat) (left : List Nat) (bad : Bool) (w : World) (most : Int) (h : IsR w r left bad) (h256 : ∀ x ∈ left, x < 256) (hbig : left.length <= 140737488355328) (u n : Nat) (hn : nextC left = some (u, n)) (hn1 : 0 < n) (hn2 : n <= left.length)
  (hm0 : 0 <= most) (hm1 : (u : Int) <= most) (hm2 : most <= 9223372036854775807) (hu : left.length < n + u) :
  Calls Tryz.prog 52 #[.pointer (some ⟨r, 0, none⟩), .int .i64 most] w fun e w' => e = .returned (.slice none 0 0) ∧ IsR w' r [] true ∧ w.grownBy w' (some r) := by
 have HI := hid h
 obtain ⟨v, hv, hr⟩ := h
 obtain ⟨c0, c1, f0, f1⟩ := zBb hv
 have HR := hid hr
 have hr2 := hr
 obtain ⟨ao, cap, hvs, hrr⟩ := hr2
 clear hrr
 rw [Qa] at hvs
 subst hvs
 have HN := hid hn
 obtain ⟨len, hlen⟩ : ∃ len, len = left.length := ⟨_, rfl⟩
 rw [<- hlen] at c0 hbig hn2 hu HR
 have hne : ((n : Int) == 0) = false := by rw [beq_eq_false_iff_ne]; omega
 clear hv hr hn hlen
 go_enter Tryz.func52, Tryz.ntmps52
 go_wp2_with fail
 refine (zCi ao len cap left w HR.out h256 hbig).mono ?_
 rw [HN.out]
 rintro e w1 ⟨rfl, rfl⟩
 go_wp2_with fail
 refine (zF6 r left bad w HI.out).mono ?_
 rintro e w2 ⟨rfl, hi, hg⟩
 have HI2 := hid hi
 have HG2 := hid hg
 clear hi hg
 go_wp2_with fail
 go_ret
 exact ⟨rfl, HI2.out, HG2.out⟩
end Go.Proofs.YtmpgnjhgegbdkaaGreat
