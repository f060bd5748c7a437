/-
  Contracts of packages text and rept, small: a value that is null or a number below 100; a row of such.
-/
import Derived.Test.YtblnpkameboohaaDoorRlay
import Derived.Test.YtblnpkameboohaaDoorLsix
import Derived.Test.YtblnpkameboohaaDoorFrAp
namespace Go.Proofs.YtblnpkameboohaaDoor
set_option linter.unusedVariables false
set_option linter.unusedSimpArgs false
open Go.RowKit

/-- Null, or a number below 100. -/
def OkT (x : Vc) : Prop := x.u = true ∨ (x.u = false ∧ x.k = 1 ∧ ∃ i : Nat, i < 100 ∧ x.n = (i : Int))
def tv (x : Vc) : List UInt8 := if x.u then [110, 117, 108, 108] else Lib.decDigits x.n.toNat
def strV (l : List UInt8) : Value := .string ⟨l.toArray⟩
def rowT (l : List Vc) : List UInt8 := [91] ++ Lib.join (l.map tv) [44] ++ [93]
theorem dec_len {i : Nat} (h : i < 100) : (Lib.decDigits i).length ≤ 2 := by
  unfold Lib.decDigits
  split
  · simp
  · unfold Lib.decDigits
    rw [dif_pos (by omega)]
    simp
theorem tv_len {x : Vc} (h : OkT x) : (tv x).length ≤ 4 := by
  unfold tv
  rcases h with h | ⟨h, _, i, hi, hn⟩
  · rw [if_pos h]; simp
  · rw [if_neg (by rw [h]; decide), hn]
    have := dec_len hi
    simp only [Int.toNat_natCast]
    omega
theorem join_cons (x y : List UInt8) (r : List (List UInt8)) (sep : List UInt8) : Lib.join (x :: y :: r) sep = x ++ sep ++ Lib.join (y :: r) sep := by
  simp [Lib.join, List.intercalate, List.intersperse]
theorem join_one (x : List UInt8) (sep : List UInt8) : Lib.join [x] sep = x := by simp [Lib.join, List.intercalate, List.intersperse]
theorem join_nil (sep : List UInt8) : Lib.join [] sep = [] := by simp [Lib.join, List.intercalate, List.intersperse]
theorem join_len (sep : List UInt8) (L : Nat) : ∀ (xs : List (List UInt8)), (∀ x ∈ xs, x.length ≤ L) → (Lib.join xs sep).length ≤ xs.length * (L + sep.length)
  | [], _ => by rw [join_nil]; simp
  | [x], h => by
    rw [join_one]
    have := h x List.mem_cons_self
    simp only [List.length_cons, List.length_nil]
    omega
  | x :: y :: r, h => by
    rw [join_cons]
    have h1 := h x List.mem_cons_self
    have h2 := join_len sep L (y :: r) fun z hz => h z (List.mem_cons_of_mem _ hz)
    simp only [List.length_append, List.length_cons] at h2 ⊢
    rw [Nat.add_mul (r.length + 1)]
    omega
theorem rowT_len {l : List Vc} (h : ∀ x ∈ l, OkT x) : (rowT l).length ≤ l.length * 5 + 2 := by
  unfold rowT
  have := join_len [44] 4 (l.map tv) (fun x hx => by obtain ⟨y, hy, rfl⟩ := List.mem_map.1 hx; exact tv_len (h y hy))
  simp only [List.length_append, List.length_map, List.length_cons, List.length_nil] at this ⊢
  omega
theorem str_size (l : List UInt8) : (⟨l.toArray⟩ : ByteArray).size = l.length := by simp [ByteArray.size]

set_option maxRecDepth 100000 in
set_option maxHeartbeats 4000000 in
theorem tval_any (x : Vc) (a : Option Addr) (n c : Nat) (h : OkT x) (w : World) :
    Calls Tryd.prog 26 #[.agg #[.bool x.u, .int .i64 x.k, .int .i64 x.n, .slice a n c]] w fun e w' => e = .returned (strV (tv x)) ∧ Below w.heap.size w w' := by
  obtain ⟨u, k, m, b⟩ := x
  unfold OkT tv strV at *
  simp only at h ⊢
  rcases h with h | ⟨h, hk, i, hi, hn⟩
  · subst h
    go_enter Tryd.func26, Tryd.ntmps26
    go_wp2_with fail
    go_ret
    exact ⟨rfl, below_alloc w _⟩
  · subst h hk hn
    go_enter Tryd.func26, Tryd.ntmps26
    go_wp2_with fail
    refine (Tryd.strconv_FormatInt_10_small i hi _).mono ?_
    rintro e w2 ⟨rfl, rfl⟩
    go_wp2_with fail
    go_ret
    exact ⟨by simp, below_alloc w _⟩

set_option maxRecDepth 100000 in
theorem tnum_any (i : Nat) (hi : i < 100) (w : World) :
    Calls Tryd.prog 15 #[.int .i64 (i : Int)] w fun e w' => e = .returned (strV (Lib.decDigits i)) ∧ Below w.heap.size w w' := by
  go_enter Tryd.func15, Tryd.ntmps15
  go_wp2_with fail
  refine (Tryd.strconv_Itoa_small i hi _).mono ?_
  rintro e w2 ⟨rfl, rfl⟩
  go_wp2_with fail
  go_ret
  exact ⟨rfl, Below.refl _ _⟩

theorem own_lt2n {w : World} {B g : Nat} {E : TypeId} {size n cap : Nat} {xs : List Value} (h : w.ownsRow B E size (.slice (some ⟨g, 0, none⟩) n cap) n xs) : g < w.heap.size := by
  rcases h.2 with ⟨h1, _⟩ | ⟨g', cap', cur, h1, hbg, hh, _⟩
  · cases h1
  · simp only [Value.slice.injEq, Option.some.injEq, Addr.mk.injEq] at h1
    obtain ⟨⟨rfl, _⟩, _⟩ := h1
    exact (Array.getElem?_eq_some_iff.1 hh).1
theorem own_lt2m {w : World} {B : Nat} {E : TypeId} {size n : Nat} {v : Value} {xs : List Value} (h : w.ownsRow B E size v n xs) : ∀ g, v.ownBlock = some g → g < w.heap.size := by
  intro k hk
  rcases h.2 with ⟨rfl, _⟩ | ⟨g, cap, cur, rfl, hbg, hh, _⟩
  · cases hk
  · have h2 : g = k := by simpa [Value.ownBlock] using hk
    subst h2
    exact (Array.getElem?_eq_some_iff.1 hh).1
theorem own_keptn {w w' : World} {B : Nat} {E : TypeId} {size n : Nat} {v : Value} {xs : List Value} (h : w.ownsRow B E size v n xs) (hb : Below w.heap.size w w') : w'.ownsRow B E size v n xs :=
  ownsRow_agree h (agree_below hb hb.size) (fun i hi e => by have := own_lt2m h i hi; omega)
theorem strV_append (a b : List UInt8) : (⟨a.toArray⟩ : ByteArray) ++ (⟨b.toArray⟩ : ByteArray) = ⟨(a ++ b).toArray⟩ := by rw [ByteArray.mk_append_mk]
theorem infoStr : (Tryd.prog.info? 9).map (fun i => (i.zero, i.size, i.bytes)) = some (some (.string ⟨#[]⟩), 1, 16) := by kernel_rfl
set_option maxRecDepth 100000 in
set_option maxHeartbeats 8000000 in
theorem ttell_any (v : Value) (l : List (Vc × Value)) (hl : l.length ≤ 100) (hok : ∀ t ∈ l, OkT t.1) (w : World) (hr : RdP w v l) :
    Calls Tryd.prog 17 #[v] w fun e w' => e = .returned (strV (rowT (l.map Prod.fst))) ∧ Below w.heap.size w w' := by
  obtain ⟨va, vc, rfl⟩ := rdP_shape hr
  obtain ⟨n, hn⟩ : ∃ n, n = l.length := ⟨_, rfl⟩
  rw [← hn] at hr ⊢
  have HN := Lib.hid hn
  have HR := Lib.hid hr
  have HOK := Lib.hid hok
  have hnl : n ≤ 100 := by omega
  clear hr hn hok hl
  obtain ⟨i0, hi, hz0, hz1, hz2⟩ := info_parts infoStr
  go_enter Tryd.func17, Tryd.ntmps17
  go_upto_region 2 with (at_make; go_must (refine wpList_make_full _ rfl _ _ 51 rfl w.heap.size 9 i0 _ 1 Tryd.underlying51 hi hz0 hz1 .i64 .i64 _ _ n rfl rfl rfl rfl (by rw [hz2]; omega) (by unfold maxLen; omega) (Nat.le_refl _) ?_); intro w1 hown1 hgrow1)
  have HO1 := Lib.hid hown1
  have HB1 := Lib.hid (show Below w.heap.size w w1 from ⟨hgrow1.os, hgrow1.tape, hgrow1.output, hgrow1.size, fun i hi => hgrow1.block i hi (by simp)⟩)
  obtain ⟨xs0, hxs0⟩ : ∃ xs0, xs0 = (madeCells (Value.string ⟨#[]⟩).cells (n * 1)).toList := ⟨_, rfl⟩
  rw [← hxs0] at HO1
  obtain ⟨G, hG⟩ : ∃ G, G = w.heap.size := ⟨_, rfl⟩
  have HGG := Lib.hid hG
  rw [← hG] at HO1 ⊢
  clear hown1 hgrow1 hxs0 hG hi hz0 hz1 hz2
  go_wp2_with fail
  go_loopw [11] (fun i wr => ∃ q : Nat, ∃ xs : List Value, q ≤ n ∧ i = .int .i64 (q : Int) ∧ xs.length = n ∧ xs.take q = (l.take q).map (fun t => strV (tv t.1)) ∧ wr.ownsRow G 9 1 (.slice (some ⟨G, 0, none⟩) n n) n xs ∧ Below w.heap.size w wr) (fun i _ => n - (intOf i).toNat)
  case atStart => exact ⟨0, xs0, Nat.zero_le _, rfl, by have := HO1.out.1; omega, by simp, HO1.out, HB1.out⟩
  case round =>
    obtain ⟨q, xs, hq, rfl, hxl, hxt, hown, hb⟩ := hrel
    have HXL := Lib.hid hxl
    have HXT := Lib.hid hxt
    have HO := Lib.hid hown
    have HB := Lib.hid hb
    clear hxl hxt hown hb
    by_cases hlt : q < n
    · obtain ⟨t, ht⟩ : ∃ t, l[q]? = some t := ⟨_, List.getElem?_eq_getElem (by rw [← HN.out]; exact hlt)⟩
      have HTK := Lib.hid (show l.take (q + 1) = l.take q ++ [t] by rw [List.take_add_one, ht]; rfl)
      have HOT := Lib.hid (HOK.out t (List.mem_of_getElem? ht))
      obtain ⟨bb, off, rfl, k0, k1, k2, k3, _⟩ := RdP.at (HR.out.kept HB.out) ht
      obtain ⟨x, sv⟩ := t
      simp only at k0 k1 k2 k3 HOT HTK
      have hsv : ∃ a m c, sv = .slice a m c := by
        have h1 := (HR.out.2 _ (List.mem_of_getElem? ht)).1
        obtain ⟨ao, cap, hv, _⟩ := h1
        exact ⟨ao, _, cap, hv⟩
      obtain ⟨sa, sm, sc, rfl⟩ := hsv
      have hgl : G < wr.heap.size := own_lt2n HO.out
      obtain ⟨u0, c0⟩ : ∃ u, wr.cell? ⟨G, q, none⟩ = some u := by
        have hlt2 : q < xs.length := by rw [HXL.out]; omega
        exact ⟨_, (HO.out.cellAt q (by omega)).trans (List.getElem?_eq_getElem hlt2)⟩
      have f0 := HO.out.frozenAt q
      obtain ⟨W, hW⟩ : ∃ W : World, W = wr.alloc (.cells #[.bool x.u, .int .i64 x.k, .int .i64 x.n, .slice sa sm sc] 30) := ⟨_, rfl⟩
      have hbW : Below wr.heap.size wr W := by rw [hW]; exact below_alloc wr _
      have hnW : W.heap[wr.heap.size]? = some (.cells #[.bool x.u, .int .i64 x.k, .int .i64 x.n, .slice sa sm sc] 30 (0, 0)) := by rw [hW]; exact heap_alloc_new wr _
      have HBW := Lib.hid hbW
      have HNW := Lib.hid hnW
      have HC0 := Lib.hid c0
      have HF0 := Lib.hid f0
      have hqi : (q : Int) < (n : Int) := by omega
      have hq0 : (0 : Int) ≤ (q : Int) := by omega
      go_upto_region 5 with (fail)
      rw [← hW]
      have d0 : W.cell? ⟨wr.heap.size, 0, none⟩ = some (.bool x.u) := by rw [cell_of_row W _ 0 _ _ _ hnW]; rfl
      have d1 : W.cell? ⟨wr.heap.size, 1, none⟩ = some (.int .i64 x.k) := by rw [cell_of_row W _ 1 _ _ _ hnW]; rfl
      have d2 : W.cell? ⟨wr.heap.size, 2, none⟩ = some (.int .i64 x.n) := by rw [cell_of_row W _ 2 _ _ _ hnW]; rfl
      have d3 : W.cell? ⟨wr.heap.size, 3, none⟩ = some (.slice sa sm sc) := by rw [cell_of_row W _ 3 _ _ _ hnW]; rfl
      clear k0 k1 k2 k3 ht c0 f0 hW hbW hnW
      go_wp2_with fail
      refine (tval_any x sa sm sc HOT.out W).mono ?_
      rintro e w2 ⟨rfl, hb2⟩
      have HB2 := Lib.hid (below_then HBW.out hb2)
      have c0 := (HB2.out.cell (p := ⟨G, q, none⟩) (World.block_lt_of_cell? _ _ HC0.out)).trans HC0.out
      have HO2 := Lib.hid (own_keptn HO.out HB2.out)
      have f0 := HO2.out.frozenAt q
      obtain ⟨tx, htx⟩ : ∃ tx, tx = strV (tv x) := ⟨_, rfl⟩
      have HTX := Lib.hid htx
      obtain ⟨sb, hsb⟩ : ∃ sb : ByteArray, sb = ⟨(tv x).toArray⟩ := ⟨_, rfl⟩
      have hts : strV (tv x) = .string sb := by rw [hsb]; rfl
      rw [hts]
      have HTS := Lib.hid hts
      clear hb2 d0 d1 d2 d3 htx hsb hts
      go_wp2_with fail
      go_roundw
      case rel =>
        refine ⟨q + 1, _, by omega, by go_num, ?_, ?_, (HO2.out.stored q (.string sb)).1, ?_⟩
        · rw [List.length_set]; exact HXL.out
        · rw [HTK.out, List.map_append, List.take_add_one, List.getElem?_set_self (by rw [HXL.out]; exact hlt), List.take_set_of_le (Nat.le_refl _), HXT.out, List.map_cons, List.map_nil, HTS.out]
          rfl
        · exact (HB.out.trans (HB2.out.mono HB.out.size)).setCell (p := ⟨G, q, none⟩) (by show _ ≤ G; rw [HGG.out]; exact Nat.le_refl _) _
      case measure => simp [intOf]; omega
    · have hqn : q = n := by omega
      subst hqn
      have hxt := HXT.out
      rw [List.take_of_length_le (by rw [HXL.out]; exact Nat.le_refl _), List.take_of_length_le (by rw [← HN.out]; exact Nat.le_refl _)] at hxt
      have hni : ¬ ((q : Int) < (q : Int)) := by omega
      obtain ⟨J, hJ⟩ : ∃ J, J = Lib.join (l.map fun t => tv t.1) [44] := ⟨_, rfl⟩
      have HJL := Lib.hid (show J.length ≤ 1000 by
        rw [hJ]
        have h := join_len [44] 4 (l.map fun t => tv t.1) (fun x hx => by obtain ⟨y, hy, rfl⟩ := List.mem_map.1 hx; exact tv_len (HOK.out y hy))
        simp only [List.length_map, List.length_cons, List.length_nil] at h
        have := HN.out
        omega)
      have HJO := Lib.hid (show Calls Tryd.prog 18 #[.slice (some ⟨G, 0, none⟩) q q, .string ⟨#[44]⟩] wr fun e w' => e = .returned (.string ⟨J.toArray⟩) ∧ Below wr.heap.size wr w' from by
        by_cases h0 : q = 0
        · subst h0
          refine (Tryd.strings_Join_none (some ⟨G, 0, none⟩) 0 _ wr).mono ?_
          rintro e w' ⟨rfl, rfl⟩
          have hl0 : l = [] := List.length_eq_zero_iff.1 HN.out.symm
          refine ⟨?_, Below.refl _ _⟩
          rw [hJ, hl0, List.map_nil, join_nil]
        · have h := Tryd.strings_Join G 0 q (l.map fun t => ⟨(tv t.1).toArray⟩) ⟨#[44]⟩ wr (fun j x hx => by
            rw [List.getElem?_map] at hx
            obtain ⟨t, ht, rfl⟩ := Option.map_eq_some_iff.1 hx
            rw [Nat.zero_add, HO.out.cellAt j (by have := (List.getElem?_eq_some_iff.1 ht).1; have := HN.out; omega), hxt, List.getElem?_map, ht]
            rfl) (own_lt2n HO.out) (by rw [List.length_map, ← HN.out]; omega) (by rw [List.length_map, ← HN.out]; exact Nat.le_refl _) (by
            have h1 : ((l.map fun t => (⟨(tv t.1).toArray⟩ : ByteArray)).map fun x => x.data.toList) = l.map fun t => tv t.1 := by rw [List.map_map]; rfl
            have h2 : ((⟨#[44]⟩ : ByteArray).data.toList) = [44] := rfl
            rw [h1, h2, ← hJ]
            have := HJL.out
            omega)
          have h1 : ((l.map fun t => (⟨(tv t.1).toArray⟩ : ByteArray)).map fun x => x.data.toList) = l.map fun t => tv t.1 := by rw [List.map_map]; rfl
          have h2 : ((⟨#[44]⟩ : ByteArray).data.toList) = [44] := rfl
          rw [h1, h2, ← hJ, List.length_map, ← HN.out] at h
          exact h)
      have HJE := Lib.hid (show rowT (l.map Prod.fst) = [91] ++ J ++ [93] by rw [hJ]; unfold rowT; rw [List.map_map]; rfl)
      clear hxt hJ
      go_wp2_with fail
      refine HJO.out.mono ?_
      rintro e w2 ⟨rfl, hb2⟩
      have HB2 := Lib.hid (HB.out.trans (hb2.mono HB.out.size))
      have hjs : (⟨J.toArray⟩ : ByteArray).size = J.length := str_size J
      have hj1 : J.length ≤ 1000 := HJL.out
      clear hb2 HJO
      go_wp2_with fail
      go_ret
      refine ⟨?_, HB2.out⟩
      rw [HJE.out]
      show Ending.returned (Value.string ((⟨[91].toArray⟩ : ByteArray) ++ (⟨J.toArray⟩ : ByteArray) ++ (⟨[93].toArray⟩ : ByteArray))) = _
      rw [strV_append, strV_append]
      rfl

end Go.Proofs.YtblnpkameboohaaDoor
