/-
  Contracts of norm.sum and norm.product, of what normal answers for each.
-/
import Derived.Test.YtfmkalnnpddefaaNtim
import Derived.Test.YtfmkalnnpddefaaLseven
namespace Go.Proofs.Ytfmkalnnpddefaa
set_option linter.unusedVariables false
set_option linter.unusedSimpArgs false
open Go.RowKit

/-- normal, called with such a predicate, and so many left. -/
def NrmOK (p : Pt) : Prop :=
  ∀ (nt : Bool) (cs : List Value) (L : Int) (X : Nat → Prop) (w : World) (lb : Nat), RdT1F X w p cs → X lb → Lft w lb L → (nodesT p : Int) ≤ L → L ≤ 1000000 →
    Calls Try.prog 65 #[.agg cs.toArray, .bool nt, .pointer (some ⟨lb, 0, none⟩)] w fun e w' => RetN X w (nrm p nt) e w' ∧ ∃ L', L ≤ L' + (nodesT p : Int) ∧ L' ≤ L ∧ Lft w' lb L' ∧ w.grownBy w' (some lb)

theorem ownN_append {X : Nat → Prop} {B lb : Nat} {wr w1 w2 w3 : World} {v v3 : Value} {o mm : List (List Pt)} {sls yls : List Value}
    (hown : wr.ownsRow B 29 1 v o.length sls) (hlen : sls.length = o.length) (hel : ∀ (i : Nat) (s : Value) (l : List Pt), sls[i]? = some s → o[i]? = some l → RdLF (fun b => (X b ∧ b < B) ∨ v.ownBlock = some b) wr s l)
    (hx : X lb) (hlb : lb < B) (hB : B ≤ wr.heap.size) (hs1 : wr.heap.size ≤ w1.heap.size) (hag : wr.grownBy w2 (some lb))
    (hyl : yls.length = mm.length) (hyel : ∀ (i : Nat) (s : Value) (l : List Pt), yls[i]? = some s → mm[i]? = some l → RdLF (fun b => (X b ∨ B ≤ b) ∧ b < w1.heap.size) w2 s l)
    (hg : w2.grownBy w3 v.ownBlock) (hnew : ∀ g, v3.ownBlock = some g → v.ownBlock = some g ∨ g = w2.heap.size)
    (h3 : w3.ownsRow B 29 1 v3 (o.length + mm.length) (sls ++ yls)) : OwnN X B w3 v3 (o ++ mm) := by
  have hold : ∀ b, v.ownBlock = some b → B ≤ b ∧ b < wr.heap.size := fun b hb => hown.lt b hb
  have hs2 := hag.size
  refine ⟨sls ++ yls, by rw [List.length_append]; exact h3, by rw [List.length_append, List.length_append, hlen, hyl], fun i t lt hi hli => ?_⟩
  by_cases hlt : i < sls.length
  · rw [List.getElem?_append_left hlt] at hi
    rw [List.getElem?_append_left (by rw [← hlen]; exact hlt)] at hli
    have h23 : Agree (fun b => b = lb ∨ v.ownBlock = some b) wr w3 := ((agree_grown hag).mono fun b _ h => .inl (Option.some.inj h).symm).then (agree_grown hg) fun b _ h => .inr h
    refine (hel i t lt hi hli).to h23 (fun b _ h => ?_) (fun b hb h => ?_)
    · rcases h with rfl | h
      · exact .inl ⟨hx, hlb⟩
      · exact .inr h
    · rcases h with h | h
      · exact .inl h
      · rcases hnew b h with h | h
        · exact .inr h
        · omega
  · rw [List.getElem?_append_right (by omega)] at hi
    rw [List.getElem?_append_right (by rw [← hlen]; omega), ← hlen] at hli
    refine (hyel _ t lt hi hli).to (agree_grown hg) (fun b _ h => ?_) (fun b hb h => ?_)
    · have h1 := hold b h
      exact ⟨.inr h1.1, by omega⟩
    · rcases h with h | h
      · exact ⟨.inl h.1, by have := h.2; omega⟩
      · rcases hnew b h with h | h
        · have h1 := hold b h
          exact ⟨.inr h1.1, by omega⟩
        · omega

theorem rd_lit_agree {X : Nat → Prop} {w w' : World} {cs : Array Value} {E : TypeId} {n : Nat} (h : Agree X (w.alloc (.cells cs E)) w') (hx : ∀ b, X b → b < w.heap.size) (hn : n = cs.toList.length := by rfl) : Rd w' (.slice (some ⟨w.heap.size, 0, none⟩) n n) cs.toList := by
  subst hn
  refine ⟨some ⟨w.heap.size, 0, none⟩, cs.toList.length, rfl, ⟨(fun h => by cases h), Nat.le_refl _⟩, fun _ => ⟨w.heap.size, 0, rfl, fun i hi => ?_⟩⟩
  have h1 : w'.heap[w.heap.size]? = some (.cells cs E (0, 0)) := (h.block w.heap.size (by simp) fun e => by have := hx _ e; omega).trans (heap_alloc_new w _)
  rw [cell_of_row w' w.heap.size _ _ _ _ h1, Nat.zero_add, List.getD_eq_getElem?_getD, List.getElem?_eq_getElem hi]
  rw [← Array.getElem?_toList, List.getElem?_eq_getElem hi]
  rfl

/-- What a round knows of the predicate at hand. -/
theorem free_at {X : Nat → Prop} {w wr : World} {ls : Value} {l : List Pt} {css : List (List Value)} {lb k : Nat} {p : Pt} (h : Free X w (fun w' => RdS w' 8 ls css) ∧ RdTsF X w l css) (hx : X lb) (hg : w.grownBy wr (some lb)) (hp : l[k]? = some p) :
    ∃ cs, css[k]? = some cs ∧ RdT1F (fun b => X b ∨ w.heap.size ≤ b) wr p cs ∧ RdS wr 8 ls css := by
  obtain ⟨cs, h1, h2⟩ := h.2.at hp
  exact ⟨cs, h1, RdT1F.to (agree_grown hg) (fun b _ h => by cases h; exact hx) (fun b hb h => h.elim id fun h => by omega) _ h2, h.1 wr ((agree_grown hg).mono fun b _ h => by cases h; exact hx)⟩

set_option maxRecDepth 100000 in
set_option maxHeartbeats 8000000 in
theorem sum_any (nt : Bool) (l : List Pt) (hl : l.length ≤ 1000000) (ih : ∀ (i : Nat) (q : Pt), l[i]? = some q → NrmOK q) (ls : Value) (css : List (List Value)) (L : Int) (X : Nat → Prop) (w : World) (lb : Nat)
    (hs : Free X w (fun w' => RdS w' 8 ls css) ∧ RdTsF X w l css) (hx : X lb) (hL : Lft w lb L) (hc : (nodesL l : Int) ≤ L) (hL2 : L ≤ 1000000) :
    Calls Try.prog 105 #[ls, .bool nt, .pointer (some ⟨lb, 0, none⟩)] w fun e w' => RetN X w (sumN l nt []) e w' ∧ ∃ L', L ≤ L' + (nodesL l : Int) ∧ L' ≤ L ∧ Lft w' lb L' ∧ w.grownBy w' (some lb) := by
  obtain ⟨ao, cap, rfl⟩ := rdS_shape hs.1.now
  have hcl := rdTs_len hs.2.now
  obtain ⟨n, hN⟩ : ∃ n, n = l.length := ⟨_, rfl⟩
  rw [hcl, ← hN] at hs ⊢
  rw [← hN] at hl
  have HN := Lib.hid hN
  have HS := Lib.hid hs
  have HIH := Lib.hid ih
  have HC := Lib.hid hc
  have HL := Lib.hid hL
  have HXL := Lib.hid hx
  have HLB := Lib.hid (lft_lt hL)
  clear hs hL ih hc hcl hN hx
  go_enter Try.func105, Try.ntmps105
  go_wp2_with fail
  go_loopw [8, 15] (fun s i wr => ∃ q : Nat, ∃ L' oa k oc m, q ≤ n ∧ i = .int .i64 (q : Int) ∧ s = .slice oa k oc ∧ k = List.length m ∧ sumN (l.take q) nt [] = some m ∧ OwnN X w.heap.size wr (.slice oa k oc) m ∧ L ≤ L' + (nodesL (l.take q) : Int) ∧ L' ≤ L ∧ Lft wr lb L' ∧ w.grownBy wr (some lb)) (fun _ i _ => n - (intOf i).toNat)
  case atStart => exact ⟨0, L, none, 0, 0, [], Nat.zero_le _, rfl, rfl, rfl, by simp [sumN], ownN_nil _ _ _, by simp [nodesL], Int.le_refl _, HL.out, ⟨rfl, rfl, rfl, Nat.le_refl _, fun _ _ _ => rfl⟩⟩
  case round =>
    obtain ⟨q, L1, oa, k, oc, m, hq, rfl, rfl, hk, hm, hown, hc1, hc2, hlf, hg⟩ := hrel
    have HK := Lib.hid hk
    have HM := Lib.hid hm
    have HO := Lib.hid hown
    have HC1 := Lib.hid hc1
    have HC2 := Lib.hid hc2
    have HLF := Lib.hid hlf
    have HG := Lib.hid hg
    have hk32 : k ≤ 32 := by rw [hk]; exact (sumN_small _ nt [] (by simp [SmallN]) hm).1
    clear hk hm hown hc1 hc2 hlf hg
    by_cases hlt : q < n
    · obtain ⟨p, hp⟩ : ∃ p, l[q]? = some p := ⟨_, List.getElem?_eq_getElem (by rw [← HN.out]; exact hlt)⟩
      have HTK := Lib.hid (show l.take (q + 1) = l.take q ++ [p] by rw [List.take_add_one, hp]; rfl)
      have HTD := Lib.hid (show l = l.take (q + 1) ++ l.drop (q + 1) from (List.take_append_drop _ _).symm)
      have HCT := Lib.hid (nodesL_take hp)
      have HCL := Lib.hid (nodesL_le l (q + 1))
      obtain ⟨cs, hcs, hfr, hrs⟩ := free_at HS.out HXL.out HG.out hp
      have HP := HIH.out q p hp
      clear hp
      obtain ⟨r, hr⟩ : ∃ r, r = nrm p nt := ⟨_, rfl⟩
      have HR := Lib.hid hr
      have HCALL : ∀ o, Hid (Calls Try.prog 65 #[.agg cs.toArray, .bool nt, .pointer (some ⟨lb, 0, none⟩)] (wr.alloc o) fun e w' => RetN (fun b => X b ∨ w.heap.size ≤ b) (wr.alloc o) r e w' ∧ ∃ L', L1 ≤ L' + (nodesT p : Int) ∧ L' ≤ L1 ∧ Lft w' lb L' ∧ (wr.alloc o).grownBy w' (some lb)) := fun o => by
        have c1 := HC1.out
        have c2 := HC2.out
        have c3 := HC.out
        have c4 := HCT.out
        have c5 := HCL.out
        rw [hr]
        exact Lib.hid (HP nt cs L1 _ (wr.alloc o) lb (RdT1F.to (agree_alloc (fun _ => False) wr o) (fun _ _ h => h.elim) (fun _ _ h => h) _ hfr) (.inl HXL.out) (lft_alloc HLF.out o) (by omega) (by omega))
      have hrd := hfr.now
      clear hr HP hfr
      obtain ⟨pk, pc, po, pv, pl⟩ := p
      unfold RdT1 at hrd
      obtain ⟨es, els, ecss, rfl, hok, hels, hets⟩ := hrd
      obtain ⟨sa, sc, hes⟩ := rd_shape8 hok.1
      obtain ⟨ea, ec, hel⟩ := rdS_shape hels
      simp only at hes
      subst hes hel
      obtain ⟨b, off, rfl, hcell⟩ := hrs.at hcs
      have k0 := hcell 0 _ rfl
      have k1 := hcell 1 _ rfl
      have k2 := hcell 2 _ rfl
      have k3 := hcell 3 _ rfl
      have k4 := hcell 4 _ rfl
      have k5 := hcell 5 _ rfl
      have k6 := hcell 6 _ rfl
      have k7 := hcell 7 _ rfl
      simp only [Nat.add_zero] at k0
      obtain ⟨pu, pvk, pvn, pb⟩ := pv
      unfold cellsP at HCALL
      simp only at HCALL k0 k1 k2 k3 k4 k5 k6 k7
      clear hok hels hets hcell hcs hrs
      cases r with
      | none =>
        have HNO := Lib.hid (show sumN l nt [] = none by
          rw [HTD.out]
          refine sumN_none ?_
          rw [HTK.out, sumN_snoc, HM.out]
          simp only
          rw [← HR.out])
        go_wp2_with fail
        refine (HCALL _).out.mono ?_
        rintro e w2 ⟨hret, L2, d1, d2, d3, d4⟩
        obtain rfl : e = .returned (.tuple #[.slice none 0 0, .bool false]) := hret
        have HF := Lib.hid (show RetN X w (sumN l nt []) (.returned (.tuple #[.slice none 0 0, .bool false])) w2 ∧ ∃ L', L ≤ L' + (nodesL l : Int) ∧ L' ≤ L ∧ Lft w2 lb L' ∧ w.grownBy w2 (some lb) from
          ⟨by rw [HNO.out]; rfl, L2, by have := HC1.out; have := HCT.out; have := HCL.out; omega, by have := HC2.out; omega, d3, grown_trans (grown_trans HG.out (World.grownBy_alloc wr _ _)) d4⟩)
        clear d1 d2 d3 d4
        go_wp2_with fail
        go_ret2
        exact HF.out
      | some mm =>
        go_wp2_with fail
        refine (HCALL _).out.mono ?_
        rintro e w2 ⟨hret, L2, d1, d2, d3, d4⟩
        obtain ⟨v2, rfl, hv2⟩ : ∃ v, e = .returned (.tuple #[v, .bool true]) ∧ RdNF _ w2 v mm := hret
        obtain ⟨ya, yc, rfl⟩ := rdNF_shape hv2
        obtain ⟨y, hy⟩ : ∃ y, y = mm.length := ⟨_, rfl⟩
        rw [← hy] at hv2
        have HY := Lib.hid hy
        have HV2 := Lib.hid hv2
        have hy32 : y ≤ 32 := by rw [hy]; exact (nrm_small _ nt HR.out.symm).1
        have HGW := Lib.hid (show wr.grownBy w2 (some lb) from grown_trans (World.grownBy_alloc wr _ _) d4)
        have HW2 := Lib.hid (show L ≤ L2 + (nodesL (l.take (q + 1)) : Int) ∧ L2 ≤ L ∧ Lft w2 lb L2 ∧ w.grownBy w2 (some lb) from ⟨by have := HC1.out; have := HCT.out; omega, by have := HC2.out; omega, d3, grown_trans (grown_trans HG.out (World.grownBy_alloc wr _ _)) d4⟩)
        clear d1 d2 d3 d4 hy hv2
        have HSN := Lib.hid (show sumN (l.take (q + 1)) nt [] = if 32 < k + y then none else some (m ++ mm) by
          rw [HTK.out, sumN_snoc, HM.out]
          simp only
          rw [← HR.out]
          simp only
          rw [← HK.out, ← HY.out])
        rw [← HY.out]
        by_cases hfit : k + y ≤ 32
        · have q2 : decide ((32 : Int) < (k : Int) + (y : Int)) = false := by rw [decide_eq_false_iff_not]; omega
          rw [if_neg (by omega)] at HSN
          clear hfit
          obtain ⟨sls, ho1, ho2, ho3⟩ := HO.out
          obtain ⟨yls, hy1, hy2, hy3⟩ := HV2.out
          have HOW := Lib.hid (show w2.ownsRow w.heap.size 29 1 (.slice oa k oc) k sls from by
            rw [← HK.out] at ho1
            refine ownsRow_agree ho1 (agree_grown HGW.out) fun b hb h => ?_
            cases h
            have := (ho1.lt lb hb).1
            have := HLB.out
            omega)
          have HO1 := Lib.hid ho1
          have HO2 := Lib.hid ho2
          have HO3 := Lib.hid ho3
          have HY1 := Lib.hid (rdS_flat hy1.now)
          have HY2 := Lib.hid hy2
          have HY3 := Lib.hid hy3
          have HON := Lib.hid (show Ones 1 (yls.map fun u => [u]) from ones_flat fun u hu => by
            obtain ⟨i, hi, rfl⟩ := List.mem_iff_getElem.1 hu
            obtain ⟨sa2, sc2, e⟩ := rdLF_shape (hy3 i yls[i] _ (List.getElem?_eq_getElem hi) (List.getElem?_eq_getElem (by rw [← hy2]; exact hi)))
            rw [e]
            rfl)
          have HSZ := Lib.hid (show w.heap.size ≤ w2.heap.size from (HW2.out.2.2.2).size)
          clear ho1 ho2 ho3 hy1 hy2 hy3
          go_wp2_with (at_builtin; go_must (refine wpList_append_k elmAnds rfl _ _ rfl w.heap.size _ _ _ rfl HOW.out _ _ rfl HY1.out HON.out (by rw [List.length_map, HY2.out, ← HY.out]; omega) HSZ.out (k + y) (by rw [List.length_map, HY2.out, ← HY.out]) ?_); intro ao4 cap4 w4 hown4 hgrow4 hnew4; have HO4 := Lib.hid hown4; have HG4 := Lib.hid hgrow4; have HN4 := Lib.hid hnew4; clear hown4 hgrow4 hnew4)
          go_roundw
          case rel =>
            obtain ⟨f1, f2, f3, f4⟩ := HW2.out
            have hlt4 : ∀ b, (Value.slice oa k oc).ownBlock = some b → w.heap.size ≤ b := fun b hb => (HOW.out.lt b hb).1
            refine ⟨q + 1, L2, ao4, k + y, cap4, m ++ mm, by omega, by go_num, rfl, by rw [List.length_append, ← HK.out, ← HY.out], HSN.out, ?_, f1, f2, ?_, ?_⟩
            · exact ownN_append (w1 := wr.alloc _) HO1.out HO2.out HO3.out HXL.out HLB.out HG.out.size (by simp) HGW.out HY2.out HY3.out HG4.out HN4.out (by have h := HO4.out; rw [flat_ones] at h; rw [← HK.out, ← HY.out]; exact h)
            · exact (HG4.out.block lb (Nat.lt_of_lt_of_le HLB.out HSZ.out) fun h => by have := hlt4 lb h.symm; have := HLB.out; omega).trans f3
            · exact ⟨HG4.out.os.trans f4.os, HG4.out.tape.trans f4.tape, HG4.out.output.trans f4.output, Nat.le_trans f4.size HG4.out.size, fun i hi hne => (HG4.out.block i (Nat.lt_of_lt_of_le hi f4.size) fun h => by have := hlt4 i h.symm; omega).trans (f4.block i hi hne)⟩
          case measure => simp [intOf]; omega
        · have q2 : decide ((32 : Int) < (k : Int) + (y : Int)) = true := by rw [decide_eq_true_iff]; omega
          rw [if_pos (by omega)] at HSN
          have HNO := Lib.hid (show sumN l nt [] = none by rw [HTD.out]; exact sumN_none HSN.out)
          clear hfit
          have HF := Lib.hid (show RetN X w (sumN l nt []) (.returned (.tuple #[.slice none 0 0, .bool false])) w2 ∧ ∃ L', L ≤ L' + (nodesL l : Int) ∧ L' ≤ L ∧ Lft w2 lb L' ∧ w.grownBy w2 (some lb) from by
            obtain ⟨f1, f2, f3, f4⟩ := HW2.out
            exact ⟨by rw [HNO.out]; rfl, L2, by have := HCL.out; omega, f2, f3, f4⟩)
          go_wp2_with fail
          go_ret2
          exact HF.out
    · have hqn : q = n := by omega
      have htk : l.take q = l := List.take_of_length_le (by rw [← HN.out, hqn]; exact Nat.le_refl _)
      have HF := Lib.hid (show RetN X w (sumN l nt []) (.returned (.tuple #[.slice oa k oc, .bool true])) wr ∧ ∃ L', L ≤ L' + (nodesL l : Int) ∧ L' ≤ L ∧ Lft wr lb L' ∧ w.grownBy wr (some lb) from by
        have h1 := HM.out
        have h2 := HC1.out
        rw [htk] at h1 h2
        rw [h1]
        exact ⟨⟨_, rfl, HO.out.rd⟩, L1, h2, HC2.out, HLF.out, HG.out⟩)
      clear htk hqn
      go_wp2_with fail
      go_ret2
      exact HF.out

set_option maxRecDepth 100000 in
set_option maxHeartbeats 8000000 in
theorem product_any (nt : Bool) (l : List Pt) (hl : l.length ≤ 1000000) (ih : ∀ (i : Nat) (q : Pt), l[i]? = some q → NrmOK q) (ls : Value) (css : List (List Value)) (L : Int) (X : Nat → Prop) (w : World) (lb : Nat)
    (hs : Free X w (fun w' => RdS w' 8 ls css) ∧ RdTsF X w l css) (hx : X lb) (hL : Lft w lb L) (hc : (nodesL l : Int) ≤ L) (hL2 : L ≤ 1000000) :
    Calls Try.prog 104 #[ls, .bool nt, .pointer (some ⟨lb, 0, none⟩)] w fun e w' => RetN X w (prodN l nt [[]]) e w' ∧ ∃ L', L ≤ L' + (nodesL l : Int) ∧ L' ≤ L ∧ Lft w' lb L' ∧ w.grownBy w' (some lb) := by
  obtain ⟨ao, cap, rfl⟩ := rdS_shape hs.1.now
  have hcl := rdTs_len hs.2.now
  obtain ⟨n, hN⟩ : ∃ n, n = l.length := ⟨_, rfl⟩
  rw [hcl, ← hN] at hs ⊢
  rw [← hN] at hl
  have HN := Lib.hid hN
  have HS := Lib.hid hs
  have HIH := Lib.hid ih
  have HC := Lib.hid hc
  have HL := Lib.hid hL
  have HXL := Lib.hid hx
  have HLB := Lib.hid (lft_lt hL)
  clear hs hL ih hc hcl hN hx
  go_enter Try.func104, Try.ntmps104
  go_wp2_with fail
  go_loopw [8, 16] (fun s i wr => ∃ q : Nat, ∃ L' oa k oc m, q ≤ n ∧ i = .int .i64 (q : Int) ∧ s = .slice oa k oc ∧ k = List.length m ∧ prodN (l.take q) nt [[]] = some m ∧ RdNF (fun b => X b ∧ b < w.heap.size) wr (.slice oa k oc) m ∧ L ≤ L' + (nodesL (l.take q) : Int) ∧ L' ≤ L ∧ Lft wr lb L' ∧ w.grownBy wr (some lb)) (fun _ i _ => n - (intOf i).toNat)
  case atStart =>
    refine ⟨0, L, some ⟨w.heap.size, 0, none⟩, 1, 1, [[]], Nat.zero_le _, rfl, rfl, rfl, by simp [prodN], ⟨[.slice none 0 0], ?_, rfl, ?_⟩, by simp [nodesL], Int.le_refl _, lft_alloc HL.out _, World.grownBy_alloc w _ _⟩
    · exact fun w' h => rd_lit_agree h (fun b hb => by omega)
    · intro i s t hs ht
      match i, hs, ht with
      | 0, hs, ht => cases hs; cases ht; exact ⟨[], fun w' _ => ⟨RdS.nil w' 8, by unfold RdTs; trivial⟩⟩
      | i + 1, hs, ht => simp at hs
  case round =>
    obtain ⟨q, L1, oa, k, oc, m, hq, rfl, rfl, hk, hm, hown, hc1, hc2, hlf, hg⟩ := hrel
    have HK := Lib.hid hk
    have HM := Lib.hid hm
    have HO := Lib.hid hown
    have HC1 := Lib.hid hc1
    have HC2 := Lib.hid hc2
    have HLF := Lib.hid hlf
    have HG := Lib.hid hg
    clear hk hm hown hc1 hc2 hlf hg
    by_cases hlt : q < n
    · obtain ⟨p, hp⟩ : ∃ p, l[q]? = some p := ⟨_, List.getElem?_eq_getElem (by rw [← HN.out]; exact hlt)⟩
      have HTK := Lib.hid (show l.take (q + 1) = l.take q ++ [p] by rw [List.take_add_one, hp]; rfl)
      have HTD := Lib.hid (show l = l.take (q + 1) ++ l.drop (q + 1) from (List.take_append_drop _ _).symm)
      have HCT := Lib.hid (nodesL_take hp)
      have HCL := Lib.hid (nodesL_le l (q + 1))
      obtain ⟨cs, hcs, hfr, hrs⟩ := free_at HS.out HXL.out HG.out hp
      have HP := HIH.out q p hp
      clear hp
      obtain ⟨r, hr⟩ : ∃ r, r = nrm p nt := ⟨_, rfl⟩
      have HR := Lib.hid hr
      have HCALL : ∀ o, Hid (Calls Try.prog 65 #[.agg cs.toArray, .bool nt, .pointer (some ⟨lb, 0, none⟩)] (wr.alloc o) fun e w' => RetN (fun b => X b ∨ w.heap.size ≤ b) (wr.alloc o) r e w' ∧ ∃ L', L1 ≤ L' + (nodesT p : Int) ∧ L' ≤ L1 ∧ Lft w' lb L' ∧ (wr.alloc o).grownBy w' (some lb)) := fun o => by
        have c1 := HC1.out
        have c2 := HC2.out
        have c3 := HC.out
        have c4 := HCT.out
        have c5 := HCL.out
        rw [hr]
        exact Lib.hid (HP nt cs L1 _ (wr.alloc o) lb (RdT1F.to (agree_alloc (fun _ => False) wr o) (fun _ _ h => h.elim) (fun _ _ h => h) _ hfr) (.inl HXL.out) (lft_alloc HLF.out o) (by omega) (by omega))
      have hrd := hfr.now
      clear hr HP hfr
      obtain ⟨pk, pc, po, pv, pl⟩ := p
      unfold RdT1 at hrd
      obtain ⟨es, els, ecss, rfl, hok, hels, hets⟩ := hrd
      obtain ⟨sa, sc, hes⟩ := rd_shape8 hok.1
      obtain ⟨ea, ec, hel⟩ := rdS_shape hels
      simp only at hes
      subst hes hel
      obtain ⟨b, off, rfl, hcell⟩ := hrs.at hcs
      have k0 := hcell 0 _ rfl
      have k1 := hcell 1 _ rfl
      have k2 := hcell 2 _ rfl
      have k3 := hcell 3 _ rfl
      have k4 := hcell 4 _ rfl
      have k5 := hcell 5 _ rfl
      have k6 := hcell 6 _ rfl
      have k7 := hcell 7 _ rfl
      simp only [Nat.add_zero] at k0
      obtain ⟨pu, pvk, pvn, pb⟩ := pv
      unfold cellsP at HCALL
      simp only at HCALL k0 k1 k2 k3 k4 k5 k6 k7
      clear hok hels hets hcell hcs hrs
      cases r with
      | none =>
        have HNO := Lib.hid (show prodN l nt [[]] = none by
          rw [HTD.out]
          refine prodN_none ?_
          rw [HTK.out, prodN_snoc, HM.out]
          simp only
          rw [← HR.out])
        go_wp2_with fail
        refine (HCALL _).out.mono ?_
        rintro e w2 ⟨hret, L2, d1, d2, d3, d4⟩
        obtain rfl : e = .returned (.tuple #[.slice none 0 0, .bool false]) := hret
        have HF := Lib.hid (show RetN X w (prodN l nt [[]]) (.returned (.tuple #[.slice none 0 0, .bool false])) w2 ∧ ∃ L', L ≤ L' + (nodesL l : Int) ∧ L' ≤ L ∧ Lft w2 lb L' ∧ w.grownBy w2 (some lb) from
          ⟨by rw [HNO.out]; rfl, L2, by have := HC1.out; have := HCT.out; have := HCL.out; omega, by have := HC2.out; omega, d3, grown_trans (grown_trans HG.out (World.grownBy_alloc wr _ _)) d4⟩)
        clear d1 d2 d3 d4
        go_wp2_with fail
        go_ret2
        exact HF.out
      | some mm =>
        go_wp2_with fail
        refine (HCALL _).out.mono ?_
        rintro e w2 ⟨hret, L2, d1, d2, d3, d4⟩
        obtain ⟨v2, rfl, hv2⟩ : ∃ v, e = .returned (.tuple #[v, .bool true]) ∧ RdNF _ w2 v mm := hret
        obtain ⟨ya, yc, rfl⟩ := rdNF_shape hv2
        obtain ⟨y, hy⟩ : ∃ y, y = mm.length := ⟨_, rfl⟩
        rw [← hy] at hv2
        have HY := Lib.hid hy
        have HV2 := Lib.hid hv2
        have hy32 : y ≤ 32 := by rw [hy]; exact (nrm_small _ nt HR.out.symm).1
        have HGW := Lib.hid (show wr.grownBy w2 (some lb) from grown_trans (World.grownBy_alloc wr _ _) d4)
        have HW2 := Lib.hid (show L ≤ L2 + (nodesL (l.take (q + 1)) : Int) ∧ L2 ≤ L ∧ Lft w2 lb L2 ∧ w.grownBy w2 (some lb) from ⟨by have := HC1.out; have := HCT.out; omega, by have := HC2.out; omega, d3, grown_trans (grown_trans HG.out (World.grownBy_alloc wr _ _)) d4⟩)
        clear d1 d2 d3 d4 hy hv2
        obtain ⟨r2, hr2⟩ : ∃ r2, r2 = timesN m mm := ⟨_, rfl⟩
        rw [← HY.out]
        have HTM := Lib.hid (show Calls Try.prog 166 #[.slice oa k oc, .slice ya y yc] w2 fun e w' => RetN (fun b => X b ∧ b < w.heap.size) w2 r2 e w' ∧ Below w2.heap.size w2 w' from by
          rw [hr2]
          have hs2 := HW2.out.2.2.2.size
          have hs1 := HG.out.size
          refine times_any _ _ _ _ _ _ (HO.out.to (agree_grown HGW.out) (fun b _ h => by cases h; exact ⟨HXL.out, HLB.out⟩) fun b _ h => h) (HV2.out.mono fun b _ h => ⟨.inl h.1, by have := h.2; simp; omega⟩) ?_ (nrm_small _ nt HR.out.symm)
          exact prodN_small _ nt [[]] (by simp [SmallN]) HM.out)
        have HR2 := Lib.hid hr2
        clear hr2
        have HSN := Lib.hid (show prodN (l.take (q + 1)) nt [[]] = r2 by
          rw [HTK.out, prodN_snoc, HM.out]
          simp only
          rw [← HR.out]
          simp only
          rw [← HR2.out])
        cases r2 with
        | none =>
          have HNO := Lib.hid (show prodN l nt [[]] = none by rw [HTD.out]; exact prodN_none HSN.out)
          go_wp2_with fail
          refine HTM.out.mono ?_
          rintro e w3 ⟨hret, hb3⟩
          obtain rfl : e = .returned (.tuple #[.slice none 0 0, .bool false]) := hret
          have HF := Lib.hid (show RetN X w (prodN l nt [[]]) (.returned (.tuple #[.slice none 0 0, .bool false])) w3 ∧ ∃ L', L ≤ L' + (nodesL l : Int) ∧ L' ≤ L ∧ Lft w3 lb L' ∧ w.grownBy w3 (some lb) from by
            obtain ⟨f1, f2, f3, f4⟩ := HW2.out
            exact ⟨by rw [HNO.out]; rfl, L2, by have := HCL.out; omega, f2, (hb3.block lb (lft_lt f3)).trans f3, grown_trans f4 ⟨hb3.os, hb3.tape, hb3.output, hb3.size, fun i hi _ => hb3.block i hi⟩⟩)
          clear hb3
          go_wp2_with fail
          go_ret2
          exact HF.out
        | some o2 =>
          go_wp2_with fail
          refine HTM.out.mono ?_
          rintro e w3 ⟨hret, hb3⟩
          obtain ⟨v3, rfl, hv3⟩ : ∃ v, e = .returned (.tuple #[v, .bool true]) ∧ RdNF _ w3 v o2 := hret
          obtain ⟨za, zc, rfl⟩ := rdNF_shape hv3
          have HV3 := Lib.hid hv3
          obtain ⟨z, hz⟩ : ∃ z, z = o2.length := ⟨_, rfl⟩
          have HZ := Lib.hid hz
          rw [← hz] at HV3 ⊢
          have HB3 := Lib.hid hb3
          clear hb3 hv3 hz
          go_wp2_with fail
          go_roundw
          case rel =>
            obtain ⟨f1, f2, f3, f4⟩ := HW2.out
            refine ⟨q + 1, L2, za, z, zc, o2, by omega, by go_num, rfl, HZ.out, HSN.out, HV3.out.mono fun b _ h => ⟨h, ?_⟩, f1, f2, (HB3.out.block lb (lft_lt f3)).trans f3, grown_trans f4 ⟨HB3.out.os, HB3.out.tape, HB3.out.output, HB3.out.size, fun i hi _ => HB3.out.block i hi⟩⟩
            have := h.2
            have := f4.size
            omega
          case measure => simp [intOf]; omega
    · have hqn : q = n := by omega
      have htk : l.take q = l := List.take_of_length_le (by rw [← HN.out, hqn]; exact Nat.le_refl _)
      have HF := Lib.hid (show RetN X w (prodN l nt [[]]) (.returned (.tuple #[.slice oa k oc, .bool true])) wr ∧ ∃ L', L ≤ L' + (nodesL l : Int) ∧ L' ≤ L ∧ Lft wr lb L' ∧ w.grownBy wr (some lb) from by
        have h1 := HM.out
        have h2 := HC1.out
        rw [htk] at h1 h2
        rw [h1]
        exact ⟨⟨_, rfl, HO.out⟩, L1, h2, HC2.out, HLF.out, HG.out⟩)
      clear htk hqn
      go_wp2_with fail
      go_ret2
      exact HF.out

end Go.Proofs.Ytfmkalnnpddefaa
