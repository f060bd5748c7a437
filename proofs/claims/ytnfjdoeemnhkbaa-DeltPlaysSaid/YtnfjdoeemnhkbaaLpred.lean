/-
  Plain: the predicate of a list of numbers, as layer 7's law lays it; how deep, how much.
  Contract of layer 7's Pred of the law: its leaves.
  Contract of layer 7's Pred of the law: leaves that compare, negations, lists; all of it by induction.
  Contract of layer 7's Pred of the law: negations, lists; all of it by induction.
  Contract of layer 7's Pred of the law: lists.
  Contract of layer 7's Pred of the law, at any depth.
-/
import Derived.Test.YtnfjdoeemnhkbaaLseven
import Derived.Test.YtnfjdoeemnhkbaaLsix
import Derived.Deep.CutBlock
import Derived.Deep.DeepCutAuto
import Derived.Deep.RegionLaw
namespace Go.Proofs.Ytnfjdoeemnhkbaa
set_option linter.unusedVariables false
set_option linter.unusedSimpArgs false
open Go.RowKit

/-- The number at a place. -/
def nOf (l : List Int) (at_ : Nat) : Int := match l[at_]? with
  | some n => n
  | none => IntKind.i64.wrap ((at_ : Int) * 7919)
def kOf (n : Int) (deep : Nat) : Int := if deep ≤ 1 ∧ 4 < n % 8 then n % 8 - 4 else n % 8
def colOf (cols : List Co) (n : Int) : Nat := (n / 8 % 256).toNat % cols.length
def nilV : Vc := ⟨false, 0, 0, []⟩
/-- The value that a leaf compares with. -/
def cmpV (cols : List Co) (n : Int) : Vc := match cols[colOf cols n]? with
  | none => nilV
  | some c => if colOf cols n = 0 then ⟨false, 1, n / 2048 % 16, []⟩ else valOf ⟨c.n, c.k, false⟩ (n / 2048)
def leafOf (cols : List Co) (n k : Int) : Pt :=
  if k = 0 then .mk 1 0 0 nilV [] else if k = 1 then .mk 3 (colOf cols n) 0 nilV [] else .mk 2 (colOf cols n) (n / 131072 % 256 % 6 + 1) (cmpV cols n) []
def predOf (cols : List Co) (l : List Int) : Nat → Nat → Pt
  | 0, at_ => leafOf cols (nOf l at_) (kOf (nOf l at_) 0)
  | d + 1, at_ =>
    if kOf (nOf l at_) (d + 1) = 5 ∨ kOf (nOf l at_) (d + 1) = 6 then
      .mk (4 + kOf (nOf l at_) (d + 1) - 5) 0 0 nilV ((List.range (nOf l at_ / 2048 % 4).toNat).map fun i => predOf cols l d (3 * at_ + i + 1))
    else if kOf (nOf l at_) (d + 1) = 7 then .mk 6 0 0 nilV [predOf cols l d (3 * at_ + 1)]
    else leafOf cols (nOf l at_) (kOf (nOf l at_) (d + 1))

theorem valOf_len (c : Co) (n : Int) : (valOf c n).b.length ≤ 8 := by
  unfold valOf
  split
  · simp
  · split
    · simp
    · simp only [List.length_take, List.length_drop, show abcs.length = 8 from rfl]; omega
theorem cmpV_len (cols : List Co) (n : Int) : (cmpV cols n).b.length ≤ 8 := by
  unfold cmpV
  split
  · simp [nilV]
  · split
    · simp
    · exact valOf_len _ _
theorem depL_le : ∀ {l : List Pt} {d : Nat}, (∀ q ∈ l, depT q ≤ d) → depL l ≤ d
  | [], d, _ => by simp [depL]
  | q :: r, d, h => by
    rw [depL]
    exact Nat.max_le.2 ⟨h q List.mem_cons_self, depL_le fun x hx => h x (List.mem_cons_of_mem _ hx)⟩
theorem cntL_le_mul : ∀ {l : List Pt} {b : Nat}, (∀ q ∈ l, cntT q ≤ b) → cntL l ≤ l.length * b
  | [], b, _ => by simp [cntL]
  | q :: r, b, h => by
    have h1 := h q List.mem_cons_self
    have h2 := cntL_le_mul (l := r) fun x hx => h x (List.mem_cons_of_mem _ hx)
    rw [cntL, List.length_cons, Nat.add_mul]
    omega
theorem leafOf_small (cols : List Co) (n k : Int) : depT (leafOf cols n k) ≤ 1 ∧ cntT (leafOf cols n k) ≤ 8 := by
  have := cmpV_len cols n
  unfold leafOf
  split
  · simp [depT, depL, cntT, cntL, nilV]
  · split
    · simp [depT, depL, cntT, cntL, nilV]
    · simp [depT, depL, cntT, cntL]; exact this
theorem predOf_small (cols : List Co) (l : List Int) : ∀ (d at_ : Nat), depT (predOf cols l d at_) ≤ d + 1 ∧ cntT (predOf cols l d at_) ≤ 8 * 4 ^ d
  | 0, at_ => by unfold predOf; have := leafOf_small cols (nOf l at_) (kOf (nOf l at_) 0); omega
  | d + 1, at_ => by
    have ih := fun a => predOf_small cols l d a
    have hp : 1 ≤ 4 ^ d := Nat.pos_of_ne_zero (by simp)
    have hs : 4 ^ (d + 1) = 4 ^ d * 4 := Nat.pow_succ ..
    unfold predOf
    split
    · have h1 : ∀ q ∈ (List.range (nOf l at_ / 2048 % 4).toNat).map (fun i => predOf cols l d (3 * at_ + i + 1)), depT q ≤ d + 1 ∧ cntT q ≤ 8 * 4 ^ d := fun q hq => by
        obtain ⟨i, _, rfl⟩ := List.mem_map.1 hq
        exact ih _
      have h2 := depL_le fun q hq => (h1 q hq).1
      have h3 := cntL_le_mul fun q hq => (h1 q hq).2
      rw [List.length_map, List.length_range] at h3
      have h4 : (nOf l at_ / 2048 % 4).toNat ≤ 3 := by omega
      have h5 := Nat.mul_le_mul_right (8 * 4 ^ d) h4
      rw [depT, cntT, List.length_map, List.length_range]
      simp only [nilV, List.length_nil]
      omega
    · split
      · have := ih (3 * at_ + 1)
        simp only [depT, depL, cntT, cntL, nilV, List.length_nil, List.length_cons, Nat.max_zero]
        omega
      · have := leafOf_small cols (nOf l at_) (kOf (nOf l at_) (d + 1))
        omega

end Go.Proofs.Ytnfjdoeemnhkbaa

namespace Go.Proofs.Ytnfjdoeemnhkbaa
set_option linter.unusedVariables false
set_option linter.unusedSimpArgs false
open Go.RowKit

set_option maxRecDepth 100000 in
set_option maxHeartbeats 4000000 in
theorem pred_leaf0 (cols : List Co) (hc0 : 0 < cols.length) (hc6 : cols.length ≤ 6) (l : List Int) (sv : Value) (oa : Option Addr) (ln oc : Nat) (d at_ : Nat) (hln : ln = l.length) (hat : at_ < l.length) (n : Int) (hn : nOf l at_ = n) (hd : ¬ (d : Int) ≤ 1) (hk : n % 8 = 0) (w : World)
    (hv : RdC w sv cols) (hr : Rd w (.slice oa ln oc) (l.map (Value.int .i64))) (hb : at_ ≤ 100000) :
    Calls Try.prog 58 #[.agg #[sv], .slice oa ln oc, .int .i64 (at_ : Int), .int .i64 (d : Int)] w fun e w' => e = .returned (aggP 1 0 0 nilV (.slice none 0 0) (.slice none 0 0)) ∧ Below w.heap.size w w' := by
  obtain ⟨a1, c1, rfl⟩ := rdC_shape hv
  obtain ⟨m, hM⟩ : ∃ m, m = cols.length := ⟨_, rfl⟩
  rw [← hM] at hv hc0 hc6 ⊢
  have HX := Lib.hid (RdC.kept hv (below_alloc w (.cells #[.slice a1 m c1] 25)))
  have HM := Lib.hid hM
  have b7 : ∀ x, bits .and .i64 x 7 = x % 8 := fun x => and_low x 3 (by decide) 7 rfl
  have b255 : ∀ x, bits .and .i64 x 255 = x % 256 := fun x => and_low x 8 (by decide) 255 rfl
  obtain ⟨b, off, rfl, hcells⟩ := (rdz_cells hr).2 (by omega)
  have hcell : w.cell? ⟨b, off + at_, none⟩ = some (.int .i64 n) := by
    rw [hcells at_ (by omega), ← hn]
    unfold nOf
    rw [List.getD_eq_getElem?_getD, List.getElem?_eq_getElem hat]
    rfl
  have hca := fun o => Lib.cell?_alloc_some (W := w) o hcell
  have hcb := fun o1 o2 => Lib.cell?_alloc_some (W := w.alloc o1) o2 (hca o1)
  have hlt : decide ((at_ : Int) < (ln : Int)) = true := by rw [decide_eq_true_eq]; omega
  have hlt2 : (at_ : Int) < (ln : Int) := by omega
  have hd2 : decide ((d : Int) ≤ 1) = false := by rw [decide_eq_false_iff_not]; exact hd
  have hrem : ∀ x : Int, (x % 256).tmod (m : Int) = (((x % 256).toNat % m : Nat) : Int) := fun x => by
    rw [Int.tmod_eq_emod_of_nonneg (by omega), show x % 256 = ((x % 256).toNat : Int) by omega]
    exact (Int.natCast_emod _ m).symm
  have hm0 : ¬ (m : Int) = 0 := by omega
  clear hv hr hM
  go_enter Try.func58, Try.ntmps58
  go_wp2_with fail
  refine bodyPost_ret (results_cell_row rfl _ _ (w.heap.size + 1) _ _ (0, 0) _ rfl (heap2 w _ _) Try.underlying65 rfl infoPred8) rfl ?_
  exact ⟨rfl, below2 w _ _⟩

set_option maxRecDepth 100000 in
set_option maxHeartbeats 8000000 in
theorem pred_leaf01 (cols : List Co) (hc0 : 0 < cols.length) (hc6 : cols.length ≤ 6) (l : List Int) (sv : Value) (oa : Option Addr) (ln oc : Nat) (d at_ : Nat) (hln : ln = l.length) (n K : Int) (hn : nOf l at_ = n) (hK : kOf n d = K) (h01 : K = 0 ∨ K = 1) (w : World)
    (hv : RdC w sv cols) (hr : Rd w (.slice oa ln oc) (l.map (Value.int .i64))) (hb : at_ ≤ 100000) :
    Calls Try.prog 58 #[.agg #[sv], .slice oa ln oc, .int .i64 (at_ : Int), .int .i64 (d : Int)] w fun e w' => e = .returned (if K = 0 then aggP 1 0 0 nilV (.slice none 0 0) (.slice none 0 0) else aggP 3 (colOf cols n) 0 nilV (.slice none 0 0) (.slice none 0 0)) ∧ Below w.heap.size w w' := by
  obtain ⟨a1, c1, rfl⟩ := rdC_shape hv
  obtain ⟨m, hM⟩ : ∃ m, m = cols.length := ⟨_, rfl⟩
  rw [← hM] at hv hc0 hc6 ⊢
  have b7 : ∀ x, bits .and .i64 x 7 = x % 8 := fun x => and_low x 3 (by decide) 7 rfl
  have b255 : ∀ x, bits .and .i64 x 255 = x % 256 := fun x => and_low x 8 (by decide) 255 rfl
  obtain ⟨cI, hcI⟩ : ∃ cI, cI = colOf cols n := ⟨_, rfl⟩
  have hrem : (n / 8 % 256).tmod (m : Int) = (cI : Int) := by
    rw [hcI, colOf, ← hM, Int.tmod_eq_emod_of_nonneg (by omega)]
    conv => lhs; rw [show n / 8 % 256 = ((n / 8 % 256).toNat : Int) by omega]
    exact (Int.natCast_emod _ m).symm
  rw [← hcI]
  clear hcI hv hM
  have hm0 : ¬ (m : Int) = 0 := by omega
  have hk8 : ((d : Int) ≤ 1 ∧ K = 1 ∧ n % 8 = 5) ∨ ((d : Int) ≤ 1 ∧ K = 0 ∧ n % 8 = 0) ∨ ((d : Int) ≤ 1 ∧ K = 1 ∧ n % 8 = 1) ∨ (¬ (d : Int) ≤ 1 ∧ K = 0 ∧ n % 8 = 0) ∨ (¬ (d : Int) ≤ 1 ∧ K = 1 ∧ n % 8 = 1) := by
    unfold kOf at hK
    split at hK
    · rename_i h
      omega
    · omega
  by_cases hat : at_ < l.length
  · obtain ⟨b, off, rfl, hcells⟩ := (rdz_cells hr).2 (by omega)
    have hcell : w.cell? ⟨b, off + at_, none⟩ = some (.int .i64 n) := by
      rw [hcells at_ (by omega), ← hn]
      unfold nOf
      rw [List.getD_eq_getElem?_getD, List.getElem?_eq_getElem hat]
      rfl
    have hca := fun o => Lib.cell?_alloc_some (W := w) o hcell
    have hcb := fun o1 o2 => Lib.cell?_alloc_some (W := w.alloc o1) o2 (hca o1)
    have hlt : decide ((at_ : Int) < (ln : Int)) = true := by rw [decide_eq_true_eq]; omega
    have hlt2 : (at_ : Int) < (ln : Int) := by omega
    clear hr hn hcells hK
    clear h01
    rcases hk8 with ⟨q1, rfl, q3⟩ | ⟨q1, rfl, q3⟩ | ⟨q1, rfl, q3⟩ | ⟨q1, rfl, q3⟩ | ⟨q1, rfl, q3⟩
    all_goals
      go_enter Try.func58, Try.ntmps58
      go_wp2_with fail
      refine bodyPost_ret (results_cell_row rfl _ _ (w.heap.size + 1) _ _ (0, 0) _ rfl (heap2 w _ _) Try.underlying65 rfl infoPred8) rfl ?_
      exact ⟨rfl, below2 w _ _⟩
  · have hne : (at_ : Int) * 7919 = n := by
      rw [← hn]
      unfold nOf
      rw [List.getElem?_eq_none (by omega)]
      exact (IntWalk.i64_in _ (by omega)).symm
    have hlt : decide ((at_ : Int) < (ln : Int)) = false := by rw [decide_eq_false_iff_not]; omega
    clear hr hn hK
    clear h01
    rcases hk8 with ⟨q1, rfl, q3⟩ | ⟨q1, rfl, q3⟩ | ⟨q1, rfl, q3⟩ | ⟨q1, rfl, q3⟩ | ⟨q1, rfl, q3⟩
    all_goals
      go_enter Try.func58, Try.ntmps58
      go_wp2_with fail
      refine bodyPost_ret (results_cell_row rfl _ _ (w.heap.size + 1) _ _ (0, 0) _ rfl (heap2 w _ _) Try.underlying65 rfl infoPred8) rfl ?_
      exact ⟨rfl, below2 w _ _⟩

end Go.Proofs.Ytnfjdoeemnhkbaa

namespace Go.Proofs.Ytnfjdoeemnhkbaa
set_option linter.unusedVariables false
set_option linter.unusedSimpArgs false
open Go.RowKit

theorem rdB_fresh {K : Nat} {w : World} {s : Value} {bs : List Nat} (h : Rd w s (bs.map u8v)) (hf : FreshV K s) : RdB K w s bs := by
  obtain ⟨ao, cap, rfl, hn, hc⟩ := h
  simp only [List.length_map] at hn hc hf ⊢
  refine ⟨ao, cap, rfl, hn, fun hp => ?_⟩
  obtain ⟨b, off, rfl, h3⟩ := hc hp
  refine ⟨b, off, rfl, hf _ _ _ rfl, fun i hi => ?_⟩
  rw [h3 i hi, List.getD_eq_getElem?_getD, List.getD_eq_getElem?_getD, List.getElem?_map, List.getElem?_eq_getElem hi]
  rfl

/-- The entry of the walk: from the call to the switch. -/
theorem tmod_col {m : Nat} {n : Int} (cols : List Co) (hm : m = cols.length) : (n / 8 % 256).tmod (m : Int) = ((colOf cols n : Nat) : Int) := by
  rw [colOf, ← hm, Int.tmod_eq_emod_of_nonneg (by omega)]
  conv => lhs; rw [show n / 8 % 256 = ((n / 8 % 256).toNat : Int) by omega]
  exact (Int.natCast_emod _ m).symm
theorem nOf_in {l : List Int} {at_ : Nat} (h : at_ < l.length) : nOf l at_ = l.getD at_ 0 := by
  unfold nOf
  rw [List.getD_eq_getElem?_getD, List.getElem?_eq_getElem h]
  rfl
theorem nOf_out {l : List Int} {at_ : Nat} (h : ¬ at_ < l.length) (hb : at_ ≤ 100000) : nOf l at_ = (at_ : Int) * 7919 := by
  unfold nOf
  rw [List.getElem?_eq_none (by omega)]
  exact IntWalk.i64_in _ (by omega)
theorem kOf_cases {n D K : Int} {d : Nat} (hD : D = (d : Int)) (h : kOf n d = K) : (¬ (D ≤ 1 ∧ 4 < n % 8) ∧ n % 8 = K) ∨ (D ≤ 1 ∧ 4 < n % 8 ∧ n % 8 = K + 4) := by
  unfold kOf at h
  split at h <;> omega

set_option maxRecDepth 100000 in
set_option maxHeartbeats 4000000 in
theorem pred_leafc (cols : List Co) (hc0 : 0 < cols.length) (hc6 : cols.length ≤ 6) (l : List Int) (sv : Value) (oa : Option Addr) (ln oc : Nat) (d at_ : Nat) (D : Int) (hD : D = (d : Int)) (hln : ln = l.length) (n K : Int) (hn : nOf l at_ = n) (hK : kOf n d = K) (h01 : K = 2 ∨ K = 3 ∨ K = 4) (w : World) (hv : RdC w sv cols) (hr : Rd w (.slice oa ln oc) (l.map (Value.int .i64))) (hb : at_ ≤ 100000) :
    Calls Try.prog 58 #[.agg #[sv], .slice oa ln oc, .int .i64 (at_ : Int), .int .i64 D] w fun e w' => ∃ s, e = .returned (aggP 2 (colOf cols n) (n / 131072 % 256 % 6 + 1) (cmpV cols n) s (.slice none 0 0)) ∧ (RdB w.heap.size w' s (cmpV cols n).b ∧ ∀ x ∈ (cmpV cols n).b, x < 256) ∧ Below w.heap.size w w' := by
  obtain ⟨a1, c1, rfl⟩ := rdC_shape hv
  obtain ⟨m, hM⟩ : ∃ m, m = cols.length := ⟨_, rfl⟩
  rw [← hM] at hv hc0 hc6 ⊢
  have HM := Lib.hid hM
  have HLN := Lib.hid hln
  have HV := Lib.hid hv
  clear hM hv hln
  obtain ⟨cI, hcI⟩ : ∃ cI, cI = colOf cols n := ⟨_, rfl⟩
  have hcm : cI < m := by rw [hcI, colOf, ← HM.out]; exact Nat.mod_lt _ hc0
  have HCI := Lib.hid hcI
  rw [← hcI]
  clear hcI
  obtain ⟨c, hc⟩ : ∃ c, cols[cI]? = some c := ⟨_, List.getElem?_eq_getElem (by have := HM.out; omega)⟩
  have HCV := Lib.hid (show cmpV cols n = if cI = 0 then ⟨false, 1, n / 2048 % 16, []⟩ else valOf ⟨c.n, c.k, false⟩ (n / 2048) by unfold cmpV; rw [← HCI.out, hc])
  obtain ⟨b1, o1, rfl, p0, p1, p2⟩ := (RdC.kept HV.out (below2 w (.cells #[.slice a1 m c1] 25) (.cells #[.int .i64 0, .int .i64 0, .int .i64 0, .bool false, .int .i64 0, .int .i64 0, .slice none 0 0, .slice none 0 0] 65))).at hc
  have HCALL := Lib.hid (value_any ⟨c.n, c.k, false⟩ (n / 2048))
  unfold Co.agg aggV at HCALL
  simp only at HCALL
  obtain ⟨tv, htv⟩ : ∃ tv, tv = valOf ⟨c.n, c.k, false⟩ (n / 2048) := ⟨_, rfl⟩
  rw [← htv] at HCALL HCV
  clear htv hc
  have b7 : ∀ x, bits .and .i64 x 7 = x % 8 := fun x => and_low x 3 (by decide) 7 rfl
  have b255 : ∀ x, bits .and .i64 x 255 = x % 256 := fun x => and_low x 8 (by decide) 255 rfl
  have b3 : ∀ x, bits .and .i64 x 3 = x % 4 := fun x => and_low x 2 (by decide) 3 rfl
  have b15 : ∀ x, bits .and .i64 x 15 = x % 16 := fun x => and_low x 4 (by decide) 15 rfl
  have HN := Lib.hid hn
  have HK := Lib.hid hK
  have HR := Lib.hid hr
  have HDD := Lib.hid hD
  clear hn hK hr hD
  go_enter Try.func58, Try.ntmps58
  go_upto_if 21 with (fail)
  go_cut [9] (fun s wx => s = .int .i64 n ∧ wx = (w.alloc (.cells #[.slice (some ⟨b1, o1, none⟩) m c1] 25)).alloc (.cells #[.int .i64 0, .int .i64 0, .int .i64 0, .bool false, .int .i64 0, .int .i64 0, .slice none 0 0, .slice none 0 0] 65))
  case first =>
    by_cases hat : at_ < l.length
    · have hlt : decide ((at_ : Int) < (ln : Int)) = true := by rw [decide_eq_true_eq]; have := HLN.out; omega
      have hlt3 : at_ < ln := by have := HLN.out; omega
      have hlt4 : decide (at_ < ln) = true := by rw [decide_eq_true_eq]; exact hlt3
      have hlt2 : (at_ : Int) < (ln : Int) := by have := HLN.out; omega
      have hl0 : (0 : Int) ≤ (at_ : Int) := by omega
      obtain ⟨b, off, rfl, hcells⟩ := (rdz_cells HR.out).2 (by have := HLN.out; omega)
      have hcell : w.cell? ⟨b, off + at_, none⟩ = some (.int .i64 n) := by
        rw [hcells at_ (by have := HLN.out; omega), ← HN.out, nOf_in hat]
      have hca := fun o => Lib.cell?_alloc_some (W := w) o hcell
      have hcb := fun o1 o2 => Lib.cell?_alloc_some (W := w.alloc o1) o2 (hca o1)
      clear hcells
      go_wp2_with fail
      go_meet
      first | exact ⟨rfl, rfl⟩ | exact ⟨by rw [q3], rfl⟩
    · have hne : (at_ : Int) * 7919 = n := by rw [← HN.out, nOf_out hat hb]
      have hlt : decide ((at_ : Int) < (ln : Int)) = false := by rw [decide_eq_false_iff_not]; have := HLN.out; omega
      have hlt4 : decide (at_ < ln) = false := by rw [decide_eq_false_iff_not]; have := HLN.out; omega
      have hlt5 : ¬ at_ < ln := by have := HLN.out; omega
      go_wp2_with fail
      go_meet
      exact ⟨by rw [hne], rfl⟩
  case rest =>
   obtain ⟨rfl, rfl⟩ := hcut
   go_upto_region 5 with (fail)
   go_cut [33] (fun s wx => s = .bool (decide (D ≤ 1 ∧ 4 < n % 8)) ∧ wx = (w.alloc (.cells #[.slice (some ⟨b1, o1, none⟩) m c1] 25)).alloc (.cells #[.int .i64 0, .int .i64 0, .int .i64 0, .bool false, .int .i64 0, .int .i64 0, .slice none 0 0, .slice none 0 0] 65))
   case first =>
     by_cases q1 : D ≤ 1
     · by_cases q2 : 4 < n % 8
       · have q3 : decide (D ≤ 1 ∧ 4 < n % 8) = true := by rw [decide_eq_true_eq]; exact ⟨q1, q2⟩
         go_wp2_with fail
         go_meet
         first | exact ⟨rfl, rfl⟩ | exact ⟨by rw [q3], rfl⟩
       · have q3 : decide (D ≤ 1 ∧ 4 < n % 8) = false := by rw [decide_eq_false_iff_not]; exact fun h => q2 h.2
         go_wp2_with fail
         go_meet
         first | exact ⟨rfl, rfl⟩ | exact ⟨by rw [q3], rfl⟩
     · have q3 : decide (D ≤ 1 ∧ 4 < n % 8) = false := by rw [decide_eq_false_iff_not]; exact fun h => q1 h.1
       go_wp2_with fail
       go_meet
       first | exact ⟨rfl, rfl⟩ | exact ⟨by rw [q3], rfl⟩
   case rest =>
    obtain ⟨rfl, rfl⟩ := hcut
    obtain ⟨B, hB⟩ : ∃ B, B = decide (D ≤ 1 ∧ 4 < n % 8) := ⟨_, rfl⟩
    rw [← hB]
    have HBB := Lib.hid hB
    clear hB
    go_upto_if 33 with (fail)
    go_cut [10] (fun s wx => s = .int .i64 K ∧ wx = (w.alloc (.cells #[.slice (some ⟨b1, o1, none⟩) m c1] 25)).alloc (.cells #[.int .i64 0, .int .i64 0, .int .i64 0, .bool false, .int .i64 0, .int .i64 0, .slice none 0 0, .slice none 0 0] 65))
    case first =>
      have hk8 := kOf_cases HDD.out HK.out
      rcases B with _ | _
      · have q3 : n % 8 = K := by
          have := HBB.out.symm
          rw [decide_eq_false_iff_not] at this
          omega
        clear hk8
        go_wp2_with fail
        go_meet
        first | exact ⟨rfl, rfl⟩ | exact ⟨by rw [q3], rfl⟩
      · have q3 : n % 8 - 4 = K := by
          have := HBB.out.symm
          rw [decide_eq_true_eq] at this
          omega
        clear hk8
        go_wp2_with fail
        go_meet
        first | exact ⟨rfl, rfl⟩ | exact ⟨by rw [q3], rfl⟩
    case rest =>
     obtain ⟨rfl, rfl⟩ := hcut
     have hrem := tmod_col (n := n) cols HM.out
     rw [← HCI.out] at hrem
     have hm0 : ¬ (m : Int) = 0 := by omega
     have hcm1 : (cI : Int) < (m : Int) := by omega
     have hcm0 : (0 : Int) ≤ (cI : Int) := by omega
     have hrem6 : (n / 131072 % 256).tmod 6 = n / 131072 % 256 % 6 := by rw [Int.tmod_eq_emod_of_nonneg (by omega)]
     obtain ⟨q0, q1, q5, q6, q7⟩ : (K == 0) = false ∧ (K == 1) = false ∧ (K == 5) = false ∧ (K == 6) = false ∧ (K == 7) = false := by
       simp only [beq_eq_false_iff_ne]; omega
     clear h01
     have HY0 := Lib.hid (heap3 w (.cells #[.slice (some ⟨b1, o1, none⟩) m c1] 25) (.cells #[.int .i64 0, .int .i64 0, .int .i64 0, .bool false, .int .i64 0, .int .i64 0, .slice none 0 0, .slice none 0 0] 65) (.cells #[.string c.n, .int .i64 c.k, .bool false] 55))
     go_wp2_with fail
     refine (HCALL.out _).mono ?_
     rintro e w2 ⟨s, rfl, hok, hb2, hfr⟩
     obtain ⟨sa, sc, hs⟩ := rd_shape8 hok.1
     simp only at hs
     subst hs
     have HSZ := Lib.hid (show (((w.alloc (.cells #[.slice (some ⟨b1, o1, none⟩) m c1] 25)).alloc (.cells #[.int .i64 0, .int .i64 0, .int .i64 0, .bool false, .int .i64 0, .int .i64 0, .slice none 0 0, .slice none 0 0] 65)).alloc (.cells #[.string c.n, .int .i64 c.k, .bool false] 55)).heap.size = w.heap.size + 3 by simp)
     obtain ⟨Y, hY⟩ : ∃ Y, Y = w.heap.size + 1 := ⟨_, rfl⟩
     have hy2 : w2.heap[Y]? = some (.cells #[.int .i64 0, .int .i64 0, .int .i64 0, .bool false, .int .i64 0, .int .i64 0, .slice none 0 0, .slice none 0 0] 65 (0, 0)) := by
       rw [hY]
       exact (hb2.block (w.heap.size + 1) (by rw [HSZ.out]; omega)).trans HY0.out
     have hylt : Y < w2.heap.size := (Array.getElem?_eq_some_iff.1 hy2).1
     have hz : ∀ cs : Array Value, (w2.alloc (.cells cs 36)).heap[Y]? = some (.cells #[.int .i64 0, .int .i64 0, .int .i64 0, .bool false, .int .i64 0, .int .i64 0, .slice none 0 0, .slice none 0 0] 65 (0, 0)) := fun cs => (heap_alloc_old w2 _ hylt).trans hy2
     have zc0 : ∀ cs : Array Value, (w2.alloc (.cells cs 36)).cell? ⟨Y, 0, none⟩ = some (.int .i64 0) := fun cs => by rw [cell_of_row (w2.alloc (.cells cs 36)) (Y) 0 _ _ _ (hz cs)]; rfl
     have zf0 : ∀ cs : Array Value, (w2.alloc (.cells cs 36)).frozen? ⟨Y, 0, none⟩ = false := fun cs => frozen_of_row (w2.alloc (.cells cs 36)) (Y) 0 _ _ (hz cs)
     have zc1 : ∀ cs : Array Value, (w2.alloc (.cells cs 36)).cell? ⟨Y, 1, none⟩ = some (.int .i64 0) := fun cs => by rw [cell_of_row (w2.alloc (.cells cs 36)) (Y) 1 _ _ _ (hz cs)]; rfl
     have zf1 : ∀ cs : Array Value, (w2.alloc (.cells cs 36)).frozen? ⟨Y, 1, none⟩ = false := fun cs => frozen_of_row (w2.alloc (.cells cs 36)) (Y) 1 _ _ (hz cs)
     have zc2 : ∀ cs : Array Value, (w2.alloc (.cells cs 36)).cell? ⟨Y, 2, none⟩ = some (.int .i64 0) := fun cs => by rw [cell_of_row (w2.alloc (.cells cs 36)) (Y) 2 _ _ _ (hz cs)]; rfl
     have zf2 : ∀ cs : Array Value, (w2.alloc (.cells cs 36)).frozen? ⟨Y, 2, none⟩ = false := fun cs => frozen_of_row (w2.alloc (.cells cs 36)) (Y) 2 _ _ (hz cs)
     have zc3 : ∀ cs : Array Value, (w2.alloc (.cells cs 36)).cell? ⟨Y, 3, none⟩ = some (.bool false) := fun cs => by rw [cell_of_row (w2.alloc (.cells cs 36)) (Y) 3 _ _ _ (hz cs)]; rfl
     have zf3 : ∀ cs : Array Value, (w2.alloc (.cells cs 36)).frozen? ⟨Y, 3, none⟩ = false := fun cs => frozen_of_row (w2.alloc (.cells cs 36)) (Y) 3 _ _ (hz cs)
     have zc4 : ∀ cs : Array Value, (w2.alloc (.cells cs 36)).cell? ⟨Y, 4, none⟩ = some (.int .i64 0) := fun cs => by rw [cell_of_row (w2.alloc (.cells cs 36)) (Y) 4 _ _ _ (hz cs)]; rfl
     have zf4 : ∀ cs : Array Value, (w2.alloc (.cells cs 36)).frozen? ⟨Y, 4, none⟩ = false := fun cs => frozen_of_row (w2.alloc (.cells cs 36)) (Y) 4 _ _ (hz cs)
     have zc5 : ∀ cs : Array Value, (w2.alloc (.cells cs 36)).cell? ⟨Y, 5, none⟩ = some (.int .i64 0) := fun cs => by rw [cell_of_row (w2.alloc (.cells cs 36)) (Y) 5 _ _ _ (hz cs)]; rfl
     have zf5 : ∀ cs : Array Value, (w2.alloc (.cells cs 36)).frozen? ⟨Y, 5, none⟩ = false := fun cs => frozen_of_row (w2.alloc (.cells cs 36)) (Y) 5 _ _ (hz cs)
     have zc6 : ∀ cs : Array Value, (w2.alloc (.cells cs 36)).cell? ⟨Y, 6, none⟩ = some (.slice none 0 0) := fun cs => by rw [cell_of_row (w2.alloc (.cells cs 36)) (Y) 6 _ _ _ (hz cs)]; rfl
     have zf6 : ∀ cs : Array Value, (w2.alloc (.cells cs 36)).frozen? ⟨Y, 6, none⟩ = false := fun cs => frozen_of_row (w2.alloc (.cells cs 36)) (Y) 6 _ _ (hz cs)
     have zc7 : ∀ cs : Array Value, (w2.alloc (.cells cs 36)).cell? ⟨Y, 7, none⟩ = some (.slice none 0 0) := fun cs => by rw [cell_of_row (w2.alloc (.cells cs 36)) (Y) 7 _ _ _ (hz cs)]; rfl
     have zf7 : ∀ cs : Array Value, (w2.alloc (.cells cs 36)).frozen? ⟨Y, 7, none⟩ = false := fun cs => frozen_of_row (w2.alloc (.cells cs 36)) (Y) 7 _ _ (hz cs)
     have HZ := Lib.hid hz
     have HY := Lib.hid hY
     have HB2 := Lib.hid (below_then (below3 w _ _ _) hb2)
     have HRB := Lib.hid (rdB_fresh hok.1 hfr)
     have HLT := Lib.hid hok.2
     rw [← hY]
     clear hY hz hy2 hylt hok hb2 hfr p0 p1 p2
     obtain ⟨tu, tk, tn, tb⟩ := tv
     simp only at HCV HRB HLT ⊢
     by_cases h0 : cI = 0
     · have g0 : ((cI : Int) == 0) = true := by rw [beq_iff_eq]; omega
       have HC2 := Lib.hid (HCV.out.trans (if_pos h0))
       subst h0
       go_wp2_with fail
       refine bodyPost_ret (results_cell_row rfl _ _ Y _ _ (0, 0) _ rfl (eight_heap (HZ.out _)) Try.underlying65 rfl infoPred8) rfl ?_
       rw [HC2.out]
       refine ⟨.slice none 0 0, rfl, ⟨⟨none, 0, rfl, ⟨fun _ => rfl, by simp⟩, fun h => absurd h (by simp)⟩, fun x hx => by simp at hx⟩, ?_⟩
       have hgs : ∀ i u (wx : World), Below w.heap.size w wx → Below w.heap.size w (wx.setCell ⟨Y, i, none⟩ u) := fun i u wx h => h.setCell (p := ⟨Y, i, none⟩) (by show _ ≤ Y; have := HY.out; omega) _
       exact hgs _ _ _ (hgs _ _ _ (hgs _ _ _ (hgs _ _ _ (hgs _ _ _ (hgs _ _ _ (hgs _ _ _ (hgs _ _ _ (below_lay HB2.out _))))))))
     · have g0 : ((cI : Int) == 0) = false := by rw [beq_eq_false_iff_ne]; omega
       have HC2 := Lib.hid (HCV.out.trans (if_neg h0))
       clear h0
       go_wp2_with fail
       refine bodyPost_ret (results_cell_row rfl _ _ Y _ _ (0, 0) _ rfl (eight_heap (HZ.out _)) Try.underlying65 rfl infoPred8) rfl ?_
       rw [HC2.out]
       have hy := HY.out
       have hset : ∀ i u (wx : World), Above (w.heap.size + 3) w2 wx → Above (w.heap.size + 3) w2 (wx.setCell ⟨Y, i, none⟩ u) := fun i u wx h => above_set h _ _ (by show Y < _; omega)
       have hab := hset 7 (.slice none 0 0) _ (hset 6 (.slice sa tb.length sc) _ (hset 5 (.int .i64 tn) _ (hset 4 (.int .i64 tk) _ (hset 3 (.bool tu) _ (hset 2 (.int .i64 (n / 131072 % 256 % 6 + 1)) _ (hset 1 (.int .i64 cI) _ (hset 0 (.int .i64 2) _ (above_below (below_alloc w2 (.cells #[.bool tu, .int .i64 tk, .int .i64 tn, .slice sa tb.length sc] 36))))))))))
       have h1 := HRB.out
       rw [HSZ.out] at h1
       refine ⟨.slice sa tb.length sc, rfl, ⟨h1.above hab (by omega), HLT.out⟩, ?_⟩
       have hgs : ∀ i u (wx : World), Below w.heap.size w wx → Below w.heap.size w (wx.setCell ⟨Y, i, none⟩ u) := fun i u wx h => h.setCell (p := ⟨Y, i, none⟩) (by show _ ≤ Y; omega) _
       exact hgs _ _ _ (hgs _ _ _ (hgs _ _ _ (hgs _ _ _ (hgs _ _ _ (hgs _ _ _ (hgs _ _ _ (hgs _ _ _ (below_lay HB2.out _))))))))

end Go.Proofs.Ytnfjdoeemnhkbaa

namespace Go.Proofs.Ytnfjdoeemnhkbaa
set_option linter.unusedVariables false
set_option linter.unusedSimpArgs false
open Go.RowKit

/-- What the contract says of one depth. -/
def LawOK (cols : List Co) (l : List Int) (d : Nat) : Prop := ∀ (at_ : Nat) (sv : Value) (oa : Option Addr) (ln oc : Nat) (w : World), (at_ + 1) * 4 ^ d ≤ 100000 → ln = l.length → RdC w sv cols → Rd w (.slice oa ln oc) (l.map (Value.int .i64)) →
  Calls Try.prog 58 #[.agg #[sv], .slice oa ln oc, .int .i64 (at_ : Int), .int .i64 (d : Int)] w fun e w' => ∃ cs', e = .returned (.agg cs'.toArray) ∧ RdA1 w.heap.size w' (predOf cols l d at_) cs' ∧ Below w.heap.size w w'

/-- Nothing but the block P, and the one that v owns, has turned. -/
def Part (P : Nat) (v : Value) (w w' : World) : Prop := ∀ i, i < w.heap.size → i ≠ P → v.ownBlock ≠ some i → w'.heap[i]? = w.heap[i]?

/-- What a list holds, one thing more. -/
theorem elems_step {K P g : Nat} {q : Pt} {ls : List Pt} {css : List (List Value)} {cs : List Value} {v v' : Value} {wr w2 w3 w4 w5 : World}
    (hE : ∀ w', Part P v wr w' → RdAs K w' ls css) (hP : P < wr.heap.size) (hvl : ∀ k, v.ownBlock = some k → k < wr.heap.size)
    (hb : Below wr.heap.size wr w2) (ha : RdA1 wr.heap.size w2 q cs) (h3 : ∀ i, i < w2.heap.size → w3.heap[i]? = w2.heap[i]?) (hs3 : w2.heap.size ≤ w3.heap.size)
    (h4 : ∀ i, i < w3.heap.size → v.ownBlock ≠ some i → w4.heap[i]? = w3.heap[i]?) (h5 : ∀ i, i ≠ P → w5.heap[i]? = w4.heap[i]?) (hs5 : w3.heap.size ≤ w5.heap.size) (hK : K ≤ wr.heap.size)
    (hg : v'.ownBlock = some g) (hat : v.ownBlock = some g ∨ g = w3.heap.size) : ∀ w', Part P v' w5 w' → RdAs K w' (ls ++ [q]) (css ++ [cs]) := by
  intro w' hp
  have hs2 := hb.size
  refine RdAs.snoc (RdA1.above (K := wr.heap.size) (w := w2) (fun i h1 h2 => ?_) hK _ ha) (hE w' fun i h1 h2 hv => ?_)
  · have n1 : v.ownBlock ≠ some i := fun e => by have := hvl i e; omega
    have n2 : v'.ownBlock ≠ some i := fun e => by
      rw [hg] at e
      have := Option.some.inj e
      rcases hat with h | h
      · have := hvl g h; omega
      · omega
    rw [hp i (by omega) (by omega) n2, h5 i (by omega), h4 i (by omega) n1, h3 i h2]
  · have n2 : v'.ownBlock ≠ some i := fun e => by
      rw [hg] at e
      have := Option.some.inj e
      subst this
      rcases hat with h | h
      · exact hv h
      · omega
    rw [hp i (by omega) h2 n2, h5 i h2, h4 i (by omega) hv, h3 i (by omega), hb.block i h1]
theorem rdA1_shape {K : Nat} {w : World} {p : Pt} {cs : List Value} (h : RdA1 K w p cs) : ∃ (k c o vk vn : Int) (u : Bool) (a : Option Addr) (n m : Nat) (a2 : Option Addr) (n2 m2 : Nat), cs = [.int .i64 k, .int .i64 c, .int .i64 o, .bool u, .int .i64 vk, .int .i64 vn, .slice a n m, .slice a2 n2 m2] := by
  obtain ⟨k, c, o, v, l⟩ := p
  unfold RdA1 at h
  obtain ⟨s, ls, css, rfl, h1, h2, _⟩ := h
  obtain ⟨a, m, h3⟩ := rdB_shape h1.1
  obtain ⟨a2, m2, h4⟩ := rdS_shape h2.rd
  exact ⟨k, c, o, v.k, v.n, v.u, a, _, m, a2, _, m2, by rw [h3, h4]; rfl⟩
theorem rd_kept7 {w w' : World} {v : Value} {xs : List Value} (h : Rd w v xs) (hb : Below w.heap.size w w') : Rd w' v xs := h.kept hb
theorem lawp_mul {a d b : Nat} (h : (a + 1) * 4 ^ (d + 1) ≤ 100000) (hi : b + 1 ≤ (a + 1) * 4) : (b + 1) * 4 ^ d ≤ 100000 := by
  have h2 := Nat.mul_le_mul_right (4 ^ d) hi
  have h3 : (a + 1) * 4 * 4 ^ d = (a + 1) * 4 ^ (d + 1) := by rw [Nat.pow_succ, Nat.mul_assoc, Nat.mul_comm 4]
  omega
theorem lawp_le {a d : Nat} (h : (a + 1) * 4 ^ d ≤ 100000) : a ≤ 100000 := by
  have h1 : 1 ≤ 4 ^ d := Nat.pos_of_ne_zero (by simp)
  have h2 := Nat.mul_le_mul_left (a + 1) h1
  omega

set_option maxRecDepth 100000 in
set_option maxHeartbeats 4000000 in
theorem pred_neg (cols : List Co) (hc0 : 0 < cols.length) (hc6 : cols.length ≤ 6) (l : List Int) (sv : Value) (oa : Option Addr) (ln oc : Nat) (d at_ : Nat) (ih : LawOK cols l d) (D : Int) (hD : D = ((d + 1 : Nat) : Int)) (hd : d ≤ 10) (hln : ln = l.length) (n K : Int) (hn : nOf l at_ = n) (hK : kOf n (d + 1) = K) (h01 : K = 7) (w : World) (hv : RdC w sv cols) (hr : Rd w (.slice oa ln oc) (l.map (Value.int .i64))) (hbb : (at_ + 1) * 4 ^ (d + 1) ≤ 100000) :
    Calls Try.prog 58 #[.agg #[sv], .slice oa ln oc, .int .i64 (at_ : Int), .int .i64 D] w fun e w' => ∃ cs', e = .returned (.agg cs'.toArray) ∧ RdA1 w.heap.size w' (.mk 6 0 0 nilV [predOf cols l d (3 * at_ + 1)]) cs' ∧ Below w.heap.size w w' := by
  have hb := lawp_le hbb
  have H01 := Lib.hid h01
  clear h01
  obtain ⟨a1, c1, rfl⟩ := rdC_shape hv
  obtain ⟨m, hM⟩ : ∃ m, m = cols.length := ⟨_, rfl⟩
  rw [← hM] at hv hc0 hc6 ⊢
  have HM := Lib.hid hM
  have HLN := Lib.hid hln
  have HV := Lib.hid hv
  clear hM hv hln
  obtain ⟨cI, hcI⟩ : ∃ cI, cI = colOf cols n := ⟨_, rfl⟩
  have hcm : cI < m := by rw [hcI, colOf, ← HM.out]; exact Nat.mod_lt _ hc0
  have HCI := Lib.hid hcI
  clear hcI
  have HC := Lib.hid (show ∀ W : World, RdC W (.slice a1 m c1) cols → Rd W (.slice oa ln oc) (l.map (Value.int .i64)) → Calls Try.prog 58 #[.agg #[.slice a1 m c1], .slice oa ln oc, .int .i64 (3 * (at_ : Int) + 1), .int .i64 (D - 1)] W fun e w' => ∃ cs', e = .returned (.agg cs'.toArray) ∧ RdA1 W.heap.size w' (predOf cols l d (3 * at_ + 1)) cs' ∧ Below W.heap.size W w' by
    intro W h1 h2
    have := ih (3 * at_ + 1) (.slice a1 m c1) oa ln oc W (lawp_mul hbb (by omega)) HLN.out h1 h2
    rw [show ((3 * at_ + 1 : Nat) : Int) = 3 * (at_ : Int) + 1 by omega, show (d : Int) = D - 1 by omega] at this
    exact this)
  have hDb : 1 ≤ D ∧ D ≤ 11 := by omega
  obtain ⟨hD1, hD2⟩ := hDb
  clear ih hbb
  have b7 : ∀ x, bits .and .i64 x 7 = x % 8 := fun x => and_low x 3 (by decide) 7 rfl
  have b255 : ∀ x, bits .and .i64 x 255 = x % 256 := fun x => and_low x 8 (by decide) 255 rfl
  have b3 : ∀ x, bits .and .i64 x 3 = x % 4 := fun x => and_low x 2 (by decide) 3 rfl
  have b15 : ∀ x, bits .and .i64 x 15 = x % 16 := fun x => and_low x 4 (by decide) 15 rfl
  have HN := Lib.hid hn
  have HK := Lib.hid hK
  have HR := Lib.hid hr
  have HDD := Lib.hid hD
  clear hn hK hr hD
  go_enter Try.func58, Try.ntmps58
  go_upto_if 21 with (fail)
  go_cut [9] (fun s wx => s = .int .i64 n ∧ wx = (w.alloc (.cells #[.slice a1 m c1] 25)).alloc (.cells #[.int .i64 0, .int .i64 0, .int .i64 0, .bool false, .int .i64 0, .int .i64 0, .slice none 0 0, .slice none 0 0] 65))
  case first =>
    by_cases hat : at_ < l.length
    · have hlt : decide ((at_ : Int) < (ln : Int)) = true := by rw [decide_eq_true_eq]; have := HLN.out; omega
      have hlt3 : at_ < ln := by have := HLN.out; omega
      have hlt4 : decide (at_ < ln) = true := by rw [decide_eq_true_eq]; exact hlt3
      have hlt2 : (at_ : Int) < (ln : Int) := by have := HLN.out; omega
      have hl0 : (0 : Int) ≤ (at_ : Int) := by omega
      obtain ⟨b, off, rfl, hcells⟩ := (rdz_cells HR.out).2 (by have := HLN.out; omega)
      have hcell : w.cell? ⟨b, off + at_, none⟩ = some (.int .i64 n) := by
        rw [hcells at_ (by have := HLN.out; omega), ← HN.out, nOf_in hat]
      have hca := fun o => Lib.cell?_alloc_some (W := w) o hcell
      have hcb := fun o1 o2 => Lib.cell?_alloc_some (W := w.alloc o1) o2 (hca o1)
      clear hcells
      go_wp2_with fail
      go_meet
      first | exact ⟨rfl, rfl⟩ | exact ⟨by rw [q3], rfl⟩
    · have hne : (at_ : Int) * 7919 = n := by rw [← HN.out, nOf_out hat hb]
      have hlt : decide ((at_ : Int) < (ln : Int)) = false := by rw [decide_eq_false_iff_not]; have := HLN.out; omega
      have hlt4 : decide (at_ < ln) = false := by rw [decide_eq_false_iff_not]; have := HLN.out; omega
      have hlt5 : ¬ at_ < ln := by have := HLN.out; omega
      go_wp2_with fail
      go_meet
      exact ⟨by rw [hne], rfl⟩
  case rest =>
   obtain ⟨rfl, rfl⟩ := hcut
   go_upto_region 5 with (fail)
   go_cut [33] (fun s wx => s = .bool (decide (D ≤ 1 ∧ 4 < n % 8)) ∧ wx = (w.alloc (.cells #[.slice a1 m c1] 25)).alloc (.cells #[.int .i64 0, .int .i64 0, .int .i64 0, .bool false, .int .i64 0, .int .i64 0, .slice none 0 0, .slice none 0 0] 65))
   case first =>
     by_cases q1 : D ≤ 1
     · by_cases q2 : 4 < n % 8
       · have q3 : decide (D ≤ 1 ∧ 4 < n % 8) = true := by rw [decide_eq_true_eq]; exact ⟨q1, q2⟩
         go_wp2_with fail
         go_meet
         first | exact ⟨rfl, rfl⟩ | exact ⟨by rw [q3], rfl⟩
       · have q3 : decide (D ≤ 1 ∧ 4 < n % 8) = false := by rw [decide_eq_false_iff_not]; exact fun h => q2 h.2
         go_wp2_with fail
         go_meet
         first | exact ⟨rfl, rfl⟩ | exact ⟨by rw [q3], rfl⟩
     · have q3 : decide (D ≤ 1 ∧ 4 < n % 8) = false := by rw [decide_eq_false_iff_not]; exact fun h => q1 h.1
       go_wp2_with fail
       go_meet
       first | exact ⟨rfl, rfl⟩ | exact ⟨by rw [q3], rfl⟩
   case rest =>
    obtain ⟨rfl, rfl⟩ := hcut
    obtain ⟨B, hB⟩ : ∃ B, B = decide (D ≤ 1 ∧ 4 < n % 8) := ⟨_, rfl⟩
    rw [← hB]
    have HBB := Lib.hid hB
    clear hB
    go_upto_if 33 with (fail)
    go_cut [10] (fun s wx => s = .int .i64 K ∧ wx = (w.alloc (.cells #[.slice a1 m c1] 25)).alloc (.cells #[.int .i64 0, .int .i64 0, .int .i64 0, .bool false, .int .i64 0, .int .i64 0, .slice none 0 0, .slice none 0 0] 65))
    case first =>
      have hk8 := kOf_cases HDD.out HK.out
      rcases B with _ | _
      · have q3 : n % 8 = K := by
          have := HBB.out.symm
          rw [decide_eq_false_iff_not] at this
          omega
        clear hk8
        go_wp2_with fail
        go_meet
        first | exact ⟨rfl, rfl⟩ | exact ⟨by rw [q3], rfl⟩
      · have q3 : n % 8 - 4 = K := by
          have := HBB.out.symm
          rw [decide_eq_true_eq] at this
          omega
        clear hk8
        go_wp2_with fail
        go_meet
        first | exact ⟨rfl, rfl⟩ | exact ⟨by rw [q3], rfl⟩
    case rest =>
     obtain ⟨rfl, rfl⟩ := hcut
     have hrem := tmod_col (n := n) cols HM.out
     rw [← HCI.out] at hrem
     have hm0 : ¬ (m : Int) = 0 := by omega
     have h01 := H01.out
     subst h01
     have HR0 := Lib.hid (HR.out.kept (below2 w (.cells #[.slice a1 m c1] 25) (.cells #[.int .i64 0, .int .i64 0, .int .i64 0, .bool false, .int .i64 0, .int .i64 0, .slice none 0 0, .slice none 0 0] 65)))
     have HV0 := Lib.hid (RdC.kept HV.out (below2 w (.cells #[.slice a1 m c1] 25) (.cells #[.int .i64 0, .int .i64 0, .int .i64 0, .bool false, .int .i64 0, .int .i64 0, .slice none 0 0, .slice none 0 0] 65)))
     have HY0 := Lib.hid (heap2 w (.cells #[.slice a1 m c1] 25) (.cells #[.int .i64 0, .int .i64 0, .int .i64 0, .bool false, .int .i64 0, .int .i64 0, .slice none 0 0, .slice none 0 0] 65))
     have HSZ := Lib.hid (show ((w.alloc (.cells #[.slice a1 m c1] 25)).alloc (.cells #[.int .i64 0, .int .i64 0, .int .i64 0, .bool false, .int .i64 0, .int .i64 0, .slice none 0 0, .slice none 0 0] 65)).heap.size = w.heap.size + 2 by simp)
     go_wp2_with fail
     refine (HC.out _ HV0.out HR0.out).mono ?_
     rintro e w2 ⟨cs, rfl, ha, hb2⟩
     obtain ⟨Y, hY⟩ : ∃ Y, Y = w.heap.size + 1 := ⟨_, rfl⟩
     have hy2 : w2.heap[Y]? = some (.cells #[.int .i64 0, .int .i64 0, .int .i64 0, .bool false, .int .i64 0, .int .i64 0, .slice none 0 0, .slice none 0 0] 65 (0, 0)) := by
       rw [hY]
       exact (hb2.block (w.heap.size + 1) (by rw [HSZ.out]; omega)).trans HY0.out
     have hylt : Y < w2.heap.size := (Array.getElem?_eq_some_iff.1 hy2).1
     obtain ⟨k', c', o', vk', vn', u', a', n', m', a2', n2', m2', hcs⟩ := rdA1_shape ha
     subst hcs
     have hz : ∀ cs : Array Value, (w2.alloc (.cells cs 65)).heap[Y]? = some (.cells #[.int .i64 0, .int .i64 0, .int .i64 0, .bool false, .int .i64 0, .int .i64 0, .slice none 0 0, .slice none 0 0] 65 (0, 0)) := fun cs => (heap_alloc_old w2 _ hylt).trans hy2
     have zc0 : ∀ cs : Array Value, (w2.alloc (.cells cs 65)).cell? ⟨Y, 0, none⟩ = some (.int .i64 0) := fun cs => by rw [cell_of_row (w2.alloc (.cells cs 65)) (Y) 0 _ _ _ (hz cs)]; rfl
     have zf0 : ∀ cs : Array Value, (w2.alloc (.cells cs 65)).frozen? ⟨Y, 0, none⟩ = false := fun cs => frozen_of_row (w2.alloc (.cells cs 65)) (Y) 0 _ _ (hz cs)
     have zc1 : ∀ cs : Array Value, (w2.alloc (.cells cs 65)).cell? ⟨Y, 1, none⟩ = some (.int .i64 0) := fun cs => by rw [cell_of_row (w2.alloc (.cells cs 65)) (Y) 1 _ _ _ (hz cs)]; rfl
     have zf1 : ∀ cs : Array Value, (w2.alloc (.cells cs 65)).frozen? ⟨Y, 1, none⟩ = false := fun cs => frozen_of_row (w2.alloc (.cells cs 65)) (Y) 1 _ _ (hz cs)
     have zc2 : ∀ cs : Array Value, (w2.alloc (.cells cs 65)).cell? ⟨Y, 2, none⟩ = some (.int .i64 0) := fun cs => by rw [cell_of_row (w2.alloc (.cells cs 65)) (Y) 2 _ _ _ (hz cs)]; rfl
     have zf2 : ∀ cs : Array Value, (w2.alloc (.cells cs 65)).frozen? ⟨Y, 2, none⟩ = false := fun cs => frozen_of_row (w2.alloc (.cells cs 65)) (Y) 2 _ _ (hz cs)
     have zc3 : ∀ cs : Array Value, (w2.alloc (.cells cs 65)).cell? ⟨Y, 3, none⟩ = some (.bool false) := fun cs => by rw [cell_of_row (w2.alloc (.cells cs 65)) (Y) 3 _ _ _ (hz cs)]; rfl
     have zf3 : ∀ cs : Array Value, (w2.alloc (.cells cs 65)).frozen? ⟨Y, 3, none⟩ = false := fun cs => frozen_of_row (w2.alloc (.cells cs 65)) (Y) 3 _ _ (hz cs)
     have zc4 : ∀ cs : Array Value, (w2.alloc (.cells cs 65)).cell? ⟨Y, 4, none⟩ = some (.int .i64 0) := fun cs => by rw [cell_of_row (w2.alloc (.cells cs 65)) (Y) 4 _ _ _ (hz cs)]; rfl
     have zf4 : ∀ cs : Array Value, (w2.alloc (.cells cs 65)).frozen? ⟨Y, 4, none⟩ = false := fun cs => frozen_of_row (w2.alloc (.cells cs 65)) (Y) 4 _ _ (hz cs)
     have zc5 : ∀ cs : Array Value, (w2.alloc (.cells cs 65)).cell? ⟨Y, 5, none⟩ = some (.int .i64 0) := fun cs => by rw [cell_of_row (w2.alloc (.cells cs 65)) (Y) 5 _ _ _ (hz cs)]; rfl
     have zf5 : ∀ cs : Array Value, (w2.alloc (.cells cs 65)).frozen? ⟨Y, 5, none⟩ = false := fun cs => frozen_of_row (w2.alloc (.cells cs 65)) (Y) 5 _ _ (hz cs)
     have zc6 : ∀ cs : Array Value, (w2.alloc (.cells cs 65)).cell? ⟨Y, 6, none⟩ = some (.slice none 0 0) := fun cs => by rw [cell_of_row (w2.alloc (.cells cs 65)) (Y) 6 _ _ _ (hz cs)]; rfl
     have zf6 : ∀ cs : Array Value, (w2.alloc (.cells cs 65)).frozen? ⟨Y, 6, none⟩ = false := fun cs => frozen_of_row (w2.alloc (.cells cs 65)) (Y) 6 _ _ (hz cs)
     have zc7 : ∀ cs : Array Value, (w2.alloc (.cells cs 65)).cell? ⟨Y, 7, none⟩ = some (.slice none 0 0) := fun cs => by rw [cell_of_row (w2.alloc (.cells cs 65)) (Y) 7 _ _ _ (hz cs)]; rfl
     have zf7 : ∀ cs : Array Value, (w2.alloc (.cells cs 65)).frozen? ⟨Y, 7, none⟩ = false := fun cs => frozen_of_row (w2.alloc (.cells cs 65)) (Y) 7 _ _ (hz cs)
     have HZ := Lib.hid hz
     have HY := Lib.hid hY
     have HA := Lib.hid ha
     have HB2 := Lib.hid (below_then (below2 w _ _) hb2)
     have HS2 := Lib.hid hb2.size
     have HQ := Lib.hid (heap_alloc_new w2 (.cells #[.int .i64 k', .int .i64 c', .int .i64 o', .bool u', .int .i64 vk', .int .i64 vn', .slice a' n' m', .slice a2' n2' m2'] 65))
     rw [← hY]
     clear hY hz hy2 hylt hb2 ha
     go_wp2_with fail
     refine bodyPost_ret (results_cell_row rfl _ _ Y _ _ (0, 0) _ rfl (eight_heap (HZ.out _)) Try.underlying65 rfl infoPred8) rfl ?_
     have hy := HY.out
     have hs2 := HS2.out
     rw [HSZ.out] at hs2
     have hset : ∀ i u (wx : World), Above (w.heap.size + 2) w2 wx → Above (w.heap.size + 2) w2 (wx.setCell ⟨Y, i, none⟩ u) := fun i u wx h => above_set h _ _ (by show Y < _; omega)
     have hq : ∀ i u (wx : World), wx.heap[w2.heap.size]? = some (.cells #[.int .i64 k', .int .i64 c', .int .i64 o', .bool u', .int .i64 vk', .int .i64 vn', .slice a' n' m', .slice a2' n2' m2'] 65 (0, 0)) → (wx.setCell ⟨Y, i, none⟩ u).heap[w2.heap.size]? = some (.cells #[.int .i64 k', .int .i64 c', .int .i64 o', .bool u', .int .i64 vk', .int .i64 vn', .slice a' n' m', .slice a2' n2' m2'] 65 (0, 0)) := fun i u wx h => (heap_setCell_other wx ⟨Y, i, none⟩ w2.heap.size u (by show _ ≠ Y; omega)).trans h
     refine ⟨cellsP 6 0 0 nilV (.slice none 0 0) (.slice (some ⟨w2.heap.size, 0, none⟩) 1 1), rfl, ?_, ?_⟩
     · unfold RdA1
       refine ⟨.slice none 0 0, .slice (some ⟨w2.heap.size, 0, none⟩) 1 1, [[.int .i64 k', .int .i64 c', .int .i64 o', .bool u', .int .i64 vk', .int .i64 vn', .slice a' n' m', .slice a2' n2' m2']], rfl, ⟨⟨none, 0, rfl, ⟨fun _ => rfl, by simp [nilV]⟩, fun h => absurd h (by simp [nilV])⟩, fun x hx => by simp [nilV] at hx⟩, ⟨_, 1, rfl, ⟨(fun h => by cases h), by simp⟩, fun k t hk => ?_⟩, ?_⟩
       · rcases k with _ | k
         · simp only [List.getElem?_cons_zero, Option.some.injEq] at hk
           subst hk
           refine ⟨w2.heap.size, 0, rfl, by omega, fun j u hj => ?_⟩
           simp only [Nat.zero_mul, Nat.zero_add]
           rw [cell_of_row _ w2.heap.size j _ _ _ (hq _ _ _ (hq _ _ _ (hq _ _ _ (hq _ _ _ (hq _ _ _ (hq _ _ _ (hq _ _ _ (hq _ _ _ HQ.out))))))))]
           simpa using hj
         · simp at hk
       · unfold RdAs
         refine ⟨RdA1.above (K := w.heap.size + 2) (w := w2) ?_ (by omega) _ (by have := HA.out; rw [HSZ.out] at this; exact this), by unfold RdAs; trivial⟩
         exact hset _ _ _ (hset _ _ _ (hset _ _ _ (hset _ _ _ (hset _ _ _ (hset _ _ _ (hset _ _ _ (hset _ _ _ (above_below (below_alloc w2 _)))))))))
     · have hgs : ∀ i u (wx : World), Below w.heap.size w wx → Below w.heap.size w (wx.setCell ⟨Y, i, none⟩ u) := fun i u wx h => h.setCell (p := ⟨Y, i, none⟩) (by show _ ≤ Y; omega) _
       exact hgs _ _ _ (hgs _ _ _ (hgs _ _ _ (hgs _ _ _ (hgs _ _ _ (hgs _ _ _ (hgs _ _ _ (hgs _ _ _ (below_lay HB2.out _))))))))

end Go.Proofs.Ytnfjdoeemnhkbaa

namespace Go.Proofs.Ytnfjdoeemnhkbaa
set_option linter.unusedVariables false
set_option linter.unusedSimpArgs false
open Go.RowKit

theorem range_snoc {α : Type} (f : Nat → α) (q : Nat) : (List.range (q + 1)).map f = (List.range q).map f ++ [f q] := by
  rw [List.range_succ, List.map_append]; rfl
theorem own_kept {w w1 : World} {B : Nat} {E : TypeId} {sz : Nat} {v : Value} {n : Nat} {xs : List Value} (h : w.ownsRow B E sz v n xs) (hb : Below w.heap.size w w1) : w1.ownsRow B E sz v n xs := by
  refine h.kept (⟨hb.os, hb.tape, hb.output, hb.size, fun k hk _ => hb.block k hk⟩ : w.grownBy w1 none) ?_
  rcases h.2 with ⟨rfl, _⟩ | ⟨g, cap, cur, rfl, _⟩
  · exact .inl rfl
  · exact .inr (by simp [Value.ownBlock])
theorem part_refl (P : Nat) (v : Value) (w : World) : Part P v w w := fun _ _ _ _ => rfl

set_option maxRecDepth 100000 in
set_option maxHeartbeats 8000000 in
theorem pred_list5 (cols : List Co) (hc0 : 0 < cols.length) (hc6 : cols.length ≤ 6) (l : List Int) (sv : Value) (oa : Option Addr) (ln oc : Nat) (d at_ : Nat) (ih : LawOK cols l d) (D : Int) (hD : D = ((d + 1 : Nat) : Int)) (hd : d ≤ 10) (hln : ln = l.length) (n K : Int) (hn : nOf l at_ = n) (hK : kOf n (d + 1) = K) (h01 : K = 5) (w : World) (hv : RdC w sv cols) (hr : Rd w (.slice oa ln oc) (l.map (Value.int .i64))) (hbb : (at_ + 1) * 4 ^ (d + 1) ≤ 100000) :
    Calls Try.prog 58 #[.agg #[sv], .slice oa ln oc, .int .i64 (at_ : Int), .int .i64 D] w fun e w' => ∃ cs', e = .returned (.agg cs'.toArray) ∧ RdA1 w.heap.size w' (.mk 4 0 0 nilV ((List.range (n / 2048 % 4).toNat).map fun i => predOf cols l d (3 * at_ + i + 1))) cs' ∧ Below w.heap.size w w' := by
  have hb := lawp_le hbb
  have H01 := Lib.hid h01
  clear h01
  obtain ⟨a1, c1, rfl⟩ := rdC_shape hv
  obtain ⟨m, hM⟩ : ∃ m, m = cols.length := ⟨_, rfl⟩
  rw [← hM] at hv hc0 hc6 ⊢
  have HM := Lib.hid hM
  have HLN := Lib.hid hln
  have HV := Lib.hid hv
  clear hM hv hln
  obtain ⟨cI, hcI⟩ : ∃ cI, cI = colOf cols n := ⟨_, rfl⟩
  have hcm : cI < m := by rw [hcI, colOf, ← HM.out]; exact Nat.mod_lt _ hc0
  have HCI := Lib.hid hcI
  clear hcI
  have HC := Lib.hid (show ∀ (q : Nat) (W : World), q ≤ 2 → RdC W (.slice a1 m c1) cols → Rd W (.slice oa ln oc) (l.map (Value.int .i64)) → Calls Try.prog 58 #[.agg #[.slice a1 m c1], .slice oa ln oc, .int .i64 (3 * (at_ : Int) + (q : Int) + 1), .int .i64 (D - 1)] W fun e w' => ∃ cs', e = .returned (.agg cs'.toArray) ∧ RdA1 W.heap.size w' (predOf cols l d (3 * at_ + q + 1)) cs' ∧ Below W.heap.size W w' by
    intro q W hq h1 h2
    have := ih (3 * at_ + q + 1) (.slice a1 m c1) oa ln oc W (lawp_mul hbb (by omega)) HLN.out h1 h2
    rw [show ((3 * at_ + q + 1 : Nat) : Int) = 3 * (at_ : Int) + (q : Int) + 1 by omega, show (d : Int) = D - 1 by omega] at this
    exact this)
  have hDb : 1 ≤ D ∧ D ≤ 11 := by omega
  obtain ⟨hD1, hD2⟩ := hDb
  clear ih hbb
  have b7 : ∀ x, bits .and .i64 x 7 = x % 8 := fun x => and_low x 3 (by decide) 7 rfl
  have b255 : ∀ x, bits .and .i64 x 255 = x % 256 := fun x => and_low x 8 (by decide) 255 rfl
  have b3 : ∀ x, bits .and .i64 x 3 = x % 4 := fun x => and_low x 2 (by decide) 3 rfl
  have b15 : ∀ x, bits .and .i64 x 15 = x % 16 := fun x => and_low x 4 (by decide) 15 rfl
  have HN := Lib.hid hn
  have HK := Lib.hid hK
  have HR := Lib.hid hr
  have HDD := Lib.hid hD
  clear hn hK hr hD
  go_enter Try.func58, Try.ntmps58
  go_upto_if 21 with (fail)
  go_cut [9] (fun s wx => s = .int .i64 n ∧ wx = (w.alloc (.cells #[.slice a1 m c1] 25)).alloc (.cells #[.int .i64 0, .int .i64 0, .int .i64 0, .bool false, .int .i64 0, .int .i64 0, .slice none 0 0, .slice none 0 0] 65))
  case first =>
    by_cases hat : at_ < l.length
    · have hlt : decide ((at_ : Int) < (ln : Int)) = true := by rw [decide_eq_true_eq]; have := HLN.out; omega
      have hlt3 : at_ < ln := by have := HLN.out; omega
      have hlt4 : decide (at_ < ln) = true := by rw [decide_eq_true_eq]; exact hlt3
      have hlt2 : (at_ : Int) < (ln : Int) := by have := HLN.out; omega
      have hl0 : (0 : Int) ≤ (at_ : Int) := by omega
      obtain ⟨b, off, rfl, hcells⟩ := (rdz_cells HR.out).2 (by have := HLN.out; omega)
      have hcell : w.cell? ⟨b, off + at_, none⟩ = some (.int .i64 n) := by
        rw [hcells at_ (by have := HLN.out; omega), ← HN.out, nOf_in hat]
      have hca := fun o => Lib.cell?_alloc_some (W := w) o hcell
      have hcb := fun o1 o2 => Lib.cell?_alloc_some (W := w.alloc o1) o2 (hca o1)
      clear hcells
      go_wp2_with fail
      go_meet
      first | exact ⟨rfl, rfl⟩ | exact ⟨by rw [q3], rfl⟩
    · have hne : (at_ : Int) * 7919 = n := by rw [← HN.out, nOf_out hat hb]
      have hlt : decide ((at_ : Int) < (ln : Int)) = false := by rw [decide_eq_false_iff_not]; have := HLN.out; omega
      have hlt4 : decide (at_ < ln) = false := by rw [decide_eq_false_iff_not]; have := HLN.out; omega
      have hlt5 : ¬ at_ < ln := by have := HLN.out; omega
      go_wp2_with fail
      go_meet
      exact ⟨by rw [hne], rfl⟩
  case rest =>
   obtain ⟨rfl, rfl⟩ := hcut
   go_upto_region 5 with (fail)
   go_cut [33] (fun s wx => s = .bool (decide (D ≤ 1 ∧ 4 < n % 8)) ∧ wx = (w.alloc (.cells #[.slice a1 m c1] 25)).alloc (.cells #[.int .i64 0, .int .i64 0, .int .i64 0, .bool false, .int .i64 0, .int .i64 0, .slice none 0 0, .slice none 0 0] 65))
   case first =>
     by_cases q1 : D ≤ 1
     · by_cases q2 : 4 < n % 8
       · have q3 : decide (D ≤ 1 ∧ 4 < n % 8) = true := by rw [decide_eq_true_eq]; exact ⟨q1, q2⟩
         go_wp2_with fail
         go_meet
         first | exact ⟨rfl, rfl⟩ | exact ⟨by rw [q3], rfl⟩
       · have q3 : decide (D ≤ 1 ∧ 4 < n % 8) = false := by rw [decide_eq_false_iff_not]; exact fun h => q2 h.2
         go_wp2_with fail
         go_meet
         first | exact ⟨rfl, rfl⟩ | exact ⟨by rw [q3], rfl⟩
     · have q3 : decide (D ≤ 1 ∧ 4 < n % 8) = false := by rw [decide_eq_false_iff_not]; exact fun h => q1 h.1
       go_wp2_with fail
       go_meet
       first | exact ⟨rfl, rfl⟩ | exact ⟨by rw [q3], rfl⟩
   case rest =>
    obtain ⟨rfl, rfl⟩ := hcut
    obtain ⟨B, hB⟩ : ∃ B, B = decide (D ≤ 1 ∧ 4 < n % 8) := ⟨_, rfl⟩
    rw [← hB]
    have HBB := Lib.hid hB
    clear hB
    go_upto_if 33 with (fail)
    go_cut [10] (fun s wx => s = .int .i64 K ∧ wx = (w.alloc (.cells #[.slice a1 m c1] 25)).alloc (.cells #[.int .i64 0, .int .i64 0, .int .i64 0, .bool false, .int .i64 0, .int .i64 0, .slice none 0 0, .slice none 0 0] 65))
    case first =>
      have hk8 := kOf_cases HDD.out HK.out
      rcases B with _ | _
      · have q3 : n % 8 = K := by
          have := HBB.out.symm
          rw [decide_eq_false_iff_not] at this
          omega
        clear hk8
        go_wp2_with fail
        go_meet
        first | exact ⟨rfl, rfl⟩ | exact ⟨by rw [q3], rfl⟩
      · have q3 : n % 8 - 4 = K := by
          have := HBB.out.symm
          rw [decide_eq_true_eq] at this
          omega
        clear hk8
        go_wp2_with fail
        go_meet
        first | exact ⟨rfl, rfl⟩ | exact ⟨by rw [q3], rfl⟩
    case rest =>
     obtain ⟨rfl, rfl⟩ := hcut
     have hrem := tmod_col (n := n) cols HM.out
     rw [← HCI.out] at hrem
     have hm0 : ¬ (m : Int) = 0 := by omega
     have h01 := H01.out
     subst h01
     obtain ⟨cn, hcn⟩ : ∃ cn : Nat, n / 2048 % 4 = (cn : Int) := ⟨(n / 2048 % 4).toNat, by omega⟩
     have hcn3 : cn ≤ 3 := by omega
     have HCN := Lib.hid (show (n / 2048 % 4).toNat = cn by omega)
     obtain ⟨i0, hi, hz0, hz1, hz2⟩ := info_parts infoPred
     have HR0 := Lib.hid (HR.out.kept (below3 w (.cells #[.slice a1 m c1] 25) (.cells #[.int .i64 0, .int .i64 0, .int .i64 0, .bool false, .int .i64 0, .int .i64 0, .slice none 0 0, .slice none 0 0] 65) (.cells #[.int .i64 (4), .int .i64 0, .int .i64 0, .bool false, .int .i64 0, .int .i64 0, .slice none 0 0, .slice none 0 0] 65)))
     have HV0 := Lib.hid (RdC.kept HV.out (below3 w (.cells #[.slice a1 m c1] 25) (.cells #[.int .i64 0, .int .i64 0, .int .i64 0, .bool false, .int .i64 0, .int .i64 0, .slice none 0 0, .slice none 0 0] 65) (.cells #[.int .i64 (4), .int .i64 0, .int .i64 0, .bool false, .int .i64 0, .int .i64 0, .slice none 0 0, .slice none 0 0] 65)))
     have HX0 := Lib.hid (show (((w.alloc (.cells #[.slice a1 m c1] 25)).alloc (.cells #[.int .i64 0, .int .i64 0, .int .i64 0, .bool false, .int .i64 0, .int .i64 0, .slice none 0 0, .slice none 0 0] 65)).alloc (.cells #[.int .i64 (4), .int .i64 0, .int .i64 0, .bool false, .int .i64 0, .int .i64 0, .slice none 0 0, .slice none 0 0] 65)).heap[w.heap.size]? = some (.cells #[.slice a1 m c1] 25 (0, 0)) from (heap_alloc_old _ _ (by simp; try omega)).trans ((heap_alloc_old _ _ (by simp)).trans (heap_alloc_new w _)))
     have HY0 := Lib.hid (heap3 w (.cells #[.slice a1 m c1] 25) (.cells #[.int .i64 0, .int .i64 0, .int .i64 0, .bool false, .int .i64 0, .int .i64 0, .slice none 0 0, .slice none 0 0] 65) (.cells #[.int .i64 (4), .int .i64 0, .int .i64 0, .bool false, .int .i64 0, .int .i64 0, .slice none 0 0, .slice none 0 0] 65))
     have HP0 := Lib.hid (heaps3 w (.cells #[.slice a1 m c1] 25) (.cells #[.int .i64 0, .int .i64 0, .int .i64 0, .bool false, .int .i64 0, .int .i64 0, .slice none 0 0, .slice none 0 0] 65) (.cells #[.int .i64 (4), .int .i64 0, .int .i64 0, .bool false, .int .i64 0, .int .i64 0, .slice none 0 0, .slice none 0 0] 65)).2
     have HSZ := Lib.hid (show (((w.alloc (.cells #[.slice a1 m c1] 25)).alloc (.cells #[.int .i64 0, .int .i64 0, .int .i64 0, .bool false, .int .i64 0, .int .i64 0, .slice none 0 0, .slice none 0 0] 65)).alloc (.cells #[.int .i64 (4), .int .i64 0, .int .i64 0, .bool false, .int .i64 0, .int .i64 0, .slice none 0 0, .slice none 0 0] 65)).heap.size = w.heap.size + 3 by simp)
     have HB0 := Lib.hid (below3 w (.cells #[.slice a1 m c1] 25) (.cells #[.int .i64 0, .int .i64 0, .int .i64 0, .bool false, .int .i64 0, .int .i64 0, .slice none 0 0, .slice none 0 0] 65) (.cells #[.int .i64 (4), .int .i64 0, .int .i64 0, .bool false, .int .i64 0, .int .i64 0, .slice none 0 0, .slice none 0 0] 65))
     go_wp2_with fail
     go_loopw [13] (fun i wr => ∃ (q : Nat) (vo : Option Addr) (vc : Nat) (css : List (List Value)), q ≤ cn ∧ i = .int .i64 (q : Int) ∧ wr.heap[w.heap.size]? = some (.cells #[.slice a1 m c1] 25 (0, 0)) ∧ wr.heap[w.heap.size + 1]? = some (.cells #[.int .i64 0, .int .i64 0, .int .i64 0, .bool false, .int .i64 0, .int .i64 0, .slice none 0 0, .slice none 0 0] 65 (0, 0)) ∧ wr.heap[w.heap.size + 2]? = some (.cells #[.int .i64 (4), .int .i64 0, .int .i64 0, .bool false, .int .i64 0, .int .i64 0, .slice none 0 0, .slice vo q vc] 65 (0, 0)) ∧ css.length = q ∧ wr.ownsRow (w.heap.size + 3) 65 8 (.slice vo q vc) q css.flatten ∧ (∀ w', Part (w.heap.size + 2) (.slice vo q vc) wr w' → RdAs (w.heap.size + 3) w' ((List.range q).map fun i => predOf cols l d (3 * at_ + i + 1)) css) ∧ w.heap.size + 3 ≤ wr.heap.size ∧ Below w.heap.size w wr) (fun i _ => cn - (intOf i).toNat)
     case atStart => exact ⟨0, none, 0, [], by omega, rfl, HX0.out, HY0.out, HP0.out, rfl, ⟨rfl, .inl ⟨rfl, rfl⟩⟩, fun w' _ => by simp [RdAs], by rw [HSZ.out]; omega, HB0.out⟩
     case round =>
       obtain ⟨q, vo, vc, css, hq, rfl, hx, hy, hp, hcl, hown, hel, hsz, hbel⟩ := hrel
       obtain ⟨wo, rfl⟩ : ∃ wo : World, wo = wr := ⟨_, rfl⟩
       have HX := Lib.hid hx
       have HY := Lib.hid hy
       have HP := Lib.hid hp
       have HCL := Lib.hid hcl
       have HO := Lib.hid hown
       have HE := Lib.hid hel
       have HZ := Lib.hid hsz
       have HB := Lib.hid hbel
       have hcx : wo.cell? ⟨w.heap.size, 0, none⟩ = some (.slice a1 m c1) := by rw [cell_of_row wo _ 0 _ _ _ hx]; rfl
       have hcp : wo.cell? ⟨w.heap.size + 1 + 1, 7, none⟩ = some (.slice vo q vc) := by rw [cell_of_row wo _ 7 _ _ _ hp]; rfl
       have hfp : wo.frozen? ⟨w.heap.size + 1 + 1, 7, none⟩ = false := frozen_of_row wo _ 7 _ _ hp
       clear hown hel hbel hsz hx hy hp hcl
       by_cases hlt : q < cn
       · have hltb : decide ((q : Int) < (cn : Int)) = true := by rw [decide_eq_true_eq]; omega
         have hlti : (q : Int) < (cn : Int) := by omega
         have HRW := Lib.hid (HR.out.kept HB.out)
         have HVW := Lib.hid (RdC.kept HV.out HB.out)
         have HCQ := fun W (h : Below wo.heap.size wo W) => Lib.hid (HC.out q W (by omega) (RdC.kept HVW.out h) (HRW.out.kept h))
         have HOF := Lib.hid (show ∀ i, i < w.heap.size + 3 → (Value.slice vo q vc).ownBlock ≠ some i from fun i h e => by have := own_base HO.out i e; omega)
         have HOL := Lib.hid (own_lt HO.out)
         have hw1 : IntKind.i64.wrap (3 * (at_ : Int)) = 3 * (at_ : Int) := IntWalk.i64_in _ (by omega)
         have hw2 : IntKind.i64.wrap (3 * (at_ : Int) + (q : Int)) = 3 * (at_ : Int) + (q : Int) := IntWalk.i64_in _ (by omega)
         have hw3 : IntKind.i64.wrap (3 * (at_ : Int) + (q : Int) + 1) = 3 * (at_ : Int) + (q : Int) + 1 := IntWalk.i64_in _ (by omega)
         have hw4 : IntKind.i64.wrap (D - 1) = D - 1 := IntWalk.i64_in _ (by omega)
         go_upto_region 19 with (fail)
         go_region_law
          (first
           | (go_simp; go_at_call 58; refine (HCQ _ ?_).out.mono ?_; (exact below_drw _ _); rintro e w2 ⟨cs, rfl, ha, hb2⟩; obtain ⟨k', c', o', vk', vn', u', a', n', m', a2', n2', m2', hcs⟩ := rdA1_shape ha; subst hcs; have HA := Lib.hid ha; have HB2 := Lib.hid (show Below wo.heap.size wo w2 from (below_drw _ wo).trans hb2); have dx2 : w2.cell? ⟨w.heap.size, 0, none⟩ = some (.slice a1 m c1) := (HB2.out.cell (World.block_lt_of_cell? _ _ hcx)).trans hcx; have dp2 : w2.cell? ⟨w.heap.size + 1 + 1, 7, none⟩ = some (.slice vo q vc) := (HB2.out.cell (World.block_lt_of_cell? _ _ hcp)).trans hcp; have dp3 := fun o => Lib.cell?_alloc_some (W := w2) o dp2; have dx3 := fun o => Lib.cell?_alloc_some (W := w2) o dx2; clear ha hb2)
           | (refine step_append_lies _ (by rfl) _ _ _ (by rfl) (w.heap.size + 3) 65 i0 _ 8 96 Try.underlying63 hi hz0 hz1 hz2 rfl (by omega) (.slice vo q vc) q css.flatten (by rfl) (own_kept (own_kept HO.out HB2.out) (below_alloc w2 _)) ⟨w2.heap.size, 0, none⟩ 1 1 [.int .i64 k', .int .i64 c', .int .i64 o', .bool u', .int .i64 vk', .int .i64 vn', .slice a' n' m', .slice a2' n2' m2'] (by rfl) (by rfl) (World.news_of_block (cs := #[.int .i64 k', .int .i64 c', .int .i64 o', .bool u', .int .i64 vk', .int .i64 vn', .slice a' n' m', .slice a2' n2' m2']) (t := 65) (fr := (0, 0)) (heap_alloc_new w2 _)) (by simp [Value.oneCell']) (by omega) (by unfold maxLen; omega) (by omega) (by have := HB2.out.size; have := HZ.out; simp; omega) (w2.heap.size + 1) (by simp) ?_; intro g cap1 w4 hown4 hgrow4 hat4 hlt4; have HO4 := Lib.hid hown4; have HG4 := Lib.hid hgrow4; have HAT := Lib.hid hat4; have H4 := Lib.hid (show ∀ i, i < wo.heap.size → (Value.slice vo q vc).ownBlock ≠ some i → w4.heap[i]? = wo.heap[i]? from fun i h1 h2 => (HG4.out.block i (by have := HB2.out.size; simp; omega) (fun e => h2 e.symm)).trans ((heap_alloc_old w2 _ (by have := HB2.out.size; omega)).trans (HB2.out.block i h1))); have hp4 : w4.heap[w.heap.size + 1 + 1]? = some (.cells #[.int .i64 (4), .int .i64 0, .int .i64 0, .bool false, .int .i64 0, .int .i64 0, .slice none 0 0, .slice vo q vc] 65 (0, 0)) := (H4.out _ (by have := HZ.out; omega) (HOF.out _ (by omega))).trans HP.out; have zc4 : w4.cell? ⟨w.heap.size + 1 + 1, 7, none⟩ = some (.slice vo q vc) := (cell_of_row w4 _ 7 _ _ _ hp4).trans rfl; have zx4 : w4.cell? ⟨w.heap.size, 0, none⟩ = some (.slice a1 m c1) := (cell_of_row w4 _ 0 _ _ _ ((H4.out _ (by have := HZ.out; omega) (HOF.out _ (by omega))).trans HX.out)).trans rfl; have zf4 : w4.frozen? ⟨w.heap.size + 1 + 1, 7, none⟩ = false := frozen_of_row w4 _ 7 _ _ hp4; have HP4 := Lib.hid hp4; clear hown4 hgrow4 hat4 hp4))
         all_goals
           go_wp2_with fail
           go_roundw
           case rel =>
             have hz := HZ.out
             have hs2 := HB2.out.size
             have hs4 := HG4.out.size
             have hs3 : (w2.alloc (.cells #[.int .i64 k', .int .i64 c', .int .i64 o', .bool u', .int .i64 vk', .int .i64 vn', .slice a' n' m', .slice a2' n2' m2'] 65)).heap.size = w2.heap.size + 1 := by simp
             rw [hs3] at hs4
             have hss : (w4.setCell ⟨w.heap.size + 1 + 1, 7, none⟩ (.slice (some ⟨g, 0, none⟩) (q + 1) cap1)).heap.size = w4.heap.size := by simp [World.setCell]
             have hoth : ∀ i, i ≠ w.heap.size + 1 + 1 → (w4.setCell ⟨w.heap.size + 1 + 1, 7, none⟩ (.slice (some ⟨g, 0, none⟩) (q + 1) cap1)).heap[i]? = w4.heap[i]? := fun i h => heap_setCell_other w4 ⟨w.heap.size + 1 + 1, 7, none⟩ i _ h
             have hgb : w.heap.size + 3 ≤ g := own_base HO4.out g rfl
             refine ⟨q + 1, some ⟨g, 0, none⟩, cap1, css ++ [[.int .i64 k', .int .i64 c', .int .i64 o', .bool u', .int .i64 vk', .int .i64 vn', .slice a' n' m', .slice a2' n2' m2']], by omega, by go_num, ?_, ?_, ?_, ?_, ?_, ?_, ?_, ?_⟩
             · exact (hoth _ (by omega)).trans ((H4.out _ (by omega) (HOF.out _ (by omega))).trans HX.out)
             · exact (hoth _ (by omega)).trans ((H4.out _ (by omega) (HOF.out _ (by omega))).trans HY.out)
             · exact heap_setCell_same w4 _ 7 _ _ _ HP4.out
             · rw [List.length_append, HCL.out]; rfl
             · have := HO4.out.kept (grown_setCell w4 ⟨w.heap.size + 1 + 1, 7, none⟩ (.slice (some ⟨g, 0, none⟩) (q + 1) cap1)) (.inr (fun e => by have := Option.some.inj e; show False; simp only at this; omega))
               rw [List.flatten_append]
               simpa using this
             · rw [range_snoc]
               exact elems_step (w2 := w2) (w3 := w2.alloc (.cells #[.int .i64 k', .int .i64 c', .int .i64 o', .bool u', .int .i64 vk', .int .i64 vn', .slice a' n' m', .slice a2' n2' m2'] 65)) (w4 := w4) HE.out (by omega) HOL.out HB2.out HA.out (fun i h => heap_alloc_old w2 _ h) (by rw [hs3]; omega) (fun i h1 h2 => HG4.out.block i h1 (fun e => h2 e.symm)) (fun i h => hoth i h) (by rw [hss, hs3]; omega) (by omega) rfl (by rw [hs3]; exact HAT.out)
             · rw [hss]; omega
             · exact ((((HB.out.trans (HB2.out.mono HB.out.size)).alloc (by have := HB.out.size; omega) _).grown HG4.out (by rw [hs3]; have := HB.out.size; omega) (fun k e => by have := own_base HO.out k e; omega)).setCell (p := ⟨w.heap.size + 1 + 1, 7, none⟩) (by show _ ≤ w.heap.size + 1 + 1; omega) _)
           case measure => simp [intOf]; omega
       · have hqc : q = cn := by omega
         have hltb : decide ((q : Int) < (cn : Int)) = false := by rw [decide_eq_false_iff_not]; omega
         have hlti : ¬ (q : Int) < (cn : Int) := by omega
         have HQC := Lib.hid hqc
         clear hqc
         have hpw := HP.out
         have hyw := HY.out
         have zc0 : (wo).cell? ⟨w.heap.size + 1, 0, none⟩ = some (.int .i64 0) := by rw [cell_of_row (wo) (w.heap.size + 1) 0 _ _ _ (hyw)]; rfl
         have zf0 : (wo).frozen? ⟨w.heap.size + 1, 0, none⟩ = false := frozen_of_row (wo) (w.heap.size + 1) 0 _ _ (hyw)
         have zc1 : (wo).cell? ⟨w.heap.size + 1, 1, none⟩ = some (.int .i64 0) := by rw [cell_of_row (wo) (w.heap.size + 1) 1 _ _ _ (hyw)]; rfl
         have zf1 : (wo).frozen? ⟨w.heap.size + 1, 1, none⟩ = false := frozen_of_row (wo) (w.heap.size + 1) 1 _ _ (hyw)
         have zc2 : (wo).cell? ⟨w.heap.size + 1, 2, none⟩ = some (.int .i64 0) := by rw [cell_of_row (wo) (w.heap.size + 1) 2 _ _ _ (hyw)]; rfl
         have zf2 : (wo).frozen? ⟨w.heap.size + 1, 2, none⟩ = false := frozen_of_row (wo) (w.heap.size + 1) 2 _ _ (hyw)
         have zc3 : (wo).cell? ⟨w.heap.size + 1, 3, none⟩ = some (.bool false) := by rw [cell_of_row (wo) (w.heap.size + 1) 3 _ _ _ (hyw)]; rfl
         have zf3 : (wo).frozen? ⟨w.heap.size + 1, 3, none⟩ = false := frozen_of_row (wo) (w.heap.size + 1) 3 _ _ (hyw)
         have zc4 : (wo).cell? ⟨w.heap.size + 1, 4, none⟩ = some (.int .i64 0) := by rw [cell_of_row (wo) (w.heap.size + 1) 4 _ _ _ (hyw)]; rfl
         have zf4 : (wo).frozen? ⟨w.heap.size + 1, 4, none⟩ = false := frozen_of_row (wo) (w.heap.size + 1) 4 _ _ (hyw)
         have zc5 : (wo).cell? ⟨w.heap.size + 1, 5, none⟩ = some (.int .i64 0) := by rw [cell_of_row (wo) (w.heap.size + 1) 5 _ _ _ (hyw)]; rfl
         have zf5 : (wo).frozen? ⟨w.heap.size + 1, 5, none⟩ = false := frozen_of_row (wo) (w.heap.size + 1) 5 _ _ (hyw)
         have zc6 : (wo).cell? ⟨w.heap.size + 1, 6, none⟩ = some (.slice none 0 0) := by rw [cell_of_row (wo) (w.heap.size + 1) 6 _ _ _ (hyw)]; rfl
         have zf6 : (wo).frozen? ⟨w.heap.size + 1, 6, none⟩ = false := frozen_of_row (wo) (w.heap.size + 1) 6 _ _ (hyw)
         have zc7 : (wo).cell? ⟨w.heap.size + 1, 7, none⟩ = some (.slice none 0 0) := by rw [cell_of_row (wo) (w.heap.size + 1) 7 _ _ _ (hyw)]; rfl
         have zf7 : (wo).frozen? ⟨w.heap.size + 1, 7, none⟩ = false := frozen_of_row (wo) (w.heap.size + 1) 7 _ _ (hyw)
         have pc0 : (wo).cell? ⟨w.heap.size + 1 + 1, 0, none⟩ = some (.int .i64 4) := by rw [cell_of_row (wo) (w.heap.size + 1 + 1) 0 _ _ _ (hpw)]; rfl
         have pf0 : (wo).frozen? ⟨w.heap.size + 1 + 1, 0, none⟩ = false := frozen_of_row (wo) (w.heap.size + 1 + 1) 0 _ _ (hpw)
         have pc1 : (wo).cell? ⟨w.heap.size + 1 + 1, 1, none⟩ = some (.int .i64 0) := by rw [cell_of_row (wo) (w.heap.size + 1 + 1) 1 _ _ _ (hpw)]; rfl
         have pf1 : (wo).frozen? ⟨w.heap.size + 1 + 1, 1, none⟩ = false := frozen_of_row (wo) (w.heap.size + 1 + 1) 1 _ _ (hpw)
         have pc2 : (wo).cell? ⟨w.heap.size + 1 + 1, 2, none⟩ = some (.int .i64 0) := by rw [cell_of_row (wo) (w.heap.size + 1 + 1) 2 _ _ _ (hpw)]; rfl
         have pf2 : (wo).frozen? ⟨w.heap.size + 1 + 1, 2, none⟩ = false := frozen_of_row (wo) (w.heap.size + 1 + 1) 2 _ _ (hpw)
         have pc3 : (wo).cell? ⟨w.heap.size + 1 + 1, 3, none⟩ = some (.bool false) := by rw [cell_of_row (wo) (w.heap.size + 1 + 1) 3 _ _ _ (hpw)]; rfl
         have pf3 : (wo).frozen? ⟨w.heap.size + 1 + 1, 3, none⟩ = false := frozen_of_row (wo) (w.heap.size + 1 + 1) 3 _ _ (hpw)
         have pc4 : (wo).cell? ⟨w.heap.size + 1 + 1, 4, none⟩ = some (.int .i64 0) := by rw [cell_of_row (wo) (w.heap.size + 1 + 1) 4 _ _ _ (hpw)]; rfl
         have pf4 : (wo).frozen? ⟨w.heap.size + 1 + 1, 4, none⟩ = false := frozen_of_row (wo) (w.heap.size + 1 + 1) 4 _ _ (hpw)
         have pc5 : (wo).cell? ⟨w.heap.size + 1 + 1, 5, none⟩ = some (.int .i64 0) := by rw [cell_of_row (wo) (w.heap.size + 1 + 1) 5 _ _ _ (hpw)]; rfl
         have pf5 : (wo).frozen? ⟨w.heap.size + 1 + 1, 5, none⟩ = false := frozen_of_row (wo) (w.heap.size + 1 + 1) 5 _ _ (hpw)
         have pc6 : (wo).cell? ⟨w.heap.size + 1 + 1, 6, none⟩ = some (.slice none 0 0) := by rw [cell_of_row (wo) (w.heap.size + 1 + 1) 6 _ _ _ (hpw)]; rfl
         have pf6 : (wo).frozen? ⟨w.heap.size + 1 + 1, 6, none⟩ = false := frozen_of_row (wo) (w.heap.size + 1 + 1) 6 _ _ (hpw)
         have pc7 : (wo).cell? ⟨w.heap.size + 1 + 1, 7, none⟩ = some (.slice vo q vc) := by rw [cell_of_row (wo) (w.heap.size + 1 + 1) 7 _ _ _ (hpw)]; rfl
         have pf7 : (wo).frozen? ⟨w.heap.size + 1 + 1, 7, none⟩ = false := frozen_of_row (wo) (w.heap.size + 1 + 1) 7 _ _ (hpw)
         clear hpw hyw
         go_wp2_with fail
         refine bodyPost_ret (results_cell_row rfl _ _ (w.heap.size + 1) _ _ (0, 0) _ rfl (eight_heap HY.out) Try.underlying65 rfl infoPred8) rfl ?_
         have hz := HZ.out
         have hset : ∀ i u (wx : World), Above (w.heap.size + 3) wo wx → Above (w.heap.size + 3) wo (wx.setCell ⟨w.heap.size + 1, i, none⟩ u) := fun i u wx h => above_set h _ _ (by show w.heap.size + 1 < _; omega)
         have hab := hset 7 (.slice vo q vc) _ (hset 6 (.slice none 0 0) _ (hset 5 (.int .i64 0) _ (hset 4 (.int .i64 0) _ (hset 3 (.bool false) _ (hset 2 (.int .i64 0) _ (hset 1 (.int .i64 0) _ (hset 0 (.int .i64 4) _ (Above.refl _ wo))))))))
         have hE := HE.out wo (part_refl _ _ _)
         refine ⟨cellsP 4 0 0 nilV (.slice none 0 0) (.slice vo q vc), rfl, ?_, ?_⟩
         · unfold RdA1
           refine ⟨.slice none 0 0, .slice vo q vc, css, rfl, ⟨⟨none, 0, rfl, ⟨fun _ => rfl, by simp [nilV]⟩, fun h => absurd h (by simp [nilV])⟩, fun x hx => by simp [nilV] at hx⟩, ?_, ?_⟩
           · exact (rdSK_own HO.out HCL.out.symm (rdAs_each hE)).above hab (by omega)
           · first | rw [HCN.out, ← HQC.out] | rw [← HQC.out]
             exact RdAs.above hab (by omega) _ hE
         · have hgs : ∀ i u (wx : World), Below w.heap.size w wx → Below w.heap.size w (wx.setCell ⟨w.heap.size + 1, i, none⟩ u) := fun i u wx h => h.setCell (p := ⟨w.heap.size + 1, i, none⟩) (by show _ ≤ w.heap.size + 1; omega) _
           exact hgs _ _ _ (hgs _ _ _ (hgs _ _ _ (hgs _ _ _ (hgs _ _ _ (hgs _ _ _ (hgs _ _ _ (hgs _ _ _ HB.out)))))))

set_option maxRecDepth 100000 in
set_option maxHeartbeats 8000000 in
theorem pred_list6 (cols : List Co) (hc0 : 0 < cols.length) (hc6 : cols.length ≤ 6) (l : List Int) (sv : Value) (oa : Option Addr) (ln oc : Nat) (d at_ : Nat) (ih : LawOK cols l d) (D : Int) (hD : D = ((d + 1 : Nat) : Int)) (hd : d ≤ 10) (hln : ln = l.length) (n K : Int) (hn : nOf l at_ = n) (hK : kOf n (d + 1) = K) (h01 : K = 6) (w : World) (hv : RdC w sv cols) (hr : Rd w (.slice oa ln oc) (l.map (Value.int .i64))) (hbb : (at_ + 1) * 4 ^ (d + 1) ≤ 100000) :
    Calls Try.prog 58 #[.agg #[sv], .slice oa ln oc, .int .i64 (at_ : Int), .int .i64 D] w fun e w' => ∃ cs', e = .returned (.agg cs'.toArray) ∧ RdA1 w.heap.size w' (.mk 5 0 0 nilV ((List.range (n / 2048 % 4).toNat).map fun i => predOf cols l d (3 * at_ + i + 1))) cs' ∧ Below w.heap.size w w' := by
  have hb := lawp_le hbb
  have H01 := Lib.hid h01
  clear h01
  obtain ⟨a1, c1, rfl⟩ := rdC_shape hv
  obtain ⟨m, hM⟩ : ∃ m, m = cols.length := ⟨_, rfl⟩
  rw [← hM] at hv hc0 hc6 ⊢
  have HM := Lib.hid hM
  have HLN := Lib.hid hln
  have HV := Lib.hid hv
  clear hM hv hln
  obtain ⟨cI, hcI⟩ : ∃ cI, cI = colOf cols n := ⟨_, rfl⟩
  have hcm : cI < m := by rw [hcI, colOf, ← HM.out]; exact Nat.mod_lt _ hc0
  have HCI := Lib.hid hcI
  clear hcI
  have HC := Lib.hid (show ∀ (q : Nat) (W : World), q ≤ 2 → RdC W (.slice a1 m c1) cols → Rd W (.slice oa ln oc) (l.map (Value.int .i64)) → Calls Try.prog 58 #[.agg #[.slice a1 m c1], .slice oa ln oc, .int .i64 (3 * (at_ : Int) + (q : Int) + 1), .int .i64 (D - 1)] W fun e w' => ∃ cs', e = .returned (.agg cs'.toArray) ∧ RdA1 W.heap.size w' (predOf cols l d (3 * at_ + q + 1)) cs' ∧ Below W.heap.size W w' by
    intro q W hq h1 h2
    have := ih (3 * at_ + q + 1) (.slice a1 m c1) oa ln oc W (lawp_mul hbb (by omega)) HLN.out h1 h2
    rw [show ((3 * at_ + q + 1 : Nat) : Int) = 3 * (at_ : Int) + (q : Int) + 1 by omega, show (d : Int) = D - 1 by omega] at this
    exact this)
  have hDb : 1 ≤ D ∧ D ≤ 11 := by omega
  obtain ⟨hD1, hD2⟩ := hDb
  clear ih hbb
  have b7 : ∀ x, bits .and .i64 x 7 = x % 8 := fun x => and_low x 3 (by decide) 7 rfl
  have b255 : ∀ x, bits .and .i64 x 255 = x % 256 := fun x => and_low x 8 (by decide) 255 rfl
  have b3 : ∀ x, bits .and .i64 x 3 = x % 4 := fun x => and_low x 2 (by decide) 3 rfl
  have b15 : ∀ x, bits .and .i64 x 15 = x % 16 := fun x => and_low x 4 (by decide) 15 rfl
  have HN := Lib.hid hn
  have HK := Lib.hid hK
  have HR := Lib.hid hr
  have HDD := Lib.hid hD
  clear hn hK hr hD
  go_enter Try.func58, Try.ntmps58
  go_upto_if 21 with (fail)
  go_cut [9] (fun s wx => s = .int .i64 n ∧ wx = (w.alloc (.cells #[.slice a1 m c1] 25)).alloc (.cells #[.int .i64 0, .int .i64 0, .int .i64 0, .bool false, .int .i64 0, .int .i64 0, .slice none 0 0, .slice none 0 0] 65))
  case first =>
    by_cases hat : at_ < l.length
    · have hlt : decide ((at_ : Int) < (ln : Int)) = true := by rw [decide_eq_true_eq]; have := HLN.out; omega
      have hlt3 : at_ < ln := by have := HLN.out; omega
      have hlt4 : decide (at_ < ln) = true := by rw [decide_eq_true_eq]; exact hlt3
      have hlt2 : (at_ : Int) < (ln : Int) := by have := HLN.out; omega
      have hl0 : (0 : Int) ≤ (at_ : Int) := by omega
      obtain ⟨b, off, rfl, hcells⟩ := (rdz_cells HR.out).2 (by have := HLN.out; omega)
      have hcell : w.cell? ⟨b, off + at_, none⟩ = some (.int .i64 n) := by
        rw [hcells at_ (by have := HLN.out; omega), ← HN.out, nOf_in hat]
      have hca := fun o => Lib.cell?_alloc_some (W := w) o hcell
      have hcb := fun o1 o2 => Lib.cell?_alloc_some (W := w.alloc o1) o2 (hca o1)
      clear hcells
      go_wp2_with fail
      go_meet
      first | exact ⟨rfl, rfl⟩ | exact ⟨by rw [q3], rfl⟩
    · have hne : (at_ : Int) * 7919 = n := by rw [← HN.out, nOf_out hat hb]
      have hlt : decide ((at_ : Int) < (ln : Int)) = false := by rw [decide_eq_false_iff_not]; have := HLN.out; omega
      have hlt4 : decide (at_ < ln) = false := by rw [decide_eq_false_iff_not]; have := HLN.out; omega
      have hlt5 : ¬ at_ < ln := by have := HLN.out; omega
      go_wp2_with fail
      go_meet
      exact ⟨by rw [hne], rfl⟩
  case rest =>
   obtain ⟨rfl, rfl⟩ := hcut
   go_upto_region 5 with (fail)
   go_cut [33] (fun s wx => s = .bool (decide (D ≤ 1 ∧ 4 < n % 8)) ∧ wx = (w.alloc (.cells #[.slice a1 m c1] 25)).alloc (.cells #[.int .i64 0, .int .i64 0, .int .i64 0, .bool false, .int .i64 0, .int .i64 0, .slice none 0 0, .slice none 0 0] 65))
   case first =>
     by_cases q1 : D ≤ 1
     · by_cases q2 : 4 < n % 8
       · have q3 : decide (D ≤ 1 ∧ 4 < n % 8) = true := by rw [decide_eq_true_eq]; exact ⟨q1, q2⟩
         go_wp2_with fail
         go_meet
         first | exact ⟨rfl, rfl⟩ | exact ⟨by rw [q3], rfl⟩
       · have q3 : decide (D ≤ 1 ∧ 4 < n % 8) = false := by rw [decide_eq_false_iff_not]; exact fun h => q2 h.2
         go_wp2_with fail
         go_meet
         first | exact ⟨rfl, rfl⟩ | exact ⟨by rw [q3], rfl⟩
     · have q3 : decide (D ≤ 1 ∧ 4 < n % 8) = false := by rw [decide_eq_false_iff_not]; exact fun h => q1 h.1
       go_wp2_with fail
       go_meet
       first | exact ⟨rfl, rfl⟩ | exact ⟨by rw [q3], rfl⟩
   case rest =>
    obtain ⟨rfl, rfl⟩ := hcut
    obtain ⟨B, hB⟩ : ∃ B, B = decide (D ≤ 1 ∧ 4 < n % 8) := ⟨_, rfl⟩
    rw [← hB]
    have HBB := Lib.hid hB
    clear hB
    go_upto_if 33 with (fail)
    go_cut [10] (fun s wx => s = .int .i64 K ∧ wx = (w.alloc (.cells #[.slice a1 m c1] 25)).alloc (.cells #[.int .i64 0, .int .i64 0, .int .i64 0, .bool false, .int .i64 0, .int .i64 0, .slice none 0 0, .slice none 0 0] 65))
    case first =>
      have hk8 := kOf_cases HDD.out HK.out
      rcases B with _ | _
      · have q3 : n % 8 = K := by
          have := HBB.out.symm
          rw [decide_eq_false_iff_not] at this
          omega
        clear hk8
        go_wp2_with fail
        go_meet
        first | exact ⟨rfl, rfl⟩ | exact ⟨by rw [q3], rfl⟩
      · have q3 : n % 8 - 4 = K := by
          have := HBB.out.symm
          rw [decide_eq_true_eq] at this
          omega
        clear hk8
        go_wp2_with fail
        go_meet
        first | exact ⟨rfl, rfl⟩ | exact ⟨by rw [q3], rfl⟩
    case rest =>
     obtain ⟨rfl, rfl⟩ := hcut
     have hrem := tmod_col (n := n) cols HM.out
     rw [← HCI.out] at hrem
     have hm0 : ¬ (m : Int) = 0 := by omega
     have h01 := H01.out
     subst h01
     obtain ⟨cn, hcn⟩ : ∃ cn : Nat, n / 2048 % 4 = (cn : Int) := ⟨(n / 2048 % 4).toNat, by omega⟩
     have hcn3 : cn ≤ 3 := by omega
     have HCN := Lib.hid (show (n / 2048 % 4).toNat = cn by omega)
     obtain ⟨i0, hi, hz0, hz1, hz2⟩ := info_parts infoPred
     have HR0 := Lib.hid (HR.out.kept (below3 w (.cells #[.slice a1 m c1] 25) (.cells #[.int .i64 0, .int .i64 0, .int .i64 0, .bool false, .int .i64 0, .int .i64 0, .slice none 0 0, .slice none 0 0] 65) (.cells #[.int .i64 (5), .int .i64 0, .int .i64 0, .bool false, .int .i64 0, .int .i64 0, .slice none 0 0, .slice none 0 0] 65)))
     have HV0 := Lib.hid (RdC.kept HV.out (below3 w (.cells #[.slice a1 m c1] 25) (.cells #[.int .i64 0, .int .i64 0, .int .i64 0, .bool false, .int .i64 0, .int .i64 0, .slice none 0 0, .slice none 0 0] 65) (.cells #[.int .i64 (5), .int .i64 0, .int .i64 0, .bool false, .int .i64 0, .int .i64 0, .slice none 0 0, .slice none 0 0] 65)))
     have HX0 := Lib.hid (show (((w.alloc (.cells #[.slice a1 m c1] 25)).alloc (.cells #[.int .i64 0, .int .i64 0, .int .i64 0, .bool false, .int .i64 0, .int .i64 0, .slice none 0 0, .slice none 0 0] 65)).alloc (.cells #[.int .i64 (5), .int .i64 0, .int .i64 0, .bool false, .int .i64 0, .int .i64 0, .slice none 0 0, .slice none 0 0] 65)).heap[w.heap.size]? = some (.cells #[.slice a1 m c1] 25 (0, 0)) from (heap_alloc_old _ _ (by simp; try omega)).trans ((heap_alloc_old _ _ (by simp)).trans (heap_alloc_new w _)))
     have HY0 := Lib.hid (heap3 w (.cells #[.slice a1 m c1] 25) (.cells #[.int .i64 0, .int .i64 0, .int .i64 0, .bool false, .int .i64 0, .int .i64 0, .slice none 0 0, .slice none 0 0] 65) (.cells #[.int .i64 (5), .int .i64 0, .int .i64 0, .bool false, .int .i64 0, .int .i64 0, .slice none 0 0, .slice none 0 0] 65))
     have HP0 := Lib.hid (heaps3 w (.cells #[.slice a1 m c1] 25) (.cells #[.int .i64 0, .int .i64 0, .int .i64 0, .bool false, .int .i64 0, .int .i64 0, .slice none 0 0, .slice none 0 0] 65) (.cells #[.int .i64 (5), .int .i64 0, .int .i64 0, .bool false, .int .i64 0, .int .i64 0, .slice none 0 0, .slice none 0 0] 65)).2
     have HSZ := Lib.hid (show (((w.alloc (.cells #[.slice a1 m c1] 25)).alloc (.cells #[.int .i64 0, .int .i64 0, .int .i64 0, .bool false, .int .i64 0, .int .i64 0, .slice none 0 0, .slice none 0 0] 65)).alloc (.cells #[.int .i64 (5), .int .i64 0, .int .i64 0, .bool false, .int .i64 0, .int .i64 0, .slice none 0 0, .slice none 0 0] 65)).heap.size = w.heap.size + 3 by simp)
     have HB0 := Lib.hid (below3 w (.cells #[.slice a1 m c1] 25) (.cells #[.int .i64 0, .int .i64 0, .int .i64 0, .bool false, .int .i64 0, .int .i64 0, .slice none 0 0, .slice none 0 0] 65) (.cells #[.int .i64 (5), .int .i64 0, .int .i64 0, .bool false, .int .i64 0, .int .i64 0, .slice none 0 0, .slice none 0 0] 65))
     go_wp2_with fail
     go_loopw [13] (fun i wr => ∃ (q : Nat) (vo : Option Addr) (vc : Nat) (css : List (List Value)), q ≤ cn ∧ i = .int .i64 (q : Int) ∧ wr.heap[w.heap.size]? = some (.cells #[.slice a1 m c1] 25 (0, 0)) ∧ wr.heap[w.heap.size + 1]? = some (.cells #[.int .i64 0, .int .i64 0, .int .i64 0, .bool false, .int .i64 0, .int .i64 0, .slice none 0 0, .slice none 0 0] 65 (0, 0)) ∧ wr.heap[w.heap.size + 2]? = some (.cells #[.int .i64 (5), .int .i64 0, .int .i64 0, .bool false, .int .i64 0, .int .i64 0, .slice none 0 0, .slice vo q vc] 65 (0, 0)) ∧ css.length = q ∧ wr.ownsRow (w.heap.size + 3) 65 8 (.slice vo q vc) q css.flatten ∧ (∀ w', Part (w.heap.size + 2) (.slice vo q vc) wr w' → RdAs (w.heap.size + 3) w' ((List.range q).map fun i => predOf cols l d (3 * at_ + i + 1)) css) ∧ w.heap.size + 3 ≤ wr.heap.size ∧ Below w.heap.size w wr) (fun i _ => cn - (intOf i).toNat)
     case atStart => exact ⟨0, none, 0, [], by omega, rfl, HX0.out, HY0.out, HP0.out, rfl, ⟨rfl, .inl ⟨rfl, rfl⟩⟩, fun w' _ => by simp [RdAs], by rw [HSZ.out]; omega, HB0.out⟩
     case round =>
       obtain ⟨q, vo, vc, css, hq, rfl, hx, hy, hp, hcl, hown, hel, hsz, hbel⟩ := hrel
       obtain ⟨wo, rfl⟩ : ∃ wo : World, wo = wr := ⟨_, rfl⟩
       have HX := Lib.hid hx
       have HY := Lib.hid hy
       have HP := Lib.hid hp
       have HCL := Lib.hid hcl
       have HO := Lib.hid hown
       have HE := Lib.hid hel
       have HZ := Lib.hid hsz
       have HB := Lib.hid hbel
       have hcx : wo.cell? ⟨w.heap.size, 0, none⟩ = some (.slice a1 m c1) := by rw [cell_of_row wo _ 0 _ _ _ hx]; rfl
       have hcp : wo.cell? ⟨w.heap.size + 1 + 1, 7, none⟩ = some (.slice vo q vc) := by rw [cell_of_row wo _ 7 _ _ _ hp]; rfl
       have hfp : wo.frozen? ⟨w.heap.size + 1 + 1, 7, none⟩ = false := frozen_of_row wo _ 7 _ _ hp
       clear hown hel hbel hsz hx hy hp hcl
       by_cases hlt : q < cn
       · have hltb : decide ((q : Int) < (cn : Int)) = true := by rw [decide_eq_true_eq]; omega
         have hlti : (q : Int) < (cn : Int) := by omega
         have HRW := Lib.hid (HR.out.kept HB.out)
         have HVW := Lib.hid (RdC.kept HV.out HB.out)
         have HCQ := fun W (h : Below wo.heap.size wo W) => Lib.hid (HC.out q W (by omega) (RdC.kept HVW.out h) (HRW.out.kept h))
         have HOF := Lib.hid (show ∀ i, i < w.heap.size + 3 → (Value.slice vo q vc).ownBlock ≠ some i from fun i h e => by have := own_base HO.out i e; omega)
         have HOL := Lib.hid (own_lt HO.out)
         have hw1 : IntKind.i64.wrap (3 * (at_ : Int)) = 3 * (at_ : Int) := IntWalk.i64_in _ (by omega)
         have hw2 : IntKind.i64.wrap (3 * (at_ : Int) + (q : Int)) = 3 * (at_ : Int) + (q : Int) := IntWalk.i64_in _ (by omega)
         have hw3 : IntKind.i64.wrap (3 * (at_ : Int) + (q : Int) + 1) = 3 * (at_ : Int) + (q : Int) + 1 := IntWalk.i64_in _ (by omega)
         have hw4 : IntKind.i64.wrap (D - 1) = D - 1 := IntWalk.i64_in _ (by omega)
         go_upto_region 19 with (fail)
         go_region_law
          (first
           | (go_simp; go_at_call 58; refine (HCQ _ ?_).out.mono ?_; (exact below_drw _ _); rintro e w2 ⟨cs, rfl, ha, hb2⟩; obtain ⟨k', c', o', vk', vn', u', a', n', m', a2', n2', m2', hcs⟩ := rdA1_shape ha; subst hcs; have HA := Lib.hid ha; have HB2 := Lib.hid (show Below wo.heap.size wo w2 from (below_drw _ wo).trans hb2); have dx2 : w2.cell? ⟨w.heap.size, 0, none⟩ = some (.slice a1 m c1) := (HB2.out.cell (World.block_lt_of_cell? _ _ hcx)).trans hcx; have dp2 : w2.cell? ⟨w.heap.size + 1 + 1, 7, none⟩ = some (.slice vo q vc) := (HB2.out.cell (World.block_lt_of_cell? _ _ hcp)).trans hcp; have dp3 := fun o => Lib.cell?_alloc_some (W := w2) o dp2; have dx3 := fun o => Lib.cell?_alloc_some (W := w2) o dx2; clear ha hb2)
           | (refine step_append_lies _ (by rfl) _ _ _ (by rfl) (w.heap.size + 3) 65 i0 _ 8 96 Try.underlying63 hi hz0 hz1 hz2 rfl (by omega) (.slice vo q vc) q css.flatten (by rfl) (own_kept (own_kept HO.out HB2.out) (below_alloc w2 _)) ⟨w2.heap.size, 0, none⟩ 1 1 [.int .i64 k', .int .i64 c', .int .i64 o', .bool u', .int .i64 vk', .int .i64 vn', .slice a' n' m', .slice a2' n2' m2'] (by rfl) (by rfl) (World.news_of_block (cs := #[.int .i64 k', .int .i64 c', .int .i64 o', .bool u', .int .i64 vk', .int .i64 vn', .slice a' n' m', .slice a2' n2' m2']) (t := 65) (fr := (0, 0)) (heap_alloc_new w2 _)) (by simp [Value.oneCell']) (by omega) (by unfold maxLen; omega) (by omega) (by have := HB2.out.size; have := HZ.out; simp; omega) (w2.heap.size + 1) (by simp) ?_; intro g cap1 w4 hown4 hgrow4 hat4 hlt4; have HO4 := Lib.hid hown4; have HG4 := Lib.hid hgrow4; have HAT := Lib.hid hat4; have H4 := Lib.hid (show ∀ i, i < wo.heap.size → (Value.slice vo q vc).ownBlock ≠ some i → w4.heap[i]? = wo.heap[i]? from fun i h1 h2 => (HG4.out.block i (by have := HB2.out.size; simp; omega) (fun e => h2 e.symm)).trans ((heap_alloc_old w2 _ (by have := HB2.out.size; omega)).trans (HB2.out.block i h1))); have hp4 : w4.heap[w.heap.size + 1 + 1]? = some (.cells #[.int .i64 (5), .int .i64 0, .int .i64 0, .bool false, .int .i64 0, .int .i64 0, .slice none 0 0, .slice vo q vc] 65 (0, 0)) := (H4.out _ (by have := HZ.out; omega) (HOF.out _ (by omega))).trans HP.out; have zc4 : w4.cell? ⟨w.heap.size + 1 + 1, 7, none⟩ = some (.slice vo q vc) := (cell_of_row w4 _ 7 _ _ _ hp4).trans rfl; have zx4 : w4.cell? ⟨w.heap.size, 0, none⟩ = some (.slice a1 m c1) := (cell_of_row w4 _ 0 _ _ _ ((H4.out _ (by have := HZ.out; omega) (HOF.out _ (by omega))).trans HX.out)).trans rfl; have zf4 : w4.frozen? ⟨w.heap.size + 1 + 1, 7, none⟩ = false := frozen_of_row w4 _ 7 _ _ hp4; have HP4 := Lib.hid hp4; clear hown4 hgrow4 hat4 hp4))
         all_goals
           go_wp2_with fail
           go_roundw
           case rel =>
             have hz := HZ.out
             have hs2 := HB2.out.size
             have hs4 := HG4.out.size
             have hs3 : (w2.alloc (.cells #[.int .i64 k', .int .i64 c', .int .i64 o', .bool u', .int .i64 vk', .int .i64 vn', .slice a' n' m', .slice a2' n2' m2'] 65)).heap.size = w2.heap.size + 1 := by simp
             rw [hs3] at hs4
             have hss : (w4.setCell ⟨w.heap.size + 1 + 1, 7, none⟩ (.slice (some ⟨g, 0, none⟩) (q + 1) cap1)).heap.size = w4.heap.size := by simp [World.setCell]
             have hoth : ∀ i, i ≠ w.heap.size + 1 + 1 → (w4.setCell ⟨w.heap.size + 1 + 1, 7, none⟩ (.slice (some ⟨g, 0, none⟩) (q + 1) cap1)).heap[i]? = w4.heap[i]? := fun i h => heap_setCell_other w4 ⟨w.heap.size + 1 + 1, 7, none⟩ i _ h
             have hgb : w.heap.size + 3 ≤ g := own_base HO4.out g rfl
             refine ⟨q + 1, some ⟨g, 0, none⟩, cap1, css ++ [[.int .i64 k', .int .i64 c', .int .i64 o', .bool u', .int .i64 vk', .int .i64 vn', .slice a' n' m', .slice a2' n2' m2']], by omega, by go_num, ?_, ?_, ?_, ?_, ?_, ?_, ?_, ?_⟩
             · exact (hoth _ (by omega)).trans ((H4.out _ (by omega) (HOF.out _ (by omega))).trans HX.out)
             · exact (hoth _ (by omega)).trans ((H4.out _ (by omega) (HOF.out _ (by omega))).trans HY.out)
             · exact heap_setCell_same w4 _ 7 _ _ _ HP4.out
             · rw [List.length_append, HCL.out]; rfl
             · have := HO4.out.kept (grown_setCell w4 ⟨w.heap.size + 1 + 1, 7, none⟩ (.slice (some ⟨g, 0, none⟩) (q + 1) cap1)) (.inr (fun e => by have := Option.some.inj e; show False; simp only at this; omega))
               rw [List.flatten_append]
               simpa using this
             · rw [range_snoc]
               exact elems_step (w2 := w2) (w3 := w2.alloc (.cells #[.int .i64 k', .int .i64 c', .int .i64 o', .bool u', .int .i64 vk', .int .i64 vn', .slice a' n' m', .slice a2' n2' m2'] 65)) (w4 := w4) HE.out (by omega) HOL.out HB2.out HA.out (fun i h => heap_alloc_old w2 _ h) (by rw [hs3]; omega) (fun i h1 h2 => HG4.out.block i h1 (fun e => h2 e.symm)) (fun i h => hoth i h) (by rw [hss, hs3]; omega) (by omega) rfl (by rw [hs3]; exact HAT.out)
             · rw [hss]; omega
             · exact ((((HB.out.trans (HB2.out.mono HB.out.size)).alloc (by have := HB.out.size; omega) _).grown HG4.out (by rw [hs3]; have := HB.out.size; omega) (fun k e => by have := own_base HO.out k e; omega)).setCell (p := ⟨w.heap.size + 1 + 1, 7, none⟩) (by show _ ≤ w.heap.size + 1 + 1; omega) _)
           case measure => simp [intOf]; omega
       · have hqc : q = cn := by omega
         have hltb : decide ((q : Int) < (cn : Int)) = false := by rw [decide_eq_false_iff_not]; omega
         have hlti : ¬ (q : Int) < (cn : Int) := by omega
         have HQC := Lib.hid hqc
         clear hqc
         have hpw := HP.out
         have hyw := HY.out
         have zc0 : (wo).cell? ⟨w.heap.size + 1, 0, none⟩ = some (.int .i64 0) := by rw [cell_of_row (wo) (w.heap.size + 1) 0 _ _ _ (hyw)]; rfl
         have zf0 : (wo).frozen? ⟨w.heap.size + 1, 0, none⟩ = false := frozen_of_row (wo) (w.heap.size + 1) 0 _ _ (hyw)
         have zc1 : (wo).cell? ⟨w.heap.size + 1, 1, none⟩ = some (.int .i64 0) := by rw [cell_of_row (wo) (w.heap.size + 1) 1 _ _ _ (hyw)]; rfl
         have zf1 : (wo).frozen? ⟨w.heap.size + 1, 1, none⟩ = false := frozen_of_row (wo) (w.heap.size + 1) 1 _ _ (hyw)
         have zc2 : (wo).cell? ⟨w.heap.size + 1, 2, none⟩ = some (.int .i64 0) := by rw [cell_of_row (wo) (w.heap.size + 1) 2 _ _ _ (hyw)]; rfl
         have zf2 : (wo).frozen? ⟨w.heap.size + 1, 2, none⟩ = false := frozen_of_row (wo) (w.heap.size + 1) 2 _ _ (hyw)
         have zc3 : (wo).cell? ⟨w.heap.size + 1, 3, none⟩ = some (.bool false) := by rw [cell_of_row (wo) (w.heap.size + 1) 3 _ _ _ (hyw)]; rfl
         have zf3 : (wo).frozen? ⟨w.heap.size + 1, 3, none⟩ = false := frozen_of_row (wo) (w.heap.size + 1) 3 _ _ (hyw)
         have zc4 : (wo).cell? ⟨w.heap.size + 1, 4, none⟩ = some (.int .i64 0) := by rw [cell_of_row (wo) (w.heap.size + 1) 4 _ _ _ (hyw)]; rfl
         have zf4 : (wo).frozen? ⟨w.heap.size + 1, 4, none⟩ = false := frozen_of_row (wo) (w.heap.size + 1) 4 _ _ (hyw)
         have zc5 : (wo).cell? ⟨w.heap.size + 1, 5, none⟩ = some (.int .i64 0) := by rw [cell_of_row (wo) (w.heap.size + 1) 5 _ _ _ (hyw)]; rfl
         have zf5 : (wo).frozen? ⟨w.heap.size + 1, 5, none⟩ = false := frozen_of_row (wo) (w.heap.size + 1) 5 _ _ (hyw)
         have zc6 : (wo).cell? ⟨w.heap.size + 1, 6, none⟩ = some (.slice none 0 0) := by rw [cell_of_row (wo) (w.heap.size + 1) 6 _ _ _ (hyw)]; rfl
         have zf6 : (wo).frozen? ⟨w.heap.size + 1, 6, none⟩ = false := frozen_of_row (wo) (w.heap.size + 1) 6 _ _ (hyw)
         have zc7 : (wo).cell? ⟨w.heap.size + 1, 7, none⟩ = some (.slice none 0 0) := by rw [cell_of_row (wo) (w.heap.size + 1) 7 _ _ _ (hyw)]; rfl
         have zf7 : (wo).frozen? ⟨w.heap.size + 1, 7, none⟩ = false := frozen_of_row (wo) (w.heap.size + 1) 7 _ _ (hyw)
         have pc0 : (wo).cell? ⟨w.heap.size + 1 + 1, 0, none⟩ = some (.int .i64 5) := by rw [cell_of_row (wo) (w.heap.size + 1 + 1) 0 _ _ _ (hpw)]; rfl
         have pf0 : (wo).frozen? ⟨w.heap.size + 1 + 1, 0, none⟩ = false := frozen_of_row (wo) (w.heap.size + 1 + 1) 0 _ _ (hpw)
         have pc1 : (wo).cell? ⟨w.heap.size + 1 + 1, 1, none⟩ = some (.int .i64 0) := by rw [cell_of_row (wo) (w.heap.size + 1 + 1) 1 _ _ _ (hpw)]; rfl
         have pf1 : (wo).frozen? ⟨w.heap.size + 1 + 1, 1, none⟩ = false := frozen_of_row (wo) (w.heap.size + 1 + 1) 1 _ _ (hpw)
         have pc2 : (wo).cell? ⟨w.heap.size + 1 + 1, 2, none⟩ = some (.int .i64 0) := by rw [cell_of_row (wo) (w.heap.size + 1 + 1) 2 _ _ _ (hpw)]; rfl
         have pf2 : (wo).frozen? ⟨w.heap.size + 1 + 1, 2, none⟩ = false := frozen_of_row (wo) (w.heap.size + 1 + 1) 2 _ _ (hpw)
         have pc3 : (wo).cell? ⟨w.heap.size + 1 + 1, 3, none⟩ = some (.bool false) := by rw [cell_of_row (wo) (w.heap.size + 1 + 1) 3 _ _ _ (hpw)]; rfl
         have pf3 : (wo).frozen? ⟨w.heap.size + 1 + 1, 3, none⟩ = false := frozen_of_row (wo) (w.heap.size + 1 + 1) 3 _ _ (hpw)
         have pc4 : (wo).cell? ⟨w.heap.size + 1 + 1, 4, none⟩ = some (.int .i64 0) := by rw [cell_of_row (wo) (w.heap.size + 1 + 1) 4 _ _ _ (hpw)]; rfl
         have pf4 : (wo).frozen? ⟨w.heap.size + 1 + 1, 4, none⟩ = false := frozen_of_row (wo) (w.heap.size + 1 + 1) 4 _ _ (hpw)
         have pc5 : (wo).cell? ⟨w.heap.size + 1 + 1, 5, none⟩ = some (.int .i64 0) := by rw [cell_of_row (wo) (w.heap.size + 1 + 1) 5 _ _ _ (hpw)]; rfl
         have pf5 : (wo).frozen? ⟨w.heap.size + 1 + 1, 5, none⟩ = false := frozen_of_row (wo) (w.heap.size + 1 + 1) 5 _ _ (hpw)
         have pc6 : (wo).cell? ⟨w.heap.size + 1 + 1, 6, none⟩ = some (.slice none 0 0) := by rw [cell_of_row (wo) (w.heap.size + 1 + 1) 6 _ _ _ (hpw)]; rfl
         have pf6 : (wo).frozen? ⟨w.heap.size + 1 + 1, 6, none⟩ = false := frozen_of_row (wo) (w.heap.size + 1 + 1) 6 _ _ (hpw)
         have pc7 : (wo).cell? ⟨w.heap.size + 1 + 1, 7, none⟩ = some (.slice vo q vc) := by rw [cell_of_row (wo) (w.heap.size + 1 + 1) 7 _ _ _ (hpw)]; rfl
         have pf7 : (wo).frozen? ⟨w.heap.size + 1 + 1, 7, none⟩ = false := frozen_of_row (wo) (w.heap.size + 1 + 1) 7 _ _ (hpw)
         clear hpw hyw
         go_wp2_with fail
         refine bodyPost_ret (results_cell_row rfl _ _ (w.heap.size + 1) _ _ (0, 0) _ rfl (eight_heap HY.out) Try.underlying65 rfl infoPred8) rfl ?_
         have hz := HZ.out
         have hset : ∀ i u (wx : World), Above (w.heap.size + 3) wo wx → Above (w.heap.size + 3) wo (wx.setCell ⟨w.heap.size + 1, i, none⟩ u) := fun i u wx h => above_set h _ _ (by show w.heap.size + 1 < _; omega)
         have hab := hset 7 (.slice vo q vc) _ (hset 6 (.slice none 0 0) _ (hset 5 (.int .i64 0) _ (hset 4 (.int .i64 0) _ (hset 3 (.bool false) _ (hset 2 (.int .i64 0) _ (hset 1 (.int .i64 0) _ (hset 0 (.int .i64 5) _ (Above.refl _ wo))))))))
         have hE := HE.out wo (part_refl _ _ _)
         refine ⟨cellsP 5 0 0 nilV (.slice none 0 0) (.slice vo q vc), rfl, ?_, ?_⟩
         · unfold RdA1
           refine ⟨.slice none 0 0, .slice vo q vc, css, rfl, ⟨⟨none, 0, rfl, ⟨fun _ => rfl, by simp [nilV]⟩, fun h => absurd h (by simp [nilV])⟩, fun x hx => by simp [nilV] at hx⟩, ?_, ?_⟩
           · exact (rdSK_own HO.out HCL.out.symm (rdAs_each hE)).above hab (by omega)
           · first | rw [HCN.out, ← HQC.out] | rw [← HQC.out]
             exact RdAs.above hab (by omega) _ hE
         · have hgs : ∀ i u (wx : World), Below w.heap.size w wx → Below w.heap.size w (wx.setCell ⟨w.heap.size + 1, i, none⟩ u) := fun i u wx h => h.setCell (p := ⟨w.heap.size + 1, i, none⟩) (by show _ ≤ w.heap.size + 1; omega) _
           exact hgs _ _ _ (hgs _ _ _ (hgs _ _ _ (hgs _ _ _ (hgs _ _ _ (hgs _ _ _ (hgs _ _ _ (hgs _ _ _ HB.out)))))))

end Go.Proofs.Ytnfjdoeemnhkbaa

namespace Go.Proofs.Ytnfjdoeemnhkbaa
set_option linter.unusedVariables false
set_option linter.unusedSimpArgs false
open Go.RowKit

theorem kOf_range (n : Int) (d : Nat) : 0 ≤ kOf n d ∧ kOf n d ≤ 7 ∧ (d = 0 → kOf n d ≤ 4) := by
  unfold kOf
  split <;> omega
theorem rdB_none (K : Nat) (w : World) : RdB K w (.slice none 0 0) [] := ⟨none, 0, rfl, ⟨fun _ => rfl, by simp⟩, fun h => absurd h (by simp)⟩
theorem rdSK_none (K : Nat) (w : World) (sz : Nat) : RdSK K w sz (.slice none 0 0) [] := ⟨none, 0, rfl, ⟨fun _ => rfl, by simp⟩, fun k t h => by simp at h⟩
/-- A leaf without a value. -/
theorem rdA1_leaf (K : Nat) (w : World) (k c o : Int) : RdA1 K w (.mk k c o nilV []) (cellsP k c o nilV (.slice none 0 0) (.slice none 0 0)) := by
  unfold RdA1
  exact ⟨_, _, [], rfl, ⟨rdB_none K w, fun x hx => by simp [nilV] at hx⟩, rdSK_none K w 8, by unfold RdAs; trivial⟩

theorem leaf_any (cols : List Co) (hc0 : 0 < cols.length) (hc6 : cols.length ≤ 6) (l : List Int) (sv : Value) (oa : Option Addr) (ln oc : Nat) (d at_ : Nat) (hln : ln = l.length) (hK : kOf (nOf l at_) d ≤ 4) (w : World) (hv : RdC w sv cols) (hr : Rd w (.slice oa ln oc) (l.map (Value.int .i64))) (hb : at_ ≤ 100000) :
    Calls Try.prog 58 #[.agg #[sv], .slice oa ln oc, .int .i64 (at_ : Int), .int .i64 (d : Int)] w fun e w' => ∃ cs', e = .returned (.agg cs'.toArray) ∧ RdA1 w.heap.size w' (leafOf cols (nOf l at_) (kOf (nOf l at_) d)) cs' ∧ Below w.heap.size w w' := by
  obtain ⟨k0, k1, _⟩ := kOf_range (nOf l at_) d
  obtain ⟨K, hKK⟩ : ∃ K, kOf (nOf l at_) d = K := ⟨_, rfl⟩
  rw [hKK] at hK k0 k1 ⊢
  by_cases h01 : K = 0 ∨ K = 1
  · refine (pred_leaf01 cols hc0 hc6 l sv oa ln oc d at_ hln (nOf l at_) K rfl hKK h01 w hv hr hb).mono ?_
    rintro e w' ⟨rfl, hb'⟩
    unfold leafOf
    rcases h01 with rfl | rfl
    · exact ⟨cellsP 1 0 0 nilV (.slice none 0 0) (.slice none 0 0), rfl, rdA1_leaf _ _ _ _ _, hb'⟩
    · exact ⟨cellsP 3 (colOf cols (nOf l at_)) 0 nilV (.slice none 0 0) (.slice none 0 0), rfl, rdA1_leaf _ _ _ _ _, hb'⟩
  · refine (pred_leafc cols hc0 hc6 l sv oa ln oc d at_ (d : Int) rfl hln (nOf l at_) K rfl hKK (by omega) w hv hr hb).mono ?_
    rintro e w' ⟨s, rfl, hs, hb'⟩
    have e1 : leafOf cols (nOf l at_) K = .mk 2 (colOf cols (nOf l at_)) (nOf l at_ / 131072 % 256 % 6 + 1) (cmpV cols (nOf l at_)) [] := by
      unfold leafOf
      rw [if_neg (by omega), if_neg (by omega)]
    rw [e1]
    refine ⟨cellsP 2 (colOf cols (nOf l at_)) (nOf l at_ / 131072 % 256 % 6 + 1) (cmpV cols (nOf l at_)) s (.slice none 0 0), rfl, ?_, hb'⟩
    unfold RdA1
    exact ⟨_, _, [], rfl, hs, rdSK_none _ w' 8, by unfold RdAs; trivial⟩

theorem lawpred_any (cols : List Co) (hc0 : 0 < cols.length) (hc6 : cols.length ≤ 6) (l : List Int) : ∀ d, d ≤ 10 → LawOK cols l d := by
  intro d
  induction d with
  | zero =>
    intro _ at_ sv oa ln oc w hbb hln hv hr
    unfold predOf
    exact leaf_any cols hc0 hc6 l sv oa ln oc 0 at_ hln ((kOf_range _ 0).2.2 rfl) w hv hr (lawp_le hbb)
  | succ d ih =>
    intro hd at_ sv oa ln oc w hbb hln hv hr
    have ihd := ih (by omega)
    obtain ⟨k0, k1, _⟩ := kOf_range (nOf l at_) (d + 1)
    unfold predOf
    by_cases h5 : kOf (nOf l at_) (d + 1) = 5
    · rw [if_pos (.inl h5), h5]
      exact pred_list5 cols hc0 hc6 l sv oa ln oc d at_ ihd _ rfl (by omega) hln _ _ rfl rfl h5 w hv hr hbb
    · by_cases h6 : kOf (nOf l at_) (d + 1) = 6
      · rw [if_pos (.inr h6), h6]
        exact pred_list6 cols hc0 hc6 l sv oa ln oc d at_ ihd _ rfl (by omega) hln _ _ rfl rfl h6 w hv hr hbb
      · rw [if_neg (by omega)]
        by_cases h7 : kOf (nOf l at_) (d + 1) = 7
        · rw [if_pos h7]
          exact pred_neg cols hc0 hc6 l sv oa ln oc d at_ ihd _ rfl (by omega) hln _ _ rfl rfl h7 w hv hr hbb
        · rw [if_neg h7]
          exact leaf_any cols hc0 hc6 l sv oa ln oc (d + 1) at_ hln (by omega) w hv hr (lawp_le hbb)

end Go.Proofs.Ytnfjdoeemnhkbaa
