/-
  How many predicates there are of the law's; what the law's walk asks of its four predicates (plain).
-/
import Derived.Test.YtfmkalnnpddefaaWayf
import Derived.Test.YtfmkalnnpddefaaOkf
import Derived.Test.YtfmkalnnpddefaaNormKeys
namespace Go.Proofs.Ytfmkalnnpddefaa
set_option linter.unusedVariables false
set_option linter.unusedSimpArgs false
open Go.RowKit

theorem nodesL_le_mul : ∀ {l : List Pt} {b : Nat}, (∀ q ∈ l, nodesT q ≤ b) → nodesL l ≤ l.length * b
  | [], b, _ => by simp [nodesL]
  | q :: r, b, h => by
    have h1 := h q List.mem_cons_self
    have h2 := nodesL_le_mul (l := r) fun x hx => h x (List.mem_cons_of_mem _ hx)
    rw [nodesL, List.length_cons, Nat.add_mul]
    omega
theorem leafOf_nodes (cols : List Co) (n k : Int) : nodesT (leafOf cols n k) ≤ 1 := by
  unfold leafOf
  split
  · simp [nodesT, nodesL]
  · split <;> simp [nodesT, nodesL]
theorem predOf_nodes (cols : List Co) (l : List Int) : ∀ (d at_ : Nat), nodesT (predOf cols l d at_) ≤ 4 ^ d
  | 0, at_ => by unfold predOf; exact leafOf_nodes _ _ _
  | d + 1, at_ => by
    have ih := fun a => predOf_nodes cols l d a
    have hp : 1 ≤ 4 ^ d := Nat.pos_of_ne_zero (by simp)
    have hs : 4 ^ (d + 1) = 4 ^ d * 4 := Nat.pow_succ ..
    unfold predOf
    split
    · have h1 : ∀ q ∈ (List.range (nOf l at_ / 2048 % 4).toNat).map (fun i => predOf cols l d (3 * at_ + i + 1)), nodesT q ≤ 4 ^ d := fun q hq => by
        obtain ⟨i, _, rfl⟩ := List.mem_map.1 hq
        exact ih _
      have h3 := nodesL_le_mul h1
      rw [List.length_map, List.length_range] at h3
      have h4 : (nOf l at_ / 2048 % 4).toNat ≤ 3 := by omega
      have h5 := Nat.mul_le_mul_right (4 ^ d) h4
      rw [nodesT]
      omega
    · split
      · have := ih (3 * at_ + 1)
        simp only [nodesT, nodesL]
        omega
      · have := leafOf_nodes cols (nOf l at_) (kOf (nOf l at_) (d + 1))
        omega

/-- What the law asks of one of its predicates. -/
structure NTok (cols : List Co) (p : Pt) : Prop where
  dep : depT p ≤ 6
  cnt : cntT p ≤ 6300
  nod : nodesT p ≤ 1025
  good : goodP p
  right : RightOK cols p
  okr : okR cols p
theorem ntok_law {cols : List Co} (h : ColsOk cols) (l : List Int) : NTok cols (predOf cols l 4 0) := by
  have h1 := predOf_small cols l 4 0
  have h2 := predOf_nodes cols l 4 0
  have e1 : (4 : Nat) ^ 4 = 256 := by decide
  rw [e1] at h1 h2
  exact ⟨by omega, by omega, by omega, predOf_good h l 4 0, predOf_right h l 4 0, predOf_okR h l 4 0⟩
theorem ntok_and {cols : List Co} (h : ColsOk cols) (l m : List Int) : NTok cols (.mk 4 0 0 zeroV [predOf cols m 4 0, predOf cols l 4 0, predOf cols m 4 0]) := by
  have h1 := predOf_small cols l 4 0
  have h2 := predOf_nodes cols l 4 0
  have h3 := predOf_small cols m 4 0
  have h4 := predOf_nodes cols m 4 0
  have e1 : (4 : Nat) ^ 4 = 256 := by decide
  rw [e1] at h1 h2 h3 h4
  refine ⟨?_, ?_, ?_, ?_, ?_, ?_⟩
  · simp only [depT, depL]; omega
  · simp only [cntT, cntL, zeroV, List.length_nil, List.length_cons]; omega
  · simp only [nodesT, nodesL]; omega
  · unfold goodP
    refine ⟨by omega, fun h => by omega, fun h => by omega, by simp, goodL_of fun q hq => ?_⟩
    simp only [List.mem_cons, List.not_mem_nil, or_false] at hq
    rcases hq with rfl | rfl | rfl
    all_goals exact predOf_good h _ 4 0
  · refine right_list cols 4 (.inl rfl) _ (fun q hq => ?_) (by simp)
    simp only [List.mem_cons, List.not_mem_nil, or_false] at hq
    rcases hq with rfl | rfl | rfl
    all_goals exact predOf_right h _ 4 0
  · unfold okR
    refine ⟨fun h2 => by omega, okRs_of fun q hq => ?_⟩
    simp only [List.mem_cons, List.not_mem_nil, or_false] at hq
    rcases hq with rfl | rfl | rfl
    all_goals exact predOf_okR h _ 4 0
theorem ntok_not {cols : List Co} (h : ColsOk cols) (m : List Int) : NTok cols (.mk 6 0 0 zeroV [predOf cols m 4 0]) := by
  have h3 := predOf_small cols m 4 0
  have h4 := predOf_nodes cols m 4 0
  have e1 : (4 : Nat) ^ 4 = 256 := by decide
  rw [e1] at h3 h4
  refine ⟨?_, ?_, ?_, ?_, ?_, ?_⟩
  · simp only [depT, depL]; omega
  · simp only [cntT, cntL, zeroV, List.length_nil, List.length_cons]; omega
  · simp only [nodesT, nodesL]; omega
  · unfold goodP
    refine ⟨by omega, fun h => by omega, fun _ => rfl, by simp, goodL_of fun q hq => ?_⟩
    rw [List.mem_singleton.1 hq]
    exact predOf_good h _ 4 0
  · refine right_list cols 6 (.inr (.inr rfl)) _ (fun q hq => ?_) (by simp)
    rw [List.mem_singleton.1 hq]
    exact predOf_right h _ 4 0
  · unfold okR
    exact ⟨fun h2 => by omega, okRs_of fun q hq => by rw [List.mem_singleton.1 hq]; exact predOf_okR h _ 4 0⟩

/-- What a call of Norm tells, its predicate. -/
def fxT (p : Pt) : Pt := (normT p).getD (.mk 0 0 0 zeroV [])
theorem fxT_small {cols : List Co} {p : Pt} (h : NTok cols p) : cntT (fxT p) ≤ 60000 := by
  unfold fxT normT
  cases hn : nrm p false with
  | none => simp [cntT, cntL, zeroV]
  | some a =>
    have h1 := form_small (cols := cols) (nrm_small p false hn) (things_S h.okr hn)
    exact h1.2.1
theorem rd_zp (w : World) : RdT1 w (.mk 0 0 0 zeroV []) [.int .i64 0, .int .i64 0, .int .i64 0, .bool false, .int .i64 0, .int .i64 0, .slice none 0 0, .slice none 0 0] := by
  unfold RdT1
  exact ⟨_, _, [], rfl, ⟨Rd.nil w, fun x h => by cases h⟩, RdS.nil w 8, by unfold RdTs; trivial⟩
def Nq (p : Pt) (e : Ending) (w' : World) : Prop := ∃ (k c o vk vn : Int) (u : Bool) (a : Option Addr) (n m : Nat) (a2 : Option Addr) (n2 m2 : Nat),
  e = .returned (.tuple #[.agg #[.int .i64 k, .int .i64 c, .int .i64 o, .bool u, .int .i64 vk, .int .i64 vn, .slice a n m, .slice a2 n2 m2], .bool (normT p).isSome]) ∧
  RdT1 w' (fxT p) [.int .i64 k, .int .i64 c, .int .i64 o, .bool u, .int .i64 vk, .int .i64 vn, .slice a n m, .slice a2 n2 m2]
theorem nq_of {p : Pt} {e : Ending} {w' : World} (h : RetQ (normT p) e w') : Nq p e w' := by
  unfold Nq fxT
  cases hn : normT p with
  | none =>
    rw [hn] at h
    exact ⟨0, 0, 0, 0, 0, false, none, 0, 0, none, 0, 0, h, rd_zp w'⟩
  | some q =>
    rw [hn] at h
    obtain ⟨cs', he, hr⟩ := h
    obtain ⟨k, c, o, vk, vn, u, a, n, m, a2, n2, m2, rfl⟩ := rdT1_shape hr
    exact ⟨k, c, o, vk, vn, u, a, n, m, a2, n2, m2, he, hr⟩
theorem retP_Q {w : World} {r : Option Pt} {e : Ending} {w' : World} (h : RetP w r e w') : RetQ r e w' := by
  cases r with
  | none => exact h
  | some q =>
    obtain ⟨cs', he, hr⟩ := h
    exact ⟨cs', he, RdA1.rd _ hr⟩
theorem norm_f {cols : List Co} {p : Pt} (h : NTok cols p) (cs : List Value) (w : World) (hr : RdT1 w p cs) :
    Calls Try.prog 24 #[.agg cs.toArray] w fun e w' => Nq p e w' ∧ Below w.heap.size w w' :=
  (norm_any p (by have := h.dep; omega) (by have := h.cnt; omega) (by have := h.nod; omega) cs w hr).mono fun e w' ⟨h1, h2⟩ => ⟨nq_of (retP_Q h1), h2⟩
theorem refNorm_f {cols : List Co} {p : Pt} (h : NTok cols p) (cs : List Value) (w : World) (hr : RdT1 w p cs) :
    Calls Try.prog 28 #[.agg cs.toArray] w fun e w' => Nq p e w' ∧ Below w.heap.size w w' :=
  (refNorm_any p h.good cs w hr).mono fun e w' ⟨h1, h2⟩ => ⟨nq_of h1, h2⟩
theorem rdTs_of {w : World} : ∀ {l : List Pt} {css : List (List Value)}, l.length = css.length → (∀ (k : Nat) q cs, l[k]? = some q → css[k]? = some cs → RdT1 w q cs) → RdTs w l css
  | [], [], _, _ => by unfold RdTs; trivial
  | q :: r, cs :: t, hl, h => by
    unfold RdTs
    exact ⟨h 0 q cs rfl rfl, rdTs_of (by simpa using hl) fun k q' cs' h1 h2 => h (k + 1) q' cs' h1 h2⟩
theorem rd_listT (w : World) (K : Int) (l : List Pt) (css : List (List Value)) (ls : Value) (hs : RdS w 8 ls css) (ht : RdTs w l css) :
    RdT1 w (.mk K 0 0 zeroV l) [.int .i64 K, .int .i64 0, .int .i64 0, .bool false, .int .i64 0, .int .i64 0, .slice none 0 0, ls] := by
  unfold RdT1
  exact ⟨_, _, css, rfl, ⟨Rd.nil w, fun x h => by cases h⟩, hs, ht⟩

end Go.Proofs.Ytfmkalnnpddefaa
