/-
  Known calls of layer 7: the reference's SamePred; fresh.Pred.
-/
import Derived.Test.YtlkjdclhgmkndaaKseven
import Derived.Test.YtlkjdclhgmkndaaSpm
namespace Go.Proofs.Ytlkjdclhgmkndaa
set_option linter.unusedVariables false
set_option linter.unusedSimpArgs false
open Canon Go.RowKit

section
variable {w0 : World} {ks : Nat → Nk} {n row : Int} {va vb : Value} {la lb : List Int} {d : Nat}

theorem prom_same {m k : Nat} {t u : Sy} (hm : ks m = .pr t) (hk : ks k = .pr u) (hc : t.cnt.1 ≤ 65536) (hdd : d ≤ 4) (b : Bool) (hb : eqP (t.den (ps7 n la lb d)).1 (u.den (ps7 n la lb d)).1 = b) :
    PromV (Phi7 w0 ks n row va vb la lb d) Try.prog 31 (fun xs _ => cL xs [.agg (nmCells m 0 mP).toArray, .agg (nmCells k 0 mP).toArray]) (.bool b) := by
  intro c D w args args' s hch hH hA
  rw [cL_spec hch] at hA
  obtain ⟨v1, r1, rfl, a1, hA⟩ := hA.inv_cons
  obtain ⟨v2, r2, rfl, a2, hA⟩ := hA.inv_cons
  rw [hA.inv_nil]
  obtain ⟨l', rfl, hl⟩ := vr_agg_inv a1
  obtain ⟨l2', rfl, hl2⟩ := vr_agg_inv a2
  have hp := arg_pred hH hm hl
  have hp2 := arg_pred hH hk hl2
  rw [← hb]
  exact same_ok _ _ (Nat.le_refl _) (Nat.le_trans (Nat.le_trans (Sy.cnt_den (fun i => (small7 (n := n) (la := la) (lb := lb) hdd i).2) t).1 hc) (by decide)) _ l' l2' w hp hp2
theorem prom_fresh {m k : Nat} {t : Sy} (hm : ks m = .pr t) (hr : ks k = .pr t) (hd : t.dep.1 ≤ 1000) (hc : t.cnt.1 ≤ 65536) (hdd : d ≤ 4) :
    PromE (Phi7 w0 ks n row va vb la lb d) Try.prog 60 (fun xs _ => cL xs [.agg (nmCells m 0 mP).toArray]) k (.agg (nmCells k 0 mP).toArray) := by
  intro c D w args args' s hch hH hnD hA
  rw [cL_spec hch] at hA
  obtain ⟨v1, r1, rfl, a1, hA⟩ := hA.inv_cons
  rw [hA.inv_nil]
  obtain ⟨l', rfl, hl⟩ := vr_agg_inv a1
  have hp := arg_pred hH hm hl
  refine (fpred_any (t.den (ps7 n la lb d)).1 (Nat.le_trans (Sy.dep_den (fun i => (small7 (n := n) (la := la) (lb := lb) hdd i).1) t).1 hd) (Nat.le_trans (Sy.cnt_den (fun i => (small7 (n := n) (la := la) (lb := lb) hdd i).2) t).1 hc) l' w hp).mono ?_
  rintro e w' ⟨cs', rfl, ha, hb⟩
  exact ret_pred (t := t) hH hr (Sy.rootU_den (fun i => predOf_rootU _ _ _ _) t) ha hb
end

end Go.Proofs.Ytlkjdclhgmkndaa
