/-
  PredOwn by the runner: its calls of Schema, Pred, Row, Not, All, Any, Eval are known by contract.
-/
import Derived.Test.YtlkjdclhgmkndaaKs7
namespace Go.Proofs.Ytlkjdclhgmkndaa
set_option linter.unusedVariables false
set_option linter.unusedSimpArgs false
open Canon Go.RowKit

def ksPredOwn_0 (o : Nat) : Nk := if o = 8000000 then .args else if o = 8 then .cols else if o = 10 then .pr (.lf 0) else if o = 11 then .pr (.lf 1) else if o = 18 then .pr (.lf 0) else if o = 20 then .pr (.lf 1) else if o = 24 then .pr (.lf 0) else if o = 26 then .pr (.lf 1) else .none

noncomputable def orcPredOwn_11 : Orc := orcE 15 (fun xs _ => cL xs [.iface (16 * 8000000 + 0) (.chan none)]) 8 (.agg (nmCells 8 0 mC).toArray) (orcE 23 (fun xs _ => cL xs [.agg (nmCells 8 0 mC).toArray, .iface (16 * 8000000 + (0 + 1)) (.chan none), .int .i64 0, .int .i64 3]) 10 (.agg (nmCells 10 0 mP).toArray) (orcE 23 (fun xs _ => cL xs [.agg (nmCells 8 0 mC).toArray, .iface (16 * 8000000 + (1 + 1)) (.chan none), .int .i64 0, .int .i64 3]) 11 (.agg (nmCells 11 0 mP).toArray) (orcE 60 (fun xs _ => cL xs [.agg (nmCells 10 0 mP).toArray]) 18 (.agg (nmCells 18 0 mP).toArray) (orcE 60 (fun xs _ => cL xs [.agg (nmCells 11 0 mP).toArray]) 20 (.agg (nmCells 20 0 mP).toArray) (orcE 60 (fun xs _ => cL xs [.agg (nmCells 10 0 mP).toArray]) 24 (.agg (nmCells 24 0 mP).toArray) (orcE 60 (fun xs _ => cL xs [.agg (nmCells 11 0 mP).toArray]) 26 (.agg (nmCells 26 0 mP).toArray) (orcV 31 (fun xs _ => cL xs [.agg (nmCells 18 0 mP).toArray, .agg (nmCells 10 0 mP).toArray]) (.bool true) (orcV 31 (fun xs _ => cL xs [.agg (nmCells 24 0 mP).toArray, .agg (nmCells 10 0 mP).toArray]) (.bool true) (orcV 31 (fun xs _ => cL xs [.agg (nmCells 26 0 mP).toArray, .agg (nmCells 11 0 mP).toArray]) (.bool true) (orcV 31 (fun xs _ => cL xs [.agg (nmCells 11 0 mP).toArray, .agg (nmCells 11 0 mP).toArray]) (.bool true) (orcV 29 (fun xs _ => noArg xs) (.bool true) (orcNo))))))))))))

set_option maxRecDepth 100000 in
theorem runPredOwn_11 : isTrue (callY (Canon.envO Try.prog orcPredOwn_11) 60 7 (args7.take 3) (Canon.start Try.prog)) = true := by kernel_rfl

set_option maxRecDepth 100000 in
theorem okPredOwn_11 {w0 : World} {n row : Int} {va vb : Value} {la lb : List Int} : OrcS (Phi7 w0 ksPredOwn_0 n row va vb la lb 3) Try.prog orcPredOwn_11 :=
  (orcE_ok (prom_schema rfl rfl) (orcE_ok (prom_pred (i := 0) rfl rfl rfl (by decide) (by decide) 3 rfl) (orcE_ok (prom_pred (i := 1) rfl rfl rfl (by decide) (by decide) 3 rfl) (orcE_ok (prom_fresh (m := 10) (t := .lf 0) rfl rfl (by decide) (by decide) (by decide)) (orcE_ok (prom_fresh (m := 11) (t := .lf 1) rfl rfl (by decide) (by decide) (by decide)) (orcE_ok (prom_fresh (m := 10) (t := .lf 0) rfl rfl (by decide) (by decide) (by decide)) (orcE_ok (prom_fresh (m := 11) (t := .lf 1) rfl rfl (by decide) (by decide) (by decide)) (orcV_ok rfl (prom_same (m := 18) (k := 10) (t := .lf 0) (u := .lf 0) rfl rfl (by decide) (by decide) true (eqP_refl _)) (orcV_ok rfl (prom_same (m := 24) (k := 10) (t := .lf 0) (u := .lf 0) rfl rfl (by decide) (by decide) true (eqP_refl _)) (orcV_ok rfl (prom_same (m := 26) (k := 11) (t := .lf 1) (u := .lf 1) rfl rfl (by decide) (by decide) true (eqP_refl _)) (orcV_ok rfl (prom_same (m := 11) (k := 11) (t := .lf 1) (u := .lf 1) rfl rfl (by decide) (by decide) true (eqP_refl _)) (orcV_ok rfl prom_awake (orcNo_ok _ _)))))))))))))

theorem bodyPredOwn : hasBody Try.prog 7 = true := by kernel_rfl

theorem walk_PredOwn (a0 : Int) (a1 : Option Addr) (len1 cap1 : Nat) (z1 : List Int) (a2 : Option Addr) (len2 cap2 : Nat) (z2 : List Int) (w : World) (w0 : (Lit.int .i64 a0).wf = true) (w1 : IsRow .i64 w a1 len1 cap1 z1) (w2 : IsRow .i64 w a2 len2 cap2 z2) :
    Calls Try.prog 7 #[.int .i64 a0, .slice a1 len1 cap1, .slice a2 len2 cap2] w fun e w' => e = .returned (.bool true) ∧ Below w.heap.size w w' := by
  obtain ⟨la, _, h1, _⟩ := isRow_rd w1
  obtain ⟨lb, _, h2, _⟩ := isRow_rd w2
  have hA := (args7_lr (P := Try.prog) (w := w) a0 0 a1 a2 len1 cap1 len2 cap2).take 3
  exact fit.kn bodyPredOwn w (okPredOwn_11 (n := a0) (row := 0)) (nv7_ok (ks := ksPredOwn_0) rfl h1 h2) hA runPredOwn_11

end Go.Proofs.Ytlkjdclhgmkndaa
