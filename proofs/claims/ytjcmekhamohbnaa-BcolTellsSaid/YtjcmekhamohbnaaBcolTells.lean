/-
  The walk of BcolTells, whole.
-/
import Derived.Test.YtjcmekhamohbnaaBtb
namespace Go.Proofs.Ytjcmekhamohbnaa.Bc
set_option linter.unusedVariables false
set_option linter.unusedSimpArgs false
open Go.RowKit

theorem walk_BcolTells (a0 : Option Addr) (len0 cap0 : Nat) (pr : Row) (a1 : Option Addr) (len1 cap1 : Nat) (z1 : List Int) (a2 : Int) (a3 : Int) (a4 : Option Addr) (len4 cap4 : Nat) (z4 : List Int) (a5 : Int) (a6 : Int) (a7 : Int) (w : World) (w0a : pr.length = len0) (w0b : Rd w (.slice a0 len0 cap0) (vs pr)) (w0c : Els w pr) (w0d : ∀ y ∈ xs pr, ∀ a ∈ y, a < 256) (w1 : IsRow .i64 w a1 len1 cap1 z1) (w2 : (Lit.int .i64 a2).wf = true) (w3 : (Lit.int .i64 a3).wf = true) (w4 : IsRow .u8 w a4 len4 cap4 z4) (w5 : (Lit.int .i64 a5).wf = true) (w6 : (Lit.int .u8 a6).wf = true) (w7 : (Lit.int .i64 a7).wf = true) :
    Calls Try.prog 3 #[.slice a0 len0 cap0, .slice a1 len1 cap1, .int .i64 a2, .int .i64 a3, .slice a4 len4 cap4, .int .i64 a5, .int .u8 a6, .int .i64 a7] w fun e w' => e = .returned (.bool true) ∧ Below w.heap.size w w' :=
  walk_bt a0 len0 cap0 pr a1 len1 cap1 z1 a2 a3 a4 len4 cap4 z4 a5 a6 a7 w w0a w0b w0c w0d w1 w2 w3 w4 w5 w6 w7

end Go.Proofs.Ytjcmekhamohbnaa.Bc
