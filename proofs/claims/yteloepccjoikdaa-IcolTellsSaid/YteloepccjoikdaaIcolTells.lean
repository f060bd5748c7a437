/-
  The walk of IcolTells, whole.
-/
import Derived.Test.YteloepccjoikdaaItg
import Derived.Test.YteloepccjoikdaaGtho
namespace Go.Proofs.Yteloepccjoikdaa
set_option linter.unusedVariables false
set_option linter.unusedSimpArgs false
open Go.RowKit

theorem walk_IcolTells (a0 : Option Addr) (len0 cap0 : Nat) (z0 : List Int) (a1 : Int) (a2 : Int) (a3 : Option Addr) (len3 cap3 : Nat) (z3 : List Int) (a4 : Int) (a5 : Int) (a6 : Int) (w : World) (w0 : IsRow .i64 w a0 len0 cap0 z0) (w3 : IsRow .u8 w a3 len3 cap3 z3) (w5 : (Lit.int .u8 a5).wf = true) :
    Calls Try.prog 9 #[.slice a0 len0 cap0, .int .i64 a1, .int .i64 a2, .slice a3 len3 cap3, .int .i64 a4, .int .u8 a5, .int .i64 a6] w fun e w' => e = .returned (.bool true) ∧ Below w.heap.size w w' :=
  walk_it Bc.refdecode_any a0 len0 cap0 z0 a1 a2 a3 len3 cap3 z3 a4 a5 a6 w w0 w3 w5

end Go.Proofs.Yteloepccjoikdaa
