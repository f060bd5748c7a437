/-
  No cell of these rows narrows 'for every input' (looked for: loops, veiled, ifaces, maps, wideKeys, modest, calm, conditions, laid).
  DERIVED. THE GIVEN ROWS OF THIS SEAT. 4 by the template 'for every input the law returns true; each argument reads behind the call as it read before'; 0 by the template 'total and deterministic' (their statements: YthlfcjpjhajaaaaTotals.lean).
  GIVEN WITH THE SEED: the statements are not yours to turn. If you find one false, say at which input.
  Laid BY PROGRAM, IN A SANDBOX (cutbox-rows.mjs): the forced cells as the released guide's own fill.sh prints them over the translation 9c6acd3a4480c39c… (all of the seat's roots in one cut). By AI agents, Wed Nov 11 2026. No macro, syntax, notation, axiom, sorry.
-/
import Derived.Test.YthlfcjpjhajaaaaChecked
import GoSem.Claim
import GoSem.ClaimJoined
import GoSem.ClaimMapViews
import Derived.JoinedTies
import Derived.KernelRfl
namespace Go.Proofs.Ythlfcjpjhajaaaa
/- THE CELL 'sum', in the pinned program and in every row, IS THE sha256 OF THE DUMP (.gsa) THAT YthlfcjpjhajaaaaProg.lean LOADS. Nothing in Lean hashes anything: it is a label: what it is worth is what the hold of that sum in a sandbox is worth. -/
noncomputable def Try.pinned : Pinned := { name := "ythlfcjpjhajaaaa", sum := "9c6acd3a4480c39c5bc372b31efd98ac57de7b35645affce0b228ae14be53bdd", checked := Try.checked }
namespace Rows
def none {H : Type} : Left H := { results := [], args := [] }

/-- 'colonnadelaw4.IcolForms': WHATEVER THE INPUT: true; the input reads as it did. -/
def icolFormsSpec : ChangeSpec := { name := "icolForms", fn := fun _ => fun
  | [d] => { results := [.lit (.bool true)], args := [d] }
  | _ => none }
def icolFormsRow : OpenClaim := { program := "ythlfcjpjhajaaaa", sum := "9c6acd3a4480c39c5bc372b31efd98ac57de7b35645affce0b228ae14be53bdd", func := "colonnade/colonnadelaw4.IcolForms", spec := "icolForms", unfollowed := true, recurses := true, apart := false }
def IcolFormsSaid : Prop := icolFormsRow.holds Try.pinned (OpenSpec.ofChange icolFormsSpec)

/-- ITS FALSE NEIGHBOUR: 'it returns false'. Refute it at one input. -/
def icolFormsWrong : ChangeSpec := { name := "icolForms", fn := fun _ => fun
  | [d] => { results := [.lit (.bool false)], args := [d] }
  | _ => none }
def IcolFormsWrongFalsely : Prop := icolFormsRow.holds Try.pinned (OpenSpec.ofChange icolFormsWrong)

/-- 'colonnadelaw8.NormForms': WHATEVER THE INPUT: true; the input reads as it did. -/
def normFormsSpec : ChangeSpec := { name := "normForms", fn := fun _ => fun
  | [d] => { results := [.lit (.bool true)], args := [d] }
  | _ => none }
def normFormsRow : OpenClaim := { program := "ythlfcjpjhajaaaa", sum := "9c6acd3a4480c39c5bc372b31efd98ac57de7b35645affce0b228ae14be53bdd", func := "colonnade/colonnadelaw8.NormForms", spec := "normForms", unfollowed := true, recurses := true, apart := false }
def NormFormsSaid : Prop := normFormsRow.holds Try.pinned (OpenSpec.ofChange normFormsSpec)

/-- ITS FALSE NEIGHBOUR: 'it returns false'. Refute it at one input. -/
def normFormsWrong : ChangeSpec := { name := "normForms", fn := fun _ => fun
  | [d] => { results := [.lit (.bool false)], args := [d] }
  | _ => none }
def NormFormsWrongFalsely : Prop := normFormsRow.holds Try.pinned (OpenSpec.ofChange normFormsWrong)

/-- 'colonnadelaw15.ExprForms': WHATEVER THE INPUT: true; the input reads as it did. -/
def exprFormsSpec : ChangeSpec := { name := "exprForms", fn := fun _ => fun
  | [d] => { results := [.lit (.bool true)], args := [d] }
  | _ => none }
def exprFormsRow : OpenClaim := { program := "ythlfcjpjhajaaaa", sum := "9c6acd3a4480c39c5bc372b31efd98ac57de7b35645affce0b228ae14be53bdd", func := "colonnade/colonnadelaw15.ExprForms", spec := "exprForms", unfollowed := true, recurses := true, apart := false }
def ExprFormsSaid : Prop := exprFormsRow.holds Try.pinned (OpenSpec.ofChange exprFormsSpec)

/-- ITS FALSE NEIGHBOUR: 'it returns false'. Refute it at one input. -/
def exprFormsWrong : ChangeSpec := { name := "exprForms", fn := fun _ => fun
  | [d] => { results := [.lit (.bool false)], args := [d] }
  | _ => none }
def ExprFormsWrongFalsely : Prop := exprFormsRow.holds Try.pinned (OpenSpec.ofChange exprFormsWrong)

/-- 'colonnadelaw15.ExprMany': WHATEVER THE INPUT: true; the input reads as it did. -/
def exprManySpec : ChangeSpec := { name := "exprMany", fn := fun _ => fun
  | [d1, d2, d3] => { results := [.lit (.bool true)], args := [d1, d2, d3] }
  | _ => none }
def exprManyRow : OpenClaim := { program := "ythlfcjpjhajaaaa", sum := "9c6acd3a4480c39c5bc372b31efd98ac57de7b35645affce0b228ae14be53bdd", func := "colonnade/colonnadelaw15.ExprMany", spec := "exprMany", unfollowed := true, recurses := true, apart := false }
def ExprManySaid : Prop := exprManyRow.holds Try.pinned (OpenSpec.ofChange exprManySpec)

/-- ITS FALSE NEIGHBOUR: 'it returns false'. Refute it at one input. -/
def exprManyWrong : ChangeSpec := { name := "exprMany", fn := fun _ => fun
  | [d1, d2, d3] => { results := [.lit (.bool false)], args := [d1, d2, d3] }
  | _ => none }
def ExprManyWrongFalsely : Prop := exprManyRow.holds Try.pinned (OpenSpec.ofChange exprManyWrong)

/- THE SECOND FORM. 'bulk': how many values and letters a reading holds, each counted each time it is reached (what is shared counts as often as it is met; a slice's spare places count too). A statement '..UptoSaid' is the law's where the arguments, and the package variables that the reading takes, are together of bulk at most 1048576: NARROWER than '..Said'. Prove '..Said' where nothing that the law and all that it calls make is longer than what came in: it says more and counts as full. Else prove '..UptoSaid'. A law counts once. -/
mutual
def uptoBulk {H : Type} : DataW H → Nat
  | .lit (.string bytes) => bytes.length + 1
  | .lit _ => 1
  | .nil => 1
  | .ptr d => uptoBulk d + 1
  | .slice elems spare => uptoBulkAll elems + uptoBulkAll spare + 1
  | .agg parts => uptoBulkAll parts + 1
  | .iface _ d => uptoBulk d + 1
  | .map entries => uptoBulkEntries entries + 1
  | .held _ => 1
def uptoBulkAll {H : Type} : List (DataW H) → Nat
  | [] => 0
  | d :: r => uptoBulk d + uptoBulkAll r
def uptoBulkEntries {H : Type} : List (Lit × DataW H) → Nat
  | [] => 0
  | x :: r => uptoBulkEntry x + uptoBulkEntries r
def uptoBulkEntry {H : Type} : Lit × DataW H → Nat
  | (.string bytes, d) => bytes.length + uptoBulk d + 1
  | (_, d) => uptoBulk d + 1
 end
def uptoSmall : (H : Type) → List (DataW H) → Bool := fun _ ds => decide (uptoBulkAll ds ≤ 1048576)
def OpenSpec.upto (s : _root_.Go.ChangeSpec) : _root_.Go.OpenSpec := { _root_.Go.OpenSpec.ofChange s with cond := some uptoSmall }

/-- 'colonnadelaw4.IcolForms', WHERE WHAT IT READS IS OF BULK AT MOST 1048576: true; the input reads as it did. -/
def icolFormsUptoRow : OpenClaim := { program := "ythlfcjpjhajaaaa", sum := "9c6acd3a4480c39c5bc372b31efd98ac57de7b35645affce0b228ae14be53bdd", func := "colonnade/colonnadelaw4.IcolForms", spec := "icolForms", unfollowed := true, recurses := true, apart := false, narrowed := true }
def IcolFormsUptoSaid : Prop := icolFormsUptoRow.holds Try.pinned (OpenSpec.upto icolFormsSpec)

/-- 'colonnadelaw8.NormForms', WHERE WHAT IT READS IS OF BULK AT MOST 1048576: true; the input reads as it did. -/
def normFormsUptoRow : OpenClaim := { program := "ythlfcjpjhajaaaa", sum := "9c6acd3a4480c39c5bc372b31efd98ac57de7b35645affce0b228ae14be53bdd", func := "colonnade/colonnadelaw8.NormForms", spec := "normForms", unfollowed := true, recurses := true, apart := false, narrowed := true }
def NormFormsUptoSaid : Prop := normFormsUptoRow.holds Try.pinned (OpenSpec.upto normFormsSpec)

/-- 'colonnadelaw15.ExprForms', WHERE WHAT IT READS IS OF BULK AT MOST 1048576: true; the input reads as it did. -/
def exprFormsUptoRow : OpenClaim := { program := "ythlfcjpjhajaaaa", sum := "9c6acd3a4480c39c5bc372b31efd98ac57de7b35645affce0b228ae14be53bdd", func := "colonnade/colonnadelaw15.ExprForms", spec := "exprForms", unfollowed := true, recurses := true, apart := false, narrowed := true }
def ExprFormsUptoSaid : Prop := exprFormsUptoRow.holds Try.pinned (OpenSpec.upto exprFormsSpec)

/-- 'colonnadelaw15.ExprMany', WHERE WHAT IT READS IS OF BULK AT MOST 1048576: true; the input reads as it did. -/
def exprManyUptoRow : OpenClaim := { program := "ythlfcjpjhajaaaa", sum := "9c6acd3a4480c39c5bc372b31efd98ac57de7b35645affce0b228ae14be53bdd", func := "colonnade/colonnadelaw15.ExprMany", spec := "exprMany", unfollowed := true, recurses := true, apart := false, narrowed := true }
def ExprManyUptoSaid : Prop := exprManyUptoRow.holds Try.pinned (OpenSpec.upto exprManySpec)

end Rows
end Go.Proofs.Ythlfcjpjhajaaaa
