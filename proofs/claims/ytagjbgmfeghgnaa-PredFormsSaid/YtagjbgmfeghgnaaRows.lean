/-
  No cell of these rows narrows 'for every input' (looked for: loops, veiled, ifaces, maps, wideKeys, modest, calm, conditions, laid).
  DERIVED. THE GIVEN ROWS OF THIS SEAT. 12 by the template 'for every input the law returns true; each argument reads behind the call as it read before'; 0 by the template 'total and deterministic' (their statements: YtagjbgmfeghgnaaTotals.lean).
  GIVEN WITH THE SEED: the statements are not yours to turn. If you find one false, say at which input.
  Laid BY PROGRAM, IN A SANDBOX (cutbox-rows.mjs): the forced cells as the released guide's own fill.sh prints them over the translation 60e0cbb0c7399a6f… (all of the seat's roots in one cut). By AI agents, Wed Nov 11 2026. No macro, syntax, notation, axiom, sorry.
-/
import Derived.Test.YtagjbgmfeghgnaaChecked
import GoSem.Claim
import GoSem.ClaimJoined
import GoSem.ClaimMapViews
import Derived.JoinedTies
import Derived.KernelRfl
namespace Go.Proofs.Ytagjbgmfeghgnaa
/- THE CELL 'sum', in the pinned program and in every row, IS THE sha256 OF THE DUMP (.gsa) THAT YtagjbgmfeghgnaaProg.lean LOADS. Nothing in Lean hashes anything: it is a label: what it is worth is what the hold of that sum in a sandbox is worth. -/
noncomputable def Try.pinned : Pinned := { name := "ytagjbgmfeghgnaa", sum := "60e0cbb0c7399a6f9a0fa0dda1f9db6bce24b1de9a4f8c425c276da91d09b90b", checked := Try.checked }
namespace Rows
def none {H : Type} : Left H := { results := [], args := [] }

/-- 'colonnadelaw1.BitpForms': WHATEVER THE INPUT: true; the input reads as it did. -/
def bitpFormsSpec : ChangeSpec := { name := "bitpForms", fn := fun _ => fun
  | [d] => { results := [.lit (.bool true)], args := [d] }
  | _ => none }
def bitpFormsRow : OpenClaim := { program := "ytagjbgmfeghgnaa", sum := "60e0cbb0c7399a6f9a0fa0dda1f9db6bce24b1de9a4f8c425c276da91d09b90b", func := "colonnade/colonnadelaw1.BitpForms", spec := "bitpForms", apart := false }
def BitpFormsSaid : Prop := bitpFormsRow.holds Try.pinned (OpenSpec.ofChange bitpFormsSpec)

/-- ITS FALSE NEIGHBOUR: 'it returns false'. Refute it at one input. -/
def bitpFormsWrong : ChangeSpec := { name := "bitpForms", fn := fun _ => fun
  | [d] => { results := [.lit (.bool false)], args := [d] }
  | _ => none }
def BitpFormsWrongFalsely : Prop := bitpFormsRow.holds Try.pinned (OpenSpec.ofChange bitpFormsWrong)

/-- 'colonnadelaw2.CodeForms': WHATEVER THE INPUT: true; the input reads as it did. -/
def codeFormsSpec : ChangeSpec := { name := "codeForms", fn := fun _ => fun
  | [d] => { results := [.lit (.bool true)], args := [d] }
  | _ => none }
def codeFormsRow : OpenClaim := { program := "ytagjbgmfeghgnaa", sum := "60e0cbb0c7399a6f9a0fa0dda1f9db6bce24b1de9a4f8c425c276da91d09b90b", func := "colonnade/colonnadelaw2.CodeForms", spec := "codeForms", apart := false }
def CodeFormsSaid : Prop := codeFormsRow.holds Try.pinned (OpenSpec.ofChange codeFormsSpec)

/-- ITS FALSE NEIGHBOUR: 'it returns false'. Refute it at one input. -/
def codeFormsWrong : ChangeSpec := { name := "codeForms", fn := fun _ => fun
  | [d] => { results := [.lit (.bool false)], args := [d] }
  | _ => none }
def CodeFormsWrongFalsely : Prop := codeFormsRow.holds Try.pinned (OpenSpec.ofChange codeFormsWrong)

/-- 'colonnadelaw3.NullForms': WHATEVER THE INPUT: true; the input reads as it did. -/
def nullFormsSpec : ChangeSpec := { name := "nullForms", fn := fun _ => fun
  | [d] => { results := [.lit (.bool true)], args := [d] }
  | _ => none }
def nullFormsRow : OpenClaim := { program := "ytagjbgmfeghgnaa", sum := "60e0cbb0c7399a6f9a0fa0dda1f9db6bce24b1de9a4f8c425c276da91d09b90b", func := "colonnade/colonnadelaw3.NullForms", spec := "nullForms", apart := false }
def NullFormsSaid : Prop := nullFormsRow.holds Try.pinned (OpenSpec.ofChange nullFormsSpec)

/-- ITS FALSE NEIGHBOUR: 'it returns false'. Refute it at one input. -/
def nullFormsWrong : ChangeSpec := { name := "nullForms", fn := fun _ => fun
  | [d] => { results := [.lit (.bool false)], args := [d] }
  | _ => none }
def NullFormsWrongFalsely : Prop := nullFormsRow.holds Try.pinned (OpenSpec.ofChange nullFormsWrong)

/-- 'colonnadelaw4.IcolForms': WHATEVER THE INPUT: true; the input reads as it did. -/
def icolFormsSpec : ChangeSpec := { name := "icolForms", fn := fun _ => fun
  | [d] => { results := [.lit (.bool true)], args := [d] }
  | _ => none }
def icolFormsRow : OpenClaim := { program := "ytagjbgmfeghgnaa", sum := "60e0cbb0c7399a6f9a0fa0dda1f9db6bce24b1de9a4f8c425c276da91d09b90b", func := "colonnade/colonnadelaw4.IcolForms", spec := "icolForms", unfollowed := true, recurses := true, apart := false }
def IcolFormsSaid : Prop := icolFormsRow.holds Try.pinned (OpenSpec.ofChange icolFormsSpec)

/-- ITS FALSE NEIGHBOUR: 'it returns false'. Refute it at one input. -/
def icolFormsWrong : ChangeSpec := { name := "icolForms", fn := fun _ => fun
  | [d] => { results := [.lit (.bool false)], args := [d] }
  | _ => none }
def IcolFormsWrongFalsely : Prop := icolFormsRow.holds Try.pinned (OpenSpec.ofChange icolFormsWrong)

/-- 'colonnadelaw5.BcolForms': WHATEVER THE INPUT: true; the input reads as it did. -/
def bcolFormsSpec : ChangeSpec := { name := "bcolForms", fn := fun _ => fun
  | [d] => { results := [.lit (.bool true)], args := [d] }
  | _ => none }
def bcolFormsRow : OpenClaim := { program := "ytagjbgmfeghgnaa", sum := "60e0cbb0c7399a6f9a0fa0dda1f9db6bce24b1de9a4f8c425c276da91d09b90b", func := "colonnade/colonnadelaw5.BcolForms", spec := "bcolForms", inPlace := ["internal/bytealg.Compare"], unfollowed := true, recurses := true, apart := false }
def BcolFormsSaid : Prop := bcolFormsRow.holds Try.pinned (OpenSpec.ofChange bcolFormsSpec)

/-- ITS FALSE NEIGHBOUR: 'it returns false'. Refute it at one input. -/
def bcolFormsWrong : ChangeSpec := { name := "bcolForms", fn := fun _ => fun
  | [d] => { results := [.lit (.bool false)], args := [d] }
  | _ => none }
def BcolFormsWrongFalsely : Prop := bcolFormsRow.holds Try.pinned (OpenSpec.ofChange bcolFormsWrong)

/-- 'colonnadelaw6.SchmForms': WHATEVER THE INPUT: true; the input reads as it did. -/
def schmFormsSpec : ChangeSpec := { name := "schmForms", fn := fun _ => fun
  | [d] => { results := [.lit (.bool true)], args := [d] }
  | _ => none }
def schmFormsRow : OpenClaim := { program := "ytagjbgmfeghgnaa", sum := "60e0cbb0c7399a6f9a0fa0dda1f9db6bce24b1de9a4f8c425c276da91d09b90b", func := "colonnade/colonnadelaw6.SchmForms", spec := "schmForms", inPlace := ["internal/bytealg.Compare"], unfollowed := true, recurses := true, apart := false }
def SchmFormsSaid : Prop := schmFormsRow.holds Try.pinned (OpenSpec.ofChange schmFormsSpec)

/-- ITS FALSE NEIGHBOUR: 'it returns false'. Refute it at one input. -/
def schmFormsWrong : ChangeSpec := { name := "schmForms", fn := fun _ => fun
  | [d] => { results := [.lit (.bool false)], args := [d] }
  | _ => none }
def SchmFormsWrongFalsely : Prop := schmFormsRow.holds Try.pinned (OpenSpec.ofChange schmFormsWrong)

/-- 'colonnadelaw7.PredForms': WHATEVER THE INPUT: true; the input reads as it did. -/
def predFormsSpec : ChangeSpec := { name := "predForms", fn := fun _ => fun
  | [d] => { results := [.lit (.bool true)], args := [d] }
  | _ => none }
def predFormsRow : OpenClaim := { program := "ytagjbgmfeghgnaa", sum := "60e0cbb0c7399a6f9a0fa0dda1f9db6bce24b1de9a4f8c425c276da91d09b90b", func := "colonnade/colonnadelaw7.PredForms", spec := "predForms", inPlace := ["internal/bytealg.Compare"], unfollowed := true, recurses := true, apart := false }
def PredFormsSaid : Prop := predFormsRow.holds Try.pinned (OpenSpec.ofChange predFormsSpec)

/-- ITS FALSE NEIGHBOUR: 'it returns false'. Refute it at one input. -/
def predFormsWrong : ChangeSpec := { name := "predForms", fn := fun _ => fun
  | [d] => { results := [.lit (.bool false)], args := [d] }
  | _ => none }
def PredFormsWrongFalsely : Prop := predFormsRow.holds Try.pinned (OpenSpec.ofChange predFormsWrong)

/-- 'colonnadelaw8.NormForms': WHATEVER THE INPUT: true; the input reads as it did. -/
def normFormsSpec : ChangeSpec := { name := "normForms", fn := fun _ => fun
  | [d] => { results := [.lit (.bool true)], args := [d] }
  | _ => none }
def normFormsRow : OpenClaim := { program := "ytagjbgmfeghgnaa", sum := "60e0cbb0c7399a6f9a0fa0dda1f9db6bce24b1de9a4f8c425c276da91d09b90b", func := "colonnade/colonnadelaw8.NormForms", spec := "normForms", unfollowed := true, recurses := true, apart := false }
def NormFormsSaid : Prop := normFormsRow.holds Try.pinned (OpenSpec.ofChange normFormsSpec)

/-- ITS FALSE NEIGHBOUR: 'it returns false'. Refute it at one input. -/
def normFormsWrong : ChangeSpec := { name := "normForms", fn := fun _ => fun
  | [d] => { results := [.lit (.bool false)], args := [d] }
  | _ => none }
def NormFormsWrongFalsely : Prop := normFormsRow.holds Try.pinned (OpenSpec.ofChange normFormsWrong)

/-- 'colonnadelaw9.ZoneForms': WHATEVER THE INPUT: true; the input reads as it did. -/
def zoneFormsSpec : ChangeSpec := { name := "zoneForms", fn := fun _ => fun
  | [d] => { results := [.lit (.bool true)], args := [d] }
  | _ => none }
def zoneFormsRow : OpenClaim := { program := "ytagjbgmfeghgnaa", sum := "60e0cbb0c7399a6f9a0fa0dda1f9db6bce24b1de9a4f8c425c276da91d09b90b", func := "colonnade/colonnadelaw9.ZoneForms", spec := "zoneForms", inPlace := ["internal/bytealg.Compare"], unfollowed := true, recurses := true, apart := false }
def ZoneFormsSaid : Prop := zoneFormsRow.holds Try.pinned (OpenSpec.ofChange zoneFormsSpec)

/-- ITS FALSE NEIGHBOUR: 'it returns false'. Refute it at one input. -/
def zoneFormsWrong : ChangeSpec := { name := "zoneForms", fn := fun _ => fun
  | [d] => { results := [.lit (.bool false)], args := [d] }
  | _ => none }
def ZoneFormsWrongFalsely : Prop := zoneFormsRow.holds Try.pinned (OpenSpec.ofChange zoneFormsWrong)

/-- 'colonnadelaw11.StamForms': WHATEVER THE INPUT: true; the input reads as it did. -/
def stamFormsSpec : ChangeSpec := { name := "stamForms", fn := fun _ => fun
  | [d] => { results := [.lit (.bool true)], args := [d] }
  | _ => none }
def stamFormsRow : OpenClaim := { program := "ytagjbgmfeghgnaa", sum := "60e0cbb0c7399a6f9a0fa0dda1f9db6bce24b1de9a4f8c425c276da91d09b90b", func := "colonnade/colonnadelaw11.StamForms", spec := "stamForms", unfollowed := true, recurses := true, apart := false }
def StamFormsSaid : Prop := stamFormsRow.holds Try.pinned (OpenSpec.ofChange stamFormsSpec)

/-- ITS FALSE NEIGHBOUR: 'it returns false'. Refute it at one input. -/
def stamFormsWrong : ChangeSpec := { name := "stamForms", fn := fun _ => fun
  | [d] => { results := [.lit (.bool false)], args := [d] }
  | _ => none }
def StamFormsWrongFalsely : Prop := stamFormsRow.holds Try.pinned (OpenSpec.ofChange stamFormsWrong)

/-- 'colonnadelaw15.ExprForms': WHATEVER THE INPUT: true; the input reads as it did. -/
def exprFormsSpec : ChangeSpec := { name := "exprForms", fn := fun _ => fun
  | [d] => { results := [.lit (.bool true)], args := [d] }
  | _ => none }
def exprFormsRow : OpenClaim := { program := "ytagjbgmfeghgnaa", sum := "60e0cbb0c7399a6f9a0fa0dda1f9db6bce24b1de9a4f8c425c276da91d09b90b", func := "colonnade/colonnadelaw15.ExprForms", spec := "exprForms", unfollowed := true, recurses := true, apart := false }
def ExprFormsSaid : Prop := exprFormsRow.holds Try.pinned (OpenSpec.ofChange exprFormsSpec)

/-- ITS FALSE NEIGHBOUR: 'it returns false'. Refute it at one input. -/
def exprFormsWrong : ChangeSpec := { name := "exprForms", fn := fun _ => fun
  | [d] => { results := [.lit (.bool false)], args := [d] }
  | _ => none }
def ExprFormsWrongFalsely : Prop := exprFormsRow.holds Try.pinned (OpenSpec.ofChange exprFormsWrong)

/-- 'colonnadelaw16.AggrForms': WHATEVER THE INPUT: true; the input reads as it did. -/
def aggrFormsSpec : ChangeSpec := { name := "aggrForms", fn := fun _ => fun
  | [d] => { results := [.lit (.bool true)], args := [d] }
  | _ => none }
def aggrFormsRow : OpenClaim := { program := "ytagjbgmfeghgnaa", sum := "60e0cbb0c7399a6f9a0fa0dda1f9db6bce24b1de9a4f8c425c276da91d09b90b", func := "colonnade/colonnadelaw16.AggrForms", spec := "aggrForms", inPlace := ["internal/bytealg.Compare", "math/bits.Add64"], unfollowed := true, recurses := true, apart := false }
def AggrFormsSaid : Prop := aggrFormsRow.holds Try.pinned (OpenSpec.ofChange aggrFormsSpec)

/-- ITS FALSE NEIGHBOUR: 'it returns false'. Refute it at one input. -/
def aggrFormsWrong : ChangeSpec := { name := "aggrForms", fn := fun _ => fun
  | [d] => { results := [.lit (.bool false)], args := [d] }
  | _ => none }
def AggrFormsWrongFalsely : Prop := aggrFormsRow.holds Try.pinned (OpenSpec.ofChange aggrFormsWrong)

/- THE SECOND FORM. 'bulk': how many values and letters a reading holds, each counted each time it is reached (what is shared counts as often as it is met; a slice's spare places count too). A statement '..UptoSaid' is the law's where the arguments, and the package variables that the reading takes, are together of bulk at most 1048576: NARROWER than '..Said'. Prove '..Said' where nothing that the law and all that it calls make is longer than what came in: it says more and counts as full. Else prove '..UptoSaid'. A law counts once. -/
mutual
def uptoBulk {H : Type} : DataW H → Nat
  | .lit (.string bytes) => bytes.length + 1
  | .lit _ => 1
  | .nil => 1
  | .ptr d => uptoBulk d + 1
  | .slice elems spare => uptoBulkAll elems + uptoBulkAll spare + 1
  | .agg parts => uptoBulkAll parts + 1
  | .iface _ d => uptoBulk d + 1
  | .map entries => uptoBulkEntries entries + 1
  | .held _ => 1
def uptoBulkAll {H : Type} : List (DataW H) → Nat
  | [] => 0
  | d :: r => uptoBulk d + uptoBulkAll r
def uptoBulkEntries {H : Type} : List (Lit × DataW H) → Nat
  | [] => 0
  | x :: r => uptoBulkEntry x + uptoBulkEntries r
def uptoBulkEntry {H : Type} : Lit × DataW H → Nat
  | (.string bytes, d) => bytes.length + uptoBulk d + 1
  | (_, d) => uptoBulk d + 1
 end
def uptoSmall : (H : Type) → List (DataW H) → Bool := fun _ ds => decide (uptoBulkAll ds ≤ 1048576)
def OpenSpec.upto (s : _root_.Go.ChangeSpec) : _root_.Go.OpenSpec := { _root_.Go.OpenSpec.ofChange s with cond := some uptoSmall }

/-- 'colonnadelaw1.BitpForms', WHERE WHAT IT READS IS OF BULK AT MOST 1048576: true; the input reads as it did. -/
def bitpFormsUptoRow : OpenClaim := { program := "ytagjbgmfeghgnaa", sum := "60e0cbb0c7399a6f9a0fa0dda1f9db6bce24b1de9a4f8c425c276da91d09b90b", func := "colonnade/colonnadelaw1.BitpForms", spec := "bitpForms", apart := false, narrowed := true }
def BitpFormsUptoSaid : Prop := bitpFormsUptoRow.holds Try.pinned (OpenSpec.upto bitpFormsSpec)

/-- 'colonnadelaw2.CodeForms', WHERE WHAT IT READS IS OF BULK AT MOST 1048576: true; the input reads as it did. -/
def codeFormsUptoRow : OpenClaim := { program := "ytagjbgmfeghgnaa", sum := "60e0cbb0c7399a6f9a0fa0dda1f9db6bce24b1de9a4f8c425c276da91d09b90b", func := "colonnade/colonnadelaw2.CodeForms", spec := "codeForms", apart := false, narrowed := true }
def CodeFormsUptoSaid : Prop := codeFormsUptoRow.holds Try.pinned (OpenSpec.upto codeFormsSpec)

/-- 'colonnadelaw3.NullForms', WHERE WHAT IT READS IS OF BULK AT MOST 1048576: true; the input reads as it did. -/
def nullFormsUptoRow : OpenClaim := { program := "ytagjbgmfeghgnaa", sum := "60e0cbb0c7399a6f9a0fa0dda1f9db6bce24b1de9a4f8c425c276da91d09b90b", func := "colonnade/colonnadelaw3.NullForms", spec := "nullForms", apart := false, narrowed := true }
def NullFormsUptoSaid : Prop := nullFormsUptoRow.holds Try.pinned (OpenSpec.upto nullFormsSpec)

/-- 'colonnadelaw4.IcolForms', WHERE WHAT IT READS IS OF BULK AT MOST 1048576: true; the input reads as it did. -/
def icolFormsUptoRow : OpenClaim := { program := "ytagjbgmfeghgnaa", sum := "60e0cbb0c7399a6f9a0fa0dda1f9db6bce24b1de9a4f8c425c276da91d09b90b", func := "colonnade/colonnadelaw4.IcolForms", spec := "icolForms", unfollowed := true, recurses := true, apart := false, narrowed := true }
def IcolFormsUptoSaid : Prop := icolFormsUptoRow.holds Try.pinned (OpenSpec.upto icolFormsSpec)

/-- 'colonnadelaw5.BcolForms', WHERE WHAT IT READS IS OF BULK AT MOST 1048576: true; the input reads as it did. -/
def bcolFormsUptoRow : OpenClaim := { program := "ytagjbgmfeghgnaa", sum := "60e0cbb0c7399a6f9a0fa0dda1f9db6bce24b1de9a4f8c425c276da91d09b90b", func := "colonnade/colonnadelaw5.BcolForms", spec := "bcolForms", inPlace := ["internal/bytealg.Compare"], unfollowed := true, recurses := true, apart := false, narrowed := true }
def BcolFormsUptoSaid : Prop := bcolFormsUptoRow.holds Try.pinned (OpenSpec.upto bcolFormsSpec)

/-- 'colonnadelaw6.SchmForms', WHERE WHAT IT READS IS OF BULK AT MOST 1048576: true; the input reads as it did. -/
def schmFormsUptoRow : OpenClaim := { program := "ytagjbgmfeghgnaa", sum := "60e0cbb0c7399a6f9a0fa0dda1f9db6bce24b1de9a4f8c425c276da91d09b90b", func := "colonnade/colonnadelaw6.SchmForms", spec := "schmForms", inPlace := ["internal/bytealg.Compare"], unfollowed := true, recurses := true, apart := false, narrowed := true }
def SchmFormsUptoSaid : Prop := schmFormsUptoRow.holds Try.pinned (OpenSpec.upto schmFormsSpec)

/-- 'colonnadelaw7.PredForms', WHERE WHAT IT READS IS OF BULK AT MOST 1048576: true; the input reads as it did. -/
def predFormsUptoRow : OpenClaim := { program := "ytagjbgmfeghgnaa", sum := "60e0cbb0c7399a6f9a0fa0dda1f9db6bce24b1de9a4f8c425c276da91d09b90b", func := "colonnade/colonnadelaw7.PredForms", spec := "predForms", inPlace := ["internal/bytealg.Compare"], unfollowed := true, recurses := true, apart := false, narrowed := true }
def PredFormsUptoSaid : Prop := predFormsUptoRow.holds Try.pinned (OpenSpec.upto predFormsSpec)

/-- 'colonnadelaw8.NormForms', WHERE WHAT IT READS IS OF BULK AT MOST 1048576: true; the input reads as it did. -/
def normFormsUptoRow : OpenClaim := { program := "ytagjbgmfeghgnaa", sum := "60e0cbb0c7399a6f9a0fa0dda1f9db6bce24b1de9a4f8c425c276da91d09b90b", func := "colonnade/colonnadelaw8.NormForms", spec := "normForms", unfollowed := true, recurses := true, apart := false, narrowed := true }
def NormFormsUptoSaid : Prop := normFormsUptoRow.holds Try.pinned (OpenSpec.upto normFormsSpec)

/-- 'colonnadelaw9.ZoneForms', WHERE WHAT IT READS IS OF BULK AT MOST 1048576: true; the input reads as it did. -/
def zoneFormsUptoRow : OpenClaim := { program := "ytagjbgmfeghgnaa", sum := "60e0cbb0c7399a6f9a0fa0dda1f9db6bce24b1de9a4f8c425c276da91d09b90b", func := "colonnade/colonnadelaw9.ZoneForms", spec := "zoneForms", inPlace := ["internal/bytealg.Compare"], unfollowed := true, recurses := true, apart := false, narrowed := true }
def ZoneFormsUptoSaid : Prop := zoneFormsUptoRow.holds Try.pinned (OpenSpec.upto zoneFormsSpec)

/-- 'colonnadelaw11.StamForms', WHERE WHAT IT READS IS OF BULK AT MOST 1048576: true; the input reads as it did. -/
def stamFormsUptoRow : OpenClaim := { program := "ytagjbgmfeghgnaa", sum := "60e0cbb0c7399a6f9a0fa0dda1f9db6bce24b1de9a4f8c425c276da91d09b90b", func := "colonnade/colonnadelaw11.StamForms", spec := "stamForms", unfollowed := true, recurses := true, apart := false, narrowed := true }
def StamFormsUptoSaid : Prop := stamFormsUptoRow.holds Try.pinned (OpenSpec.upto stamFormsSpec)

/-- 'colonnadelaw15.ExprForms', WHERE WHAT IT READS IS OF BULK AT MOST 1048576: true; the input reads as it did. -/
def exprFormsUptoRow : OpenClaim := { program := "ytagjbgmfeghgnaa", sum := "60e0cbb0c7399a6f9a0fa0dda1f9db6bce24b1de9a4f8c425c276da91d09b90b", func := "colonnade/colonnadelaw15.ExprForms", spec := "exprForms", unfollowed := true, recurses := true, apart := false, narrowed := true }
def ExprFormsUptoSaid : Prop := exprFormsUptoRow.holds Try.pinned (OpenSpec.upto exprFormsSpec)

/-- 'colonnadelaw16.AggrForms', WHERE WHAT IT READS IS OF BULK AT MOST 1048576: true; the input reads as it did. -/
def aggrFormsUptoRow : OpenClaim := { program := "ytagjbgmfeghgnaa", sum := "60e0cbb0c7399a6f9a0fa0dda1f9db6bce24b1de9a4f8c425c276da91d09b90b", func := "colonnade/colonnadelaw16.AggrForms", spec := "aggrForms", inPlace := ["internal/bytealg.Compare", "math/bits.Add64"], unfollowed := true, recurses := true, apart := false, narrowed := true }
def AggrFormsUptoSaid : Prop := aggrFormsUptoRow.holds Try.pinned (OpenSpec.upto aggrFormsSpec)

end Rows
end Go.Proofs.Ytagjbgmfeghgnaa
