/-
  No cell of these rows narrows 'for every input' (looked for: loops, veiled, ifaces, maps, wideKeys, modest, calm, conditions, laid).
  DERIVED. THE GIVEN ROWS OF THIS SEAT. 11 by the template 'for every input the law returns true; each argument reads behind the call as it read before'; 0 by the template 'total and deterministic' (their statements: YtmljonfeekfldaaTotals.lean).
  GIVEN WITH THE SEED: the statements are not yours to turn. If you find one false, say at which input.
  Laid BY PROGRAM, IN A SANDBOX (cutbox-rows.mjs): the forced cells as the released guide's own fill.sh prints them over the translation 215fb0b0bee12776… (all of the seat's roots in one cut). By AI agents, Wed Nov 11 2026. No macro, syntax, notation, axiom, sorry.
-/
import Derived.Test.YtmljonfeekfldaaChecked
import GoSem.Claim
import GoSem.ClaimJoined
import GoSem.ClaimMapViews
import Derived.JoinedTies
import Derived.KernelRfl
namespace Go.Proofs.Ytmljonfeekfldaa
/- THE CELL 'sum', in the pinned program and in every row, IS THE sha256 OF THE DUMP (.gsa) THAT YtmljonfeekfldaaProg.lean LOADS. Nothing in Lean hashes anything: it is a label: what it is worth is what the hold of that sum in a sandbox is worth. -/
noncomputable def Try.pinned : Pinned := { name := "ytmljonfeekfldaa", sum := "215fb0b0bee12776e5919aaf4b6f5568e3f303aeeb0d188974f805fac981adaa", checked := Try.checked }
namespace Rows
def none {H : Type} : Left H := { results := [], args := [] }

/-- 'colonnadelaw1.BitpForms': WHATEVER THE INPUT: true; the input reads as it did. -/
def bitpFormsSpec : ChangeSpec := { name := "bitpForms", fn := fun _ => fun
  | [d] => { results := [.lit (.bool true)], args := [d] }
  | _ => none }
def bitpFormsRow : OpenClaim := { program := "ytmljonfeekfldaa", sum := "215fb0b0bee12776e5919aaf4b6f5568e3f303aeeb0d188974f805fac981adaa", func := "colonnade/colonnadelaw1.BitpForms", spec := "bitpForms", apart := false }
def BitpFormsSaid : Prop := bitpFormsRow.holds Try.pinned (OpenSpec.ofChange bitpFormsSpec)

/-- ITS FALSE NEIGHBOUR: 'it returns false'. Refute it at one input. -/
def bitpFormsWrong : ChangeSpec := { name := "bitpForms", fn := fun _ => fun
  | [d] => { results := [.lit (.bool false)], args := [d] }
  | _ => none }
def BitpFormsWrongFalsely : Prop := bitpFormsRow.holds Try.pinned (OpenSpec.ofChange bitpFormsWrong)

/-- 'colonnadelaw1.BitpWidths': WHATEVER THE INPUT: true; the input reads as it did. -/
def bitpWidthsSpec : ChangeSpec := { name := "bitpWidths", fn := fun _ => fun
  | [d] => { results := [.lit (.bool true)], args := [d] }
  | _ => none }
def bitpWidthsRow : OpenClaim := { program := "ytmljonfeekfldaa", sum := "215fb0b0bee12776e5919aaf4b6f5568e3f303aeeb0d188974f805fac981adaa", func := "colonnade/colonnadelaw1.BitpWidths", spec := "bitpWidths", apart := false }
def BitpWidthsSaid : Prop := bitpWidthsRow.holds Try.pinned (OpenSpec.ofChange bitpWidthsSpec)

/-- ITS FALSE NEIGHBOUR: 'it returns false'. Refute it at one input. -/
def bitpWidthsWrong : ChangeSpec := { name := "bitpWidths", fn := fun _ => fun
  | [d] => { results := [.lit (.bool false)], args := [d] }
  | _ => none }
def BitpWidthsWrongFalsely : Prop := bitpWidthsRow.holds Try.pinned (OpenSpec.ofChange bitpWidthsWrong)

/-- 'colonnadelaw1.BitpOwn': WHATEVER THE INPUT: true; the input reads as it did. -/
def bitpOwnSpec : ChangeSpec := { name := "bitpOwn", fn := fun _ => fun
  | [d1, d2, d3, d4] => { results := [.lit (.bool true)], args := [d1, d2, d3, d4] }
  | _ => none }
def bitpOwnRow : OpenClaim := { program := "ytmljonfeekfldaa", sum := "215fb0b0bee12776e5919aaf4b6f5568e3f303aeeb0d188974f805fac981adaa", func := "colonnade/colonnadelaw1.BitpOwn", spec := "bitpOwn", apart := false }
def BitpOwnSaid : Prop := bitpOwnRow.holds Try.pinned (OpenSpec.ofChange bitpOwnSpec)

/-- ITS FALSE NEIGHBOUR: 'it returns false'. Refute it at one input. -/
def bitpOwnWrong : ChangeSpec := { name := "bitpOwn", fn := fun _ => fun
  | [d1, d2, d3, d4] => { results := [.lit (.bool false)], args := [d1, d2, d3, d4] }
  | _ => none }
def BitpOwnWrongFalsely : Prop := bitpOwnRow.holds Try.pinned (OpenSpec.ofChange bitpOwnWrong)

/-- 'colonnadelaw1.BitpTells': WHATEVER THE INPUT: true; the input reads as it did. -/
def bitpTellsSpec : ChangeSpec := { name := "bitpTells", fn := fun _ => fun
  | [d1, d2, d3, d4, d5, d6, d7] => { results := [.lit (.bool true)], args := [d1, d2, d3, d4, d5, d6, d7] }
  | _ => none }
def bitpTellsRow : OpenClaim := { program := "ytmljonfeekfldaa", sum := "215fb0b0bee12776e5919aaf4b6f5568e3f303aeeb0d188974f805fac981adaa", func := "colonnade/colonnadelaw1.BitpTells", spec := "bitpTells", apart := false }
def BitpTellsSaid : Prop := bitpTellsRow.holds Try.pinned (OpenSpec.ofChange bitpTellsSpec)

/-- ITS FALSE NEIGHBOUR: 'it returns false'. Refute it at one input. -/
def bitpTellsWrong : ChangeSpec := { name := "bitpTells", fn := fun _ => fun
  | [d1, d2, d3, d4, d5, d6, d7] => { results := [.lit (.bool false)], args := [d1, d2, d3, d4, d5, d6, d7] }
  | _ => none }
def BitpTellsWrongFalsely : Prop := bitpTellsRow.holds Try.pinned (OpenSpec.ofChange bitpTellsWrong)

/-- 'colonnadelaw1.BitpBack': WHATEVER THE INPUT: true; the input reads as it did. -/
def bitpBackSpec : ChangeSpec := { name := "bitpBack", fn := fun _ => fun
  | [d1, d2] => { results := [.lit (.bool true)], args := [d1, d2] }
  | _ => none }
def bitpBackRow : OpenClaim := { program := "ytmljonfeekfldaa", sum := "215fb0b0bee12776e5919aaf4b6f5568e3f303aeeb0d188974f805fac981adaa", func := "colonnade/colonnadelaw1.BitpBack", spec := "bitpBack", apart := false }
def BitpBackSaid : Prop := bitpBackRow.holds Try.pinned (OpenSpec.ofChange bitpBackSpec)

/-- ITS FALSE NEIGHBOUR: 'it returns false'. Refute it at one input. -/
def bitpBackWrong : ChangeSpec := { name := "bitpBack", fn := fun _ => fun
  | [d1, d2] => { results := [.lit (.bool false)], args := [d1, d2] }
  | _ => none }
def BitpBackWrongFalsely : Prop := bitpBackRow.holds Try.pinned (OpenSpec.ofChange bitpBackWrong)

/-- 'colonnadelaw2.CodeForms': WHATEVER THE INPUT: true; the input reads as it did. -/
def codeFormsSpec : ChangeSpec := { name := "codeForms", fn := fun _ => fun
  | [d] => { results := [.lit (.bool true)], args := [d] }
  | _ => none }
def codeFormsRow : OpenClaim := { program := "ytmljonfeekfldaa", sum := "215fb0b0bee12776e5919aaf4b6f5568e3f303aeeb0d188974f805fac981adaa", func := "colonnade/colonnadelaw2.CodeForms", spec := "codeForms", apart := false }
def CodeFormsSaid : Prop := codeFormsRow.holds Try.pinned (OpenSpec.ofChange codeFormsSpec)

/-- ITS FALSE NEIGHBOUR: 'it returns false'. Refute it at one input. -/
def codeFormsWrong : ChangeSpec := { name := "codeForms", fn := fun _ => fun
  | [d] => { results := [.lit (.bool false)], args := [d] }
  | _ => none }
def CodeFormsWrongFalsely : Prop := codeFormsRow.holds Try.pinned (OpenSpec.ofChange codeFormsWrong)

/-- 'colonnadelaw2.CodeZigs': WHATEVER THE INPUT: true; the input reads as it did. -/
def codeZigsSpec : ChangeSpec := { name := "codeZigs", fn := fun _ => fun
  | [d] => { results := [.lit (.bool true)], args := [d] }
  | _ => none }
def codeZigsRow : OpenClaim := { program := "ytmljonfeekfldaa", sum := "215fb0b0bee12776e5919aaf4b6f5568e3f303aeeb0d188974f805fac981adaa", func := "colonnade/colonnadelaw2.CodeZigs", spec := "codeZigs", apart := false }
def CodeZigsSaid : Prop := codeZigsRow.holds Try.pinned (OpenSpec.ofChange codeZigsSpec)

/-- ITS FALSE NEIGHBOUR: 'it returns false'. Refute it at one input. -/
def codeZigsWrong : ChangeSpec := { name := "codeZigs", fn := fun _ => fun
  | [d] => { results := [.lit (.bool false)], args := [d] }
  | _ => none }
def CodeZigsWrongFalsely : Prop := codeZigsRow.holds Try.pinned (OpenSpec.ofChange codeZigsWrong)

/-- 'colonnadelaw2.CodeRows': WHATEVER THE INPUT: true; the input reads as it did. -/
def codeRowsSpec : ChangeSpec := { name := "codeRows", fn := fun _ => fun
  | [d1, d2, d3] => { results := [.lit (.bool true)], args := [d1, d2, d3] }
  | _ => none }
def codeRowsRow : OpenClaim := { program := "ytmljonfeekfldaa", sum := "215fb0b0bee12776e5919aaf4b6f5568e3f303aeeb0d188974f805fac981adaa", func := "colonnade/colonnadelaw2.CodeRows", spec := "codeRows", apart := false }
def CodeRowsSaid : Prop := codeRowsRow.holds Try.pinned (OpenSpec.ofChange codeRowsSpec)

/-- ITS FALSE NEIGHBOUR: 'it returns false'. Refute it at one input. -/
def codeRowsWrong : ChangeSpec := { name := "codeRows", fn := fun _ => fun
  | [d1, d2, d3] => { results := [.lit (.bool false)], args := [d1, d2, d3] }
  | _ => none }
def CodeRowsWrongFalsely : Prop := codeRowsRow.holds Try.pinned (OpenSpec.ofChange codeRowsWrong)

/-- 'colonnadelaw3.NullForms': WHATEVER THE INPUT: true; the input reads as it did. -/
def nullFormsSpec : ChangeSpec := { name := "nullForms", fn := fun _ => fun
  | [d] => { results := [.lit (.bool true)], args := [d] }
  | _ => none }
def nullFormsRow : OpenClaim := { program := "ytmljonfeekfldaa", sum := "215fb0b0bee12776e5919aaf4b6f5568e3f303aeeb0d188974f805fac981adaa", func := "colonnade/colonnadelaw3.NullForms", spec := "nullForms", apart := false }
def NullFormsSaid : Prop := nullFormsRow.holds Try.pinned (OpenSpec.ofChange nullFormsSpec)

/-- ITS FALSE NEIGHBOUR: 'it returns false'. Refute it at one input. -/
def nullFormsWrong : ChangeSpec := { name := "nullForms", fn := fun _ => fun
  | [d] => { results := [.lit (.bool false)], args := [d] }
  | _ => none }
def NullFormsWrongFalsely : Prop := nullFormsRow.holds Try.pinned (OpenSpec.ofChange nullFormsWrong)

/-- 'colonnadelaw3.NullBack': WHATEVER THE INPUT: true; the input reads as it did. -/
def nullBackSpec : ChangeSpec := { name := "nullBack", fn := fun _ => fun
  | [d1, d2, d3] => { results := [.lit (.bool true)], args := [d1, d2, d3] }
  | _ => none }
def nullBackRow : OpenClaim := { program := "ytmljonfeekfldaa", sum := "215fb0b0bee12776e5919aaf4b6f5568e3f303aeeb0d188974f805fac981adaa", func := "colonnade/colonnadelaw3.NullBack", spec := "nullBack", apart := false }
def NullBackSaid : Prop := nullBackRow.holds Try.pinned (OpenSpec.ofChange nullBackSpec)

/-- ITS FALSE NEIGHBOUR: 'it returns false'. Refute it at one input. -/
def nullBackWrong : ChangeSpec := { name := "nullBack", fn := fun _ => fun
  | [d1, d2, d3] => { results := [.lit (.bool false)], args := [d1, d2, d3] }
  | _ => none }
def NullBackWrongFalsely : Prop := nullBackRow.holds Try.pinned (OpenSpec.ofChange nullBackWrong)

/-- 'colonnadelaw3.NullTells': WHATEVER THE INPUT: true; the input reads as it did. -/
def nullTellsSpec : ChangeSpec := { name := "nullTells", fn := fun _ => fun
  | [d1, d2, d3, d4, d5] => { results := [.lit (.bool true)], args := [d1, d2, d3, d4, d5] }
  | _ => none }
def nullTellsRow : OpenClaim := { program := "ytmljonfeekfldaa", sum := "215fb0b0bee12776e5919aaf4b6f5568e3f303aeeb0d188974f805fac981adaa", func := "colonnade/colonnadelaw3.NullTells", spec := "nullTells", apart := false }
def NullTellsSaid : Prop := nullTellsRow.holds Try.pinned (OpenSpec.ofChange nullTellsSpec)

/-- ITS FALSE NEIGHBOUR: 'it returns false'. Refute it at one input. -/
def nullTellsWrong : ChangeSpec := { name := "nullTells", fn := fun _ => fun
  | [d1, d2, d3, d4, d5] => { results := [.lit (.bool false)], args := [d1, d2, d3, d4, d5] }
  | _ => none }
def NullTellsWrongFalsely : Prop := nullTellsRow.holds Try.pinned (OpenSpec.ofChange nullTellsWrong)

/- THE SECOND FORM. 'bulk': how many values and letters a reading holds, each counted each time it is reached (what is shared counts as often as it is met; a slice's spare places count too). A statement '..UptoSaid' is the law's where the arguments, and the package variables that the reading takes, are together of bulk at most 1048576: NARROWER than '..Said'. Prove '..Said' where nothing that the law and all that it calls make is longer than what came in: it says more and counts as full. Else prove '..UptoSaid'. A law counts once. -/
mutual
def uptoBulk {H : Type} : DataW H → Nat
  | .lit (.string bytes) => bytes.length + 1
  | .lit _ => 1
  | .nil => 1
  | .ptr d => uptoBulk d + 1
  | .slice elems spare => uptoBulkAll elems + uptoBulkAll spare + 1
  | .agg parts => uptoBulkAll parts + 1
  | .iface _ d => uptoBulk d + 1
  | .map entries => uptoBulkEntries entries + 1
  | .held _ => 1
def uptoBulkAll {H : Type} : List (DataW H) → Nat
  | [] => 0
  | d :: r => uptoBulk d + uptoBulkAll r
def uptoBulkEntries {H : Type} : List (Lit × DataW H) → Nat
  | [] => 0
  | x :: r => uptoBulkEntry x + uptoBulkEntries r
def uptoBulkEntry {H : Type} : Lit × DataW H → Nat
  | (.string bytes, d) => bytes.length + uptoBulk d + 1
  | (_, d) => uptoBulk d + 1
 end
def uptoSmall : (H : Type) → List (DataW H) → Bool := fun _ ds => decide (uptoBulkAll ds ≤ 1048576)
def OpenSpec.upto (s : _root_.Go.ChangeSpec) : _root_.Go.OpenSpec := { _root_.Go.OpenSpec.ofChange s with cond := some uptoSmall }

/-- 'colonnadelaw1.BitpForms', WHERE WHAT IT READS IS OF BULK AT MOST 1048576: true; the input reads as it did. -/
def bitpFormsUptoRow : OpenClaim := { program := "ytmljonfeekfldaa", sum := "215fb0b0bee12776e5919aaf4b6f5568e3f303aeeb0d188974f805fac981adaa", func := "colonnade/colonnadelaw1.BitpForms", spec := "bitpForms", apart := false, narrowed := true }
def BitpFormsUptoSaid : Prop := bitpFormsUptoRow.holds Try.pinned (OpenSpec.upto bitpFormsSpec)

/-- 'colonnadelaw1.BitpWidths', WHERE WHAT IT READS IS OF BULK AT MOST 1048576: true; the input reads as it did. -/
def bitpWidthsUptoRow : OpenClaim := { program := "ytmljonfeekfldaa", sum := "215fb0b0bee12776e5919aaf4b6f5568e3f303aeeb0d188974f805fac981adaa", func := "colonnade/colonnadelaw1.BitpWidths", spec := "bitpWidths", apart := false, narrowed := true }
def BitpWidthsUptoSaid : Prop := bitpWidthsUptoRow.holds Try.pinned (OpenSpec.upto bitpWidthsSpec)

/-- 'colonnadelaw1.BitpOwn', WHERE WHAT IT READS IS OF BULK AT MOST 1048576: true; the input reads as it did. -/
def bitpOwnUptoRow : OpenClaim := { program := "ytmljonfeekfldaa", sum := "215fb0b0bee12776e5919aaf4b6f5568e3f303aeeb0d188974f805fac981adaa", func := "colonnade/colonnadelaw1.BitpOwn", spec := "bitpOwn", apart := false, narrowed := true }
def BitpOwnUptoSaid : Prop := bitpOwnUptoRow.holds Try.pinned (OpenSpec.upto bitpOwnSpec)

/-- 'colonnadelaw1.BitpTells', WHERE WHAT IT READS IS OF BULK AT MOST 1048576: true; the input reads as it did. -/
def bitpTellsUptoRow : OpenClaim := { program := "ytmljonfeekfldaa", sum := "215fb0b0bee12776e5919aaf4b6f5568e3f303aeeb0d188974f805fac981adaa", func := "colonnade/colonnadelaw1.BitpTells", spec := "bitpTells", apart := false, narrowed := true }
def BitpTellsUptoSaid : Prop := bitpTellsUptoRow.holds Try.pinned (OpenSpec.upto bitpTellsSpec)

/-- 'colonnadelaw1.BitpBack', WHERE WHAT IT READS IS OF BULK AT MOST 1048576: true; the input reads as it did. -/
def bitpBackUptoRow : OpenClaim := { program := "ytmljonfeekfldaa", sum := "215fb0b0bee12776e5919aaf4b6f5568e3f303aeeb0d188974f805fac981adaa", func := "colonnade/colonnadelaw1.BitpBack", spec := "bitpBack", apart := false, narrowed := true }
def BitpBackUptoSaid : Prop := bitpBackUptoRow.holds Try.pinned (OpenSpec.upto bitpBackSpec)

/-- 'colonnadelaw2.CodeForms', WHERE WHAT IT READS IS OF BULK AT MOST 1048576: true; the input reads as it did. -/
def codeFormsUptoRow : OpenClaim := { program := "ytmljonfeekfldaa", sum := "215fb0b0bee12776e5919aaf4b6f5568e3f303aeeb0d188974f805fac981adaa", func := "colonnade/colonnadelaw2.CodeForms", spec := "codeForms", apart := false, narrowed := true }
def CodeFormsUptoSaid : Prop := codeFormsUptoRow.holds Try.pinned (OpenSpec.upto codeFormsSpec)

/-- 'colonnadelaw2.CodeZigs', WHERE WHAT IT READS IS OF BULK AT MOST 1048576: true; the input reads as it did. -/
def codeZigsUptoRow : OpenClaim := { program := "ytmljonfeekfldaa", sum := "215fb0b0bee12776e5919aaf4b6f5568e3f303aeeb0d188974f805fac981adaa", func := "colonnade/colonnadelaw2.CodeZigs", spec := "codeZigs", apart := false, narrowed := true }
def CodeZigsUptoSaid : Prop := codeZigsUptoRow.holds Try.pinned (OpenSpec.upto codeZigsSpec)

/-- 'colonnadelaw2.CodeRows', WHERE WHAT IT READS IS OF BULK AT MOST 1048576: true; the input reads as it did. -/
def codeRowsUptoRow : OpenClaim := { program := "ytmljonfeekfldaa", sum := "215fb0b0bee12776e5919aaf4b6f5568e3f303aeeb0d188974f805fac981adaa", func := "colonnade/colonnadelaw2.CodeRows", spec := "codeRows", apart := false, narrowed := true }
def CodeRowsUptoSaid : Prop := codeRowsUptoRow.holds Try.pinned (OpenSpec.upto codeRowsSpec)

/-- 'colonnadelaw3.NullForms', WHERE WHAT IT READS IS OF BULK AT MOST 1048576: true; the input reads as it did. -/
def nullFormsUptoRow : OpenClaim := { program := "ytmljonfeekfldaa", sum := "215fb0b0bee12776e5919aaf4b6f5568e3f303aeeb0d188974f805fac981adaa", func := "colonnade/colonnadelaw3.NullForms", spec := "nullForms", apart := false, narrowed := true }
def NullFormsUptoSaid : Prop := nullFormsUptoRow.holds Try.pinned (OpenSpec.upto nullFormsSpec)

/-- 'colonnadelaw3.NullBack', WHERE WHAT IT READS IS OF BULK AT MOST 1048576: true; the input reads as it did. -/
def nullBackUptoRow : OpenClaim := { program := "ytmljonfeekfldaa", sum := "215fb0b0bee12776e5919aaf4b6f5568e3f303aeeb0d188974f805fac981adaa", func := "colonnade/colonnadelaw3.NullBack", spec := "nullBack", apart := false, narrowed := true }
def NullBackUptoSaid : Prop := nullBackUptoRow.holds Try.pinned (OpenSpec.upto nullBackSpec)

/-- 'colonnadelaw3.NullTells', WHERE WHAT IT READS IS OF BULK AT MOST 1048576: true; the input reads as it did. -/
def nullTellsUptoRow : OpenClaim := { program := "ytmljonfeekfldaa", sum := "215fb0b0bee12776e5919aaf4b6f5568e3f303aeeb0d188974f805fac981adaa", func := "colonnade/colonnadelaw3.NullTells", spec := "nullTells", apart := false, narrowed := true }
def NullTellsUptoSaid : Prop := nullTellsUptoRow.holds Try.pinned (OpenSpec.upto nullTellsSpec)

end Rows
end Go.Proofs.Ytmljonfeekfldaa
