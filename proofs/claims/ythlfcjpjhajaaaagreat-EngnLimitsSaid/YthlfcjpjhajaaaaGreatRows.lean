/-
  No cell of these rows narrows 'for every input' (looked for: loops, veiled, ifaces, maps, wideKeys, modest, calm, conditions, laid).
  DERIVED. THE GIVEN ROWS OF THIS SEAT. 7 by the template 'for every input the law returns true; each argument reads behind the call as it read before'; 0 by the template 'total and deterministic' (their statements: YthlfcjpjhajaaaaGreatTotals.lean).
  GIVEN WITH THE SEED: the statements are not yours to turn. If you find one false, say at which input.
  Laid BY PROGRAM, IN A SANDBOX (cutbox-rows.mjs): the forced cells as the released guide's own fill.sh prints them over the translation 9183eb265e4dc109… (all of the seat's roots in one cut). By AI agents, Wed Nov 11 2026. No macro, syntax, notation, axiom, sorry.
-/
import Derived.Test.YthlfcjpjhajaaaaGreatChecked
import GoSem.Claim
import GoSem.ClaimJoined
import GoSem.ClaimMapViews
import Derived.JoinedTies
import Derived.KernelRfl
namespace Go.Proofs.YthlfcjpjhajaaaaGreat
/- THE CELL 'sum', in the pinned program and in every row, IS THE sha256 OF THE DUMP (.gsa) THAT YthlfcjpjhajaaaaGreatProg.lean LOADS. Nothing in Lean hashes anything: it is a label: what it is worth is what the hold of that sum in a sandbox is worth. -/
noncomputable def Tryz.pinned : Pinned := { name := "ythlfcjpjhajaaaagreat", sum := "9183eb265e4dc109b233827170b05810699331408cfd946d346d411213c5e561", checked := Tryz.checked }
namespace Rows
def none {H : Type} : Left H := { results := [], args := [] }

/-- 'colonnadelaw17.ModlForms': WHATEVER THE INPUT: true; the input reads as it did. -/
def modlFormsSpec : ChangeSpec := { name := "modlForms", fn := fun _ => fun
  | [d] => { results := [.lit (.bool true)], args := [d] }
  | _ => none }
def modlFormsRow : OpenClaim := { program := "ythlfcjpjhajaaaagreat", sum := "9183eb265e4dc109b233827170b05810699331408cfd946d346d411213c5e561", func := "colonnade/colonnadelaw17.ModlForms", spec := "modlForms", inPlace := ["slices.overlaps[[]colonnade/api.Val]", "internal/bytealg.Compare", "math/bits.Add64"], unfollowed := true, recurses := true, apart := false }
def ModlFormsSaid : Prop := modlFormsRow.holds Tryz.pinned (OpenSpec.ofChange modlFormsSpec)

/-- ITS FALSE NEIGHBOUR: 'it returns false'. Refute it at one input. -/
def modlFormsWrong : ChangeSpec := { name := "modlForms", fn := fun _ => fun
  | [d] => { results := [.lit (.bool false)], args := [d] }
  | _ => none }
def ModlFormsWrongFalsely : Prop := modlFormsRow.holds Tryz.pinned (OpenSpec.ofChange modlFormsWrong)

/-- 'colonnadelaw23.HistForms': WHATEVER THE INPUT: true; the input reads as it did. -/
def histFormsSpec : ChangeSpec := { name := "histForms", fn := fun _ => fun
  | [d] => { results := [.lit (.bool true)], args := [d] }
  | _ => none }
def histFormsRow : OpenClaim := { program := "ythlfcjpjhajaaaagreat", sum := "9183eb265e4dc109b233827170b05810699331408cfd946d346d411213c5e561", func := "colonnade/colonnadelaw23.HistForms", spec := "histForms", inPlace := ["slices.overlaps[[]colonnade/api.Val]", "internal/bytealg.Compare", "math/bits.Add64"], unfollowed := true, recurses := true, apart := false }
def HistFormsSaid : Prop := histFormsRow.holds Tryz.pinned (OpenSpec.ofChange histFormsSpec)

/-- ITS FALSE NEIGHBOUR: 'it returns false'. Refute it at one input. -/
def histFormsWrong : ChangeSpec := { name := "histForms", fn := fun _ => fun
  | [d] => { results := [.lit (.bool false)], args := [d] }
  | _ => none }
def HistFormsWrongFalsely : Prop := histFormsRow.holds Tryz.pinned (OpenSpec.ofChange histFormsWrong)

/-- 'colonnadelaw20.WorkHangs': WHATEVER THE INPUT: true; the input reads as it did. -/
def workHangsSpec : ChangeSpec := { name := "workHangs", fn := fun _ => fun
  | [d1, d2] => { results := [.lit (.bool true)], args := [d1, d2] }
  | _ => none }
def workHangsRow : OpenClaim := { program := "ythlfcjpjhajaaaagreat", sum := "9183eb265e4dc109b233827170b05810699331408cfd946d346d411213c5e561", func := "colonnade/colonnadelaw20.WorkHangs", spec := "workHangs", inPlace := ["internal/bytealg.Compare", "slices.overlaps[colonnade/api.Version]", "math/bits.Add64"], unfollowed := true, recurses := true, apart := false }
def WorkHangsSaid : Prop := workHangsRow.holds Tryz.pinned (OpenSpec.ofChange workHangsSpec)

/-- ITS FALSE NEIGHBOUR: 'it returns false'. Refute it at one input. -/
def workHangsWrong : ChangeSpec := { name := "workHangs", fn := fun _ => fun
  | [d1, d2] => { results := [.lit (.bool false)], args := [d1, d2] }
  | _ => none }
def WorkHangsWrongFalsely : Prop := workHangsRow.holds Tryz.pinned (OpenSpec.ofChange workHangsWrong)

/-- 'colonnadelaw20.WorkFull': WHATEVER THE INPUT: true; the input reads as it did. -/
def workFullSpec : ChangeSpec := { name := "workFull", fn := fun _ => fun
  | [d1, d2] => { results := [.lit (.bool true)], args := [d1, d2] }
  | _ => none }
def workFullRow : OpenClaim := { program := "ythlfcjpjhajaaaagreat", sum := "9183eb265e4dc109b233827170b05810699331408cfd946d346d411213c5e561", func := "colonnade/colonnadelaw20.WorkFull", spec := "workFull", inPlace := ["internal/bytealg.Compare", "slices.overlaps[colonnade/api.Version]", "math/bits.Add64"], unfollowed := true, recurses := true, apart := false }
def WorkFullSaid : Prop := workFullRow.holds Tryz.pinned (OpenSpec.ofChange workFullSpec)

/-- ITS FALSE NEIGHBOUR: 'it returns false'. Refute it at one input. -/
def workFullWrong : ChangeSpec := { name := "workFull", fn := fun _ => fun
  | [d1, d2] => { results := [.lit (.bool false)], args := [d1, d2] }
  | _ => none }
def WorkFullWrongFalsely : Prop := workFullRow.holds Tryz.pinned (OpenSpec.ofChange workFullWrong)

/-- 'colonnadelaw20.WorkPhantom': WHATEVER THE INPUT: true; the input reads as it did. -/
def workPhantomSpec : ChangeSpec := { name := "workPhantom", fn := fun _ => fun
  | [d1, d2, d3] => { results := [.lit (.bool true)], args := [d1, d2, d3] }
  | _ => none }
def workPhantomRow : OpenClaim := { program := "ythlfcjpjhajaaaagreat", sum := "9183eb265e4dc109b233827170b05810699331408cfd946d346d411213c5e561", func := "colonnade/colonnadelaw20.WorkPhantom", spec := "workPhantom", inPlace := ["internal/bytealg.Compare", "slices.overlaps[colonnade/api.Version]", "math/bits.Add64"], unfollowed := true, recurses := true, apart := false }
def WorkPhantomSaid : Prop := workPhantomRow.holds Tryz.pinned (OpenSpec.ofChange workPhantomSpec)

/-- ITS FALSE NEIGHBOUR: 'it returns false'. Refute it at one input. -/
def workPhantomWrong : ChangeSpec := { name := "workPhantom", fn := fun _ => fun
  | [d1, d2, d3] => { results := [.lit (.bool false)], args := [d1, d2, d3] }
  | _ => none }
def WorkPhantomWrongFalsely : Prop := workPhantomRow.holds Tryz.pinned (OpenSpec.ofChange workPhantomWrong)

/-- 'colonnadelaw22.EngnLimits': WHATEVER THE INPUT: true; the input reads as it did. -/
def engnLimitsSpec : ChangeSpec := { name := "engnLimits", fn := fun _ => fun
  | [d1, d2, d3, d4] => { results := [.lit (.bool true)], args := [d1, d2, d3, d4] }
  | _ => none }
def engnLimitsRow : OpenClaim := { program := "ythlfcjpjhajaaaagreat", sum := "9183eb265e4dc109b233827170b05810699331408cfd946d346d411213c5e561", func := "colonnade/colonnadelaw22.EngnLimits", spec := "engnLimits", inPlace := ["internal/bytealg.Compare", "slices.overlaps[colonnade/api.Version]", "math/bits.Add64"], unfollowed := true, recurses := true, apart := false }
def EngnLimitsSaid : Prop := engnLimitsRow.holds Tryz.pinned (OpenSpec.ofChange engnLimitsSpec)

/-- ITS FALSE NEIGHBOUR: 'it returns false'. Refute it at one input. -/
def engnLimitsWrong : ChangeSpec := { name := "engnLimits", fn := fun _ => fun
  | [d1, d2, d3, d4] => { results := [.lit (.bool false)], args := [d1, d2, d3, d4] }
  | _ => none }
def EngnLimitsWrongFalsely : Prop := engnLimitsRow.holds Tryz.pinned (OpenSpec.ofChange engnLimitsWrong)

/-- 'colonnadelaw24.RondBounds': WHATEVER THE INPUT: true; the input reads as it did. -/
def rondBoundsSpec : ChangeSpec := { name := "rondBounds", fn := fun _ => fun
  | [d1, d2] => { results := [.lit (.bool true)], args := [d1, d2] }
  | _ => none }
def rondBoundsRow : OpenClaim := { program := "ythlfcjpjhajaaaagreat", sum := "9183eb265e4dc109b233827170b05810699331408cfd946d346d411213c5e561", func := "colonnade/colonnadelaw24.RondBounds", spec := "rondBounds", inPlace := ["internal/bytealg.Compare", "slices.overlaps[colonnade/api.Version]", "math/bits.Add64"], unfollowed := true, recurses := true, apart := false }
def RondBoundsSaid : Prop := rondBoundsRow.holds Tryz.pinned (OpenSpec.ofChange rondBoundsSpec)

/-- ITS FALSE NEIGHBOUR: 'it returns false'. Refute it at one input. -/
def rondBoundsWrong : ChangeSpec := { name := "rondBounds", fn := fun _ => fun
  | [d1, d2] => { results := [.lit (.bool false)], args := [d1, d2] }
  | _ => none }
def RondBoundsWrongFalsely : Prop := rondBoundsRow.holds Tryz.pinned (OpenSpec.ofChange rondBoundsWrong)

/- THE SECOND FORM. 'bulk': how many values and letters a reading holds, each counted each time it is reached (what is shared counts as often as it is met; a slice's spare places count too). A statement '..UptoSaid' is the law's where the arguments, and the package variables that the reading takes, are together of bulk at most 1048576: NARROWER than '..Said'. Prove '..Said' where nothing that the law and all that it calls make is longer than what came in: it says more and counts as full. Else prove '..UptoSaid'. A law counts once. -/
mutual
def uptoBulk {H : Type} : DataW H → Nat
  | .lit (.string bytes) => bytes.length + 1
  | .lit _ => 1
  | .nil => 1
  | .ptr d => uptoBulk d + 1
  | .slice elems spare => uptoBulkAll elems + uptoBulkAll spare + 1
  | .agg parts => uptoBulkAll parts + 1
  | .iface _ d => uptoBulk d + 1
  | .map entries => uptoBulkEntries entries + 1
  | .held _ => 1
def uptoBulkAll {H : Type} : List (DataW H) → Nat
  | [] => 0
  | d :: r => uptoBulk d + uptoBulkAll r
def uptoBulkEntries {H : Type} : List (Lit × DataW H) → Nat
  | [] => 0
  | x :: r => uptoBulkEntry x + uptoBulkEntries r
def uptoBulkEntry {H : Type} : Lit × DataW H → Nat
  | (.string bytes, d) => bytes.length + uptoBulk d + 1
  | (_, d) => uptoBulk d + 1
 end
def uptoSmall : (H : Type) → List (DataW H) → Bool := fun _ ds => decide (uptoBulkAll ds ≤ 1048576)
def OpenSpec.upto (s : _root_.Go.ChangeSpec) : _root_.Go.OpenSpec := { _root_.Go.OpenSpec.ofChange s with cond := some uptoSmall }

/-- 'colonnadelaw17.ModlForms', WHERE WHAT IT READS IS OF BULK AT MOST 1048576: true; the input reads as it did. -/
def modlFormsUptoRow : OpenClaim := { program := "ythlfcjpjhajaaaagreat", sum := "9183eb265e4dc109b233827170b05810699331408cfd946d346d411213c5e561", func := "colonnade/colonnadelaw17.ModlForms", spec := "modlForms", inPlace := ["slices.overlaps[[]colonnade/api.Val]", "internal/bytealg.Compare", "math/bits.Add64"], unfollowed := true, recurses := true, apart := false, narrowed := true }
def ModlFormsUptoSaid : Prop := modlFormsUptoRow.holds Tryz.pinned (OpenSpec.upto modlFormsSpec)

/-- 'colonnadelaw23.HistForms', WHERE WHAT IT READS IS OF BULK AT MOST 1048576: true; the input reads as it did. -/
def histFormsUptoRow : OpenClaim := { program := "ythlfcjpjhajaaaagreat", sum := "9183eb265e4dc109b233827170b05810699331408cfd946d346d411213c5e561", func := "colonnade/colonnadelaw23.HistForms", spec := "histForms", inPlace := ["slices.overlaps[[]colonnade/api.Val]", "internal/bytealg.Compare", "math/bits.Add64"], unfollowed := true, recurses := true, apart := false, narrowed := true }
def HistFormsUptoSaid : Prop := histFormsUptoRow.holds Tryz.pinned (OpenSpec.upto histFormsSpec)

/-- 'colonnadelaw20.WorkHangs', WHERE WHAT IT READS IS OF BULK AT MOST 1048576: true; the input reads as it did. -/
def workHangsUptoRow : OpenClaim := { program := "ythlfcjpjhajaaaagreat", sum := "9183eb265e4dc109b233827170b05810699331408cfd946d346d411213c5e561", func := "colonnade/colonnadelaw20.WorkHangs", spec := "workHangs", inPlace := ["internal/bytealg.Compare", "slices.overlaps[colonnade/api.Version]", "math/bits.Add64"], unfollowed := true, recurses := true, apart := false, narrowed := true }
def WorkHangsUptoSaid : Prop := workHangsUptoRow.holds Tryz.pinned (OpenSpec.upto workHangsSpec)

/-- 'colonnadelaw20.WorkFull', WHERE WHAT IT READS IS OF BULK AT MOST 1048576: true; the input reads as it did. -/
def workFullUptoRow : OpenClaim := { program := "ythlfcjpjhajaaaagreat", sum := "9183eb265e4dc109b233827170b05810699331408cfd946d346d411213c5e561", func := "colonnade/colonnadelaw20.WorkFull", spec := "workFull", inPlace := ["internal/bytealg.Compare", "slices.overlaps[colonnade/api.Version]", "math/bits.Add64"], unfollowed := true, recurses := true, apart := false, narrowed := true }
def WorkFullUptoSaid : Prop := workFullUptoRow.holds Tryz.pinned (OpenSpec.upto workFullSpec)

/-- 'colonnadelaw20.WorkPhantom', WHERE WHAT IT READS IS OF BULK AT MOST 1048576: true; the input reads as it did. -/
def workPhantomUptoRow : OpenClaim := { program := "ythlfcjpjhajaaaagreat", sum := "9183eb265e4dc109b233827170b05810699331408cfd946d346d411213c5e561", func := "colonnade/colonnadelaw20.WorkPhantom", spec := "workPhantom", inPlace := ["internal/bytealg.Compare", "slices.overlaps[colonnade/api.Version]", "math/bits.Add64"], unfollowed := true, recurses := true, apart := false, narrowed := true }
def WorkPhantomUptoSaid : Prop := workPhantomUptoRow.holds Tryz.pinned (OpenSpec.upto workPhantomSpec)

/-- 'colonnadelaw22.EngnLimits', WHERE WHAT IT READS IS OF BULK AT MOST 1048576: true; the input reads as it did. -/
def engnLimitsUptoRow : OpenClaim := { program := "ythlfcjpjhajaaaagreat", sum := "9183eb265e4dc109b233827170b05810699331408cfd946d346d411213c5e561", func := "colonnade/colonnadelaw22.EngnLimits", spec := "engnLimits", inPlace := ["internal/bytealg.Compare", "slices.overlaps[colonnade/api.Version]", "math/bits.Add64"], unfollowed := true, recurses := true, apart := false, narrowed := true }
def EngnLimitsUptoSaid : Prop := engnLimitsUptoRow.holds Tryz.pinned (OpenSpec.upto engnLimitsSpec)

/-- 'colonnadelaw24.RondBounds', WHERE WHAT IT READS IS OF BULK AT MOST 1048576: true; the input reads as it did. -/
def rondBoundsUptoRow : OpenClaim := { program := "ythlfcjpjhajaaaagreat", sum := "9183eb265e4dc109b233827170b05810699331408cfd946d346d411213c5e561", func := "colonnade/colonnadelaw24.RondBounds", spec := "rondBounds", inPlace := ["internal/bytealg.Compare", "slices.overlaps[colonnade/api.Version]", "math/bits.Add64"], unfollowed := true, recurses := true, apart := false, narrowed := true }
def RondBoundsUptoSaid : Prop := rondBoundsUptoRow.holds Tryz.pinned (OpenSpec.upto rondBoundsSpec)

end Rows
end Go.Proofs.YthlfcjpjhajaaaaGreat
