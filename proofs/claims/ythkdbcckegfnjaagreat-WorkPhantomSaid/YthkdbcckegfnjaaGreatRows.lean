/-
  No cell of these rows narrows 'for every input' (looked for: loops, veiled, ifaces, maps, wideKeys, modest, calm, conditions, laid).
  DERIVED. THE GIVEN ROWS OF THIS SEAT. 2 by the template 'for every input the law returns true; each argument reads behind the call as it read before'; 0 by the template 'total and deterministic' (their statements: YthkdbcckegfnjaaGreatTotals.lean).
  GIVEN WITH THE SEED: the statements are not yours to turn. If you find one false, say at which input.
  Laid BY PROGRAM, IN A SANDBOX (cutbox-rows.mjs): the forced cells as the released guide's own fill.sh prints them over the translation 05ac2bc2a2829151… (all of the seat's roots in one cut). By AI agents, Wed Nov 11 2026. No macro, syntax, notation, axiom, sorry.
-/
import Derived.Test.YthkdbcckegfnjaaGreatChecked
import GoSem.Claim
import GoSem.ClaimJoined
import GoSem.ClaimMapViews
import Derived.JoinedTies
import Derived.KernelRfl
namespace Go.Proofs.YthkdbcckegfnjaaGreat
/- THE CELL 'sum', in the pinned program and in every row, IS THE sha256 OF THE DUMP (.gsa) THAT YthkdbcckegfnjaaGreatProg.lean LOADS. Nothing in Lean hashes anything: it is a label: what it is worth is what the hold of that sum in a sandbox is worth. -/
noncomputable def Tryz.pinned : Pinned := { name := "ythkdbcckegfnjaagreat", sum := "05ac2bc2a2829151da71e35af19adf576d9a3664c5ef4f00dda4f266c675afef", checked := Tryz.checked }
namespace Rows
def none {H : Type} : Left H := { results := [], args := [] }

/-- 'colonnadelaw20.WorkFull': WHATEVER THE INPUT: true; the input reads as it did. -/
def workFullSpec : ChangeSpec := { name := "workFull", fn := fun _ => fun
  | [d1, d2] => { results := [.lit (.bool true)], args := [d1, d2] }
  | _ => none }
def workFullRow : OpenClaim := { program := "ythkdbcckegfnjaagreat", sum := "05ac2bc2a2829151da71e35af19adf576d9a3664c5ef4f00dda4f266c675afef", func := "colonnade/colonnadelaw20.WorkFull", spec := "workFull", inPlace := ["internal/bytealg.Compare", "slices.overlaps[colonnade/api.Version]", "math/bits.Add64"], unfollowed := true, recurses := true, apart := false }
def WorkFullSaid : Prop := workFullRow.holds Tryz.pinned (OpenSpec.ofChange workFullSpec)

/-- ITS FALSE NEIGHBOUR: 'it returns false'. Refute it at one input. -/
def workFullWrong : ChangeSpec := { name := "workFull", fn := fun _ => fun
  | [d1, d2] => { results := [.lit (.bool false)], args := [d1, d2] }
  | _ => none }
def WorkFullWrongFalsely : Prop := workFullRow.holds Tryz.pinned (OpenSpec.ofChange workFullWrong)

/-- 'colonnadelaw20.WorkPhantom': WHATEVER THE INPUT: true; the input reads as it did. -/
def workPhantomSpec : ChangeSpec := { name := "workPhantom", fn := fun _ => fun
  | [d1, d2, d3] => { results := [.lit (.bool true)], args := [d1, d2, d3] }
  | _ => none }
def workPhantomRow : OpenClaim := { program := "ythkdbcckegfnjaagreat", sum := "05ac2bc2a2829151da71e35af19adf576d9a3664c5ef4f00dda4f266c675afef", func := "colonnade/colonnadelaw20.WorkPhantom", spec := "workPhantom", inPlace := ["internal/bytealg.Compare", "slices.overlaps[colonnade/api.Version]", "math/bits.Add64"], unfollowed := true, recurses := true, apart := false }
def WorkPhantomSaid : Prop := workPhantomRow.holds Tryz.pinned (OpenSpec.ofChange workPhantomSpec)

/-- ITS FALSE NEIGHBOUR: 'it returns false'. Refute it at one input. -/
def workPhantomWrong : ChangeSpec := { name := "workPhantom", fn := fun _ => fun
  | [d1, d2, d3] => { results := [.lit (.bool false)], args := [d1, d2, d3] }
  | _ => none }
def WorkPhantomWrongFalsely : Prop := workPhantomRow.holds Tryz.pinned (OpenSpec.ofChange workPhantomWrong)

/- THE SECOND FORM. 'bulk': how many values and letters a reading holds, each counted each time it is reached (what is shared counts as often as it is met; a slice's spare places count too). A statement '..UptoSaid' is the law's where the arguments, and the package variables that the reading takes, are together of bulk at most 1048576: NARROWER than '..Said'. Prove '..Said' where nothing that the law and all that it calls make is longer than what came in: it says more and counts as full. Else prove '..UptoSaid'. A law counts once. -/
mutual
def uptoBulk {H : Type} : DataW H → Nat
  | .lit (.string bytes) => bytes.length + 1
  | .lit _ => 1
  | .nil => 1
  | .ptr d => uptoBulk d + 1
  | .slice elems spare => uptoBulkAll elems + uptoBulkAll spare + 1
  | .agg parts => uptoBulkAll parts + 1
  | .iface _ d => uptoBulk d + 1
  | .map entries => uptoBulkEntries entries + 1
  | .held _ => 1
def uptoBulkAll {H : Type} : List (DataW H) → Nat
  | [] => 0
  | d :: r => uptoBulk d + uptoBulkAll r
def uptoBulkEntries {H : Type} : List (Lit × DataW H) → Nat
  | [] => 0
  | x :: r => uptoBulkEntry x + uptoBulkEntries r
def uptoBulkEntry {H : Type} : Lit × DataW H → Nat
  | (.string bytes, d) => bytes.length + uptoBulk d + 1
  | (_, d) => uptoBulk d + 1
 end
def uptoSmall : (H : Type) → List (DataW H) → Bool := fun _ ds => decide (uptoBulkAll ds ≤ 1048576)
def OpenSpec.upto (s : _root_.Go.ChangeSpec) : _root_.Go.OpenSpec := { _root_.Go.OpenSpec.ofChange s with cond := some uptoSmall }

/-- 'colonnadelaw20.WorkFull', WHERE WHAT IT READS IS OF BULK AT MOST 1048576: true; the input reads as it did. -/
def workFullUptoRow : OpenClaim := { program := "ythkdbcckegfnjaagreat", sum := "05ac2bc2a2829151da71e35af19adf576d9a3664c5ef4f00dda4f266c675afef", func := "colonnade/colonnadelaw20.WorkFull", spec := "workFull", inPlace := ["internal/bytealg.Compare", "slices.overlaps[colonnade/api.Version]", "math/bits.Add64"], unfollowed := true, recurses := true, apart := false, narrowed := true }
def WorkFullUptoSaid : Prop := workFullUptoRow.holds Tryz.pinned (OpenSpec.upto workFullSpec)

/-- 'colonnadelaw20.WorkPhantom', WHERE WHAT IT READS IS OF BULK AT MOST 1048576: true; the input reads as it did. -/
def workPhantomUptoRow : OpenClaim := { program := "ythkdbcckegfnjaagreat", sum := "05ac2bc2a2829151da71e35af19adf576d9a3664c5ef4f00dda4f266c675afef", func := "colonnade/colonnadelaw20.WorkPhantom", spec := "workPhantom", inPlace := ["internal/bytealg.Compare", "slices.overlaps[colonnade/api.Version]", "math/bits.Add64"], unfollowed := true, recurses := true, apart := false, narrowed := true }
def WorkPhantomUptoSaid : Prop := workPhantomUptoRow.holds Tryz.pinned (OpenSpec.upto workPhantomSpec)

end Rows
end Go.Proofs.YthkdbcckegfnjaaGreat
