/-
  No cell of these rows narrows 'for every input' (looked for: loops, veiled, ifaces, maps, wideKeys, modest, calm, conditions, laid).
  DERIVED. THE GIVEN ROWS OF THIS SEAT. 3 by the template 'for every input the law returns true; each argument reads behind the call as it read before'; 0 by the template 'total and deterministic' (their statements: YtegphibgiicjpaaTotals.lean).
  GIVEN WITH THE SEED: the statements are not yours to turn. If you find one false, say at which input.
  Laid BY PROGRAM, IN A SANDBOX (cutbox-rows.mjs): the forced cells as the released guide's own fill.sh prints them over the translation faf219d2f7c3b814… (all of the seat's roots in one cut). By AI agents, Wed Nov 11 2026. No macro, syntax, notation, axiom, sorry.
-/
import Derived.Test.YtegphibgiicjpaaChecked
import GoSem.Claim
import GoSem.ClaimJoined
import GoSem.ClaimMapViews
import Derived.JoinedTies
import Derived.KernelRfl
namespace Go.Proofs.Ytegphibgiicjpaa
/- THE CELL 'sum', in the pinned program and in every row, IS THE sha256 OF THE DUMP (.gsa) THAT YtegphibgiicjpaaProg.lean LOADS. Nothing in Lean hashes anything: it is a label: what it is worth is what the hold of that sum in a sandbox is worth. -/
noncomputable def Try.pinned : Pinned := { name := "ytegphibgiicjpaa", sum := "faf219d2f7c3b8141fe031d8d4dbd54be1093a0915914d05f41545cbf13fe37f", checked := Try.checked }
namespace Rows
def none {H : Type} : Left H := { results := [], args := [] }

/-- 'stillagelaw09.WritesApply': WHATEVER THE INPUT: true; the input reads as it did. -/
def writesApplySpec : ChangeSpec := { name := "writesApply", fn := fun _ => fun
  | [d1, d2] => { results := [.lit (.bool true)], args := [d1, d2] }
  | _ => none }
def writesApplyRow : OpenClaim := { program := "ytegphibgiicjpaa", sum := "faf219d2f7c3b8141fe031d8d4dbd54be1093a0915914d05f41545cbf13fe37f", func := "stillage/stillagelaw09.WritesApply", spec := "writesApply", apart := false }
def WritesApplySaid : Prop := writesApplyRow.holds Try.pinned (OpenSpec.ofChange writesApplySpec)

/-- ITS FALSE NEIGHBOUR: 'it returns false'. Refute it at one input. -/
def writesApplyWrong : ChangeSpec := { name := "writesApply", fn := fun _ => fun
  | [d1, d2] => { results := [.lit (.bool false)], args := [d1, d2] }
  | _ => none }
def WritesApplyWrongFalsely : Prop := writesApplyRow.holds Try.pinned (OpenSpec.ofChange writesApplyWrong)

/-- 'stillagelaw09.WritesSurvive': WHATEVER THE INPUT: true; the input reads as it did. -/
def writesSurviveSpec : ChangeSpec := { name := "writesSurvive", fn := fun _ => fun
  | [d1, d2, d3] => { results := [.lit (.bool true)], args := [d1, d2, d3] }
  | _ => none }
def writesSurviveRow : OpenClaim := { program := "ytegphibgiicjpaa", sum := "faf219d2f7c3b8141fe031d8d4dbd54be1093a0915914d05f41545cbf13fe37f", func := "stillage/stillagelaw09.WritesSurvive", spec := "writesSurvive", apart := false }
def WritesSurviveSaid : Prop := writesSurviveRow.holds Try.pinned (OpenSpec.ofChange writesSurviveSpec)

/-- ITS FALSE NEIGHBOUR: 'it returns false'. Refute it at one input. -/
def writesSurviveWrong : ChangeSpec := { name := "writesSurvive", fn := fun _ => fun
  | [d1, d2, d3] => { results := [.lit (.bool false)], args := [d1, d2, d3] }
  | _ => none }
def WritesSurviveWrongFalsely : Prop := writesSurviveRow.holds Try.pinned (OpenSpec.ofChange writesSurviveWrong)

/-- 'stillagelaw09.WritesEnds': WHATEVER THE INPUT: true; the input reads as it did. -/
def writesEndsSpec : ChangeSpec := { name := "writesEnds", fn := fun _ => fun
  | [d1, d2, d3] => { results := [.lit (.bool true)], args := [d1, d2, d3] }
  | _ => none }
def writesEndsRow : OpenClaim := { program := "ytegphibgiicjpaa", sum := "faf219d2f7c3b8141fe031d8d4dbd54be1093a0915914d05f41545cbf13fe37f", func := "stillage/stillagelaw09.WritesEnds", spec := "writesEnds", apart := false }
def WritesEndsSaid : Prop := writesEndsRow.holds Try.pinned (OpenSpec.ofChange writesEndsSpec)

/-- ITS FALSE NEIGHBOUR: 'it returns false'. Refute it at one input. -/
def writesEndsWrong : ChangeSpec := { name := "writesEnds", fn := fun _ => fun
  | [d1, d2, d3] => { results := [.lit (.bool false)], args := [d1, d2, d3] }
  | _ => none }
def WritesEndsWrongFalsely : Prop := writesEndsRow.holds Try.pinned (OpenSpec.ofChange writesEndsWrong)

/- THE SECOND FORM. 'bulk': how many values and letters a reading holds, each counted each time it is reached (what is shared counts as often as it is met; a slice's spare places count too). A statement '..UptoSaid' is the law's where the arguments, and the package variables that the reading takes, are together of bulk at most 1048576: NARROWER than '..Said'. Prove '..Said' where nothing that the law and all that it calls make is longer than what came in: it says more and counts as full. Else prove '..UptoSaid'. A law counts once. -/
mutual
def uptoBulk {H : Type} : DataW H → Nat
  | .lit (.string bytes) => bytes.length + 1
  | .lit _ => 1
  | .nil => 1
  | .ptr d => uptoBulk d + 1
  | .slice elems spare => uptoBulkAll elems + uptoBulkAll spare + 1
  | .agg parts => uptoBulkAll parts + 1
  | .iface _ d => uptoBulk d + 1
  | .map entries => uptoBulkEntries entries + 1
  | .held _ => 1
def uptoBulkAll {H : Type} : List (DataW H) → Nat
  | [] => 0
  | d :: r => uptoBulk d + uptoBulkAll r
def uptoBulkEntries {H : Type} : List (Lit × DataW H) → Nat
  | [] => 0
  | x :: r => uptoBulkEntry x + uptoBulkEntries r
def uptoBulkEntry {H : Type} : Lit × DataW H → Nat
  | (.string bytes, d) => bytes.length + uptoBulk d + 1
  | (_, d) => uptoBulk d + 1
 end
def uptoSmall : (H : Type) → List (DataW H) → Bool := fun _ ds => decide (uptoBulkAll ds ≤ 1048576)
def OpenSpec.upto (s : _root_.Go.ChangeSpec) : _root_.Go.OpenSpec := { _root_.Go.OpenSpec.ofChange s with cond := some uptoSmall }

/-- 'stillagelaw09.WritesApply', WHERE WHAT IT READS IS OF BULK AT MOST 1048576: true; the input reads as it did. -/
def writesApplyUptoRow : OpenClaim := { program := "ytegphibgiicjpaa", sum := "faf219d2f7c3b8141fe031d8d4dbd54be1093a0915914d05f41545cbf13fe37f", func := "stillage/stillagelaw09.WritesApply", spec := "writesApply", apart := false, narrowed := true }
def WritesApplyUptoSaid : Prop := writesApplyUptoRow.holds Try.pinned (OpenSpec.upto writesApplySpec)

/-- 'stillagelaw09.WritesSurvive', WHERE WHAT IT READS IS OF BULK AT MOST 1048576: true; the input reads as it did. -/
def writesSurviveUptoRow : OpenClaim := { program := "ytegphibgiicjpaa", sum := "faf219d2f7c3b8141fe031d8d4dbd54be1093a0915914d05f41545cbf13fe37f", func := "stillage/stillagelaw09.WritesSurvive", spec := "writesSurvive", apart := false, narrowed := true }
def WritesSurviveUptoSaid : Prop := writesSurviveUptoRow.holds Try.pinned (OpenSpec.upto writesSurviveSpec)

/-- 'stillagelaw09.WritesEnds', WHERE WHAT IT READS IS OF BULK AT MOST 1048576: true; the input reads as it did. -/
def writesEndsUptoRow : OpenClaim := { program := "ytegphibgiicjpaa", sum := "faf219d2f7c3b8141fe031d8d4dbd54be1093a0915914d05f41545cbf13fe37f", func := "stillage/stillagelaw09.WritesEnds", spec := "writesEnds", apart := false, narrowed := true }
def WritesEndsUptoSaid : Prop := writesEndsUptoRow.holds Try.pinned (OpenSpec.upto writesEndsSpec)

end Rows
end Go.Proofs.Ytegphibgiicjpaa
