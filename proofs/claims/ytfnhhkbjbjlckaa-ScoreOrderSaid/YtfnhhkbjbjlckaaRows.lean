/-
  No cell of these rows narrows 'for every input' (looked for: loops, veiled, ifaces, maps, wideKeys, modest, calm, conditions, laid).
  DERIVED. THE GIVEN ROWS OF THIS SEAT. 4 by the template 'for every input the law returns true; each argument reads behind the call as it read before'; 0 by the template 'total and deterministic' (their statements: YtfnhhkbjbjlckaaTotals.lean).
  GIVEN WITH THE SEED: the statements are not yours to turn. If you find one false, say at which input.
  Laid BY PROGRAM, IN A SANDBOX (cutbox-rows.mjs): the forced cells as the released guide's own fill.sh prints them over the translation 27a01dff74ea96ea… (all of the seat's roots in one cut). By AI agents, Wed Nov 11 2026. No macro, syntax, notation, axiom, sorry.
-/
import Derived.Test.YtfnhhkbjbjlckaaChecked
import GoSem.Claim
import GoSem.ClaimJoined
import GoSem.ClaimMapViews
import Derived.JoinedTies
import Derived.KernelRfl
namespace Go.Proofs.Ytfnhhkbjbjlckaa
/- THE CELL 'sum', in the pinned program and in every row, IS THE sha256 OF THE DUMP (.gsa) THAT YtfnhhkbjbjlckaaProg.lean LOADS. Nothing in Lean hashes anything: it is a label: what it is worth is what the hold of that sum in a sandbox is worth. -/
noncomputable def Try.pinned : Pinned := { name := "ytfnhhkbjbjlckaa", sum := "27a01dff74ea96eaf78ec09425ea5c171dc01b0f2bdd866cec08cfe1d1cd199f", checked := Try.checked }
namespace Rows
def none {H : Type} : Left H := { results := [], args := [] }

/-- 'stillagelaw07.ScoreShares': WHATEVER THE INPUT: true; the input reads as it did. -/
def scoreSharesSpec : ChangeSpec := { name := "scoreShares", fn := fun _ => fun
  | [d1, d2, d3] => { results := [.lit (.bool true)], args := [d1, d2, d3] }
  | _ => none }
def scoreSharesRow : OpenClaim := { program := "ytfnhhkbjbjlckaa", sum := "27a01dff74ea96eaf78ec09425ea5c171dc01b0f2bdd866cec08cfe1d1cd199f", func := "stillage/stillagelaw07.ScoreShares", spec := "scoreShares", apart := false }
def ScoreSharesSaid : Prop := scoreSharesRow.holds Try.pinned (OpenSpec.ofChange scoreSharesSpec)

/-- ITS FALSE NEIGHBOUR: 'it returns false'. Refute it at one input. -/
def scoreSharesWrong : ChangeSpec := { name := "scoreShares", fn := fun _ => fun
  | [d1, d2, d3] => { results := [.lit (.bool false)], args := [d1, d2, d3] }
  | _ => none }
def ScoreSharesWrongFalsely : Prop := scoreSharesRow.holds Try.pinned (OpenSpec.ofChange scoreSharesWrong)

/-- 'stillagelaw07.ScoreOrder': WHATEVER THE INPUT: true; the input reads as it did. -/
def scoreOrderSpec : ChangeSpec := { name := "scoreOrder", fn := fun _ => fun
  | [d1, d2, d3] => { results := [.lit (.bool true)], args := [d1, d2, d3] }
  | _ => none }
def scoreOrderRow : OpenClaim := { program := "ytfnhhkbjbjlckaa", sum := "27a01dff74ea96eaf78ec09425ea5c171dc01b0f2bdd866cec08cfe1d1cd199f", func := "stillage/stillagelaw07.ScoreOrder", spec := "scoreOrder", inPlace := ["math.Float64bits"], apart := false }
def ScoreOrderSaid : Prop := scoreOrderRow.holds Try.pinned (OpenSpec.ofChange scoreOrderSpec)

/-- ITS FALSE NEIGHBOUR: 'it returns false'. Refute it at one input. -/
def scoreOrderWrong : ChangeSpec := { name := "scoreOrder", fn := fun _ => fun
  | [d1, d2, d3] => { results := [.lit (.bool false)], args := [d1, d2, d3] }
  | _ => none }
def ScoreOrderWrongFalsely : Prop := scoreOrderRow.holds Try.pinned (OpenSpec.ofChange scoreOrderWrong)

/-- 'stillagelaw07.ScoreLeast': WHATEVER THE INPUT: true; the input reads as it did. -/
def scoreLeastSpec : ChangeSpec := { name := "scoreLeast", fn := fun _ => fun
  | [d] => { results := [.lit (.bool true)], args := [d] }
  | _ => none }
def scoreLeastRow : OpenClaim := { program := "ytfnhhkbjbjlckaa", sum := "27a01dff74ea96eaf78ec09425ea5c171dc01b0f2bdd866cec08cfe1d1cd199f", func := "stillage/stillagelaw07.ScoreLeast", spec := "scoreLeast", inPlace := ["math.Float64bits"], apart := false }
def ScoreLeastSaid : Prop := scoreLeastRow.holds Try.pinned (OpenSpec.ofChange scoreLeastSpec)

/-- ITS FALSE NEIGHBOUR: 'it returns false'. Refute it at one input. -/
def scoreLeastWrong : ChangeSpec := { name := "scoreLeast", fn := fun _ => fun
  | [d] => { results := [.lit (.bool false)], args := [d] }
  | _ => none }
def ScoreLeastWrongFalsely : Prop := scoreLeastRow.holds Try.pinned (OpenSpec.ofChange scoreLeastWrong)

/-- 'stillagelaw07.ScoreBetween': WHATEVER THE INPUT: true; the input reads as it did. -/
def scoreBetweenSpec : ChangeSpec := { name := "scoreBetween", fn := fun _ => fun
  | [d] => { results := [.lit (.bool true)], args := [d] }
  | _ => none }
def scoreBetweenRow : OpenClaim := { program := "ytfnhhkbjbjlckaa", sum := "27a01dff74ea96eaf78ec09425ea5c171dc01b0f2bdd866cec08cfe1d1cd199f", func := "stillage/stillagelaw07.ScoreBetween", spec := "scoreBetween", apart := false }
def ScoreBetweenSaid : Prop := scoreBetweenRow.holds Try.pinned (OpenSpec.ofChange scoreBetweenSpec)

/-- ITS FALSE NEIGHBOUR: 'it returns false'. Refute it at one input. -/
def scoreBetweenWrong : ChangeSpec := { name := "scoreBetween", fn := fun _ => fun
  | [d] => { results := [.lit (.bool false)], args := [d] }
  | _ => none }
def ScoreBetweenWrongFalsely : Prop := scoreBetweenRow.holds Try.pinned (OpenSpec.ofChange scoreBetweenWrong)

/- THE SECOND FORM. 'bulk': how many values and letters a reading holds, each counted each time it is reached (what is shared counts as often as it is met; a slice's spare places count too). A statement '..UptoSaid' is the law's where the arguments, and the package variables that the reading takes, are together of bulk at most 1048576: NARROWER than '..Said'. Prove '..Said' where nothing that the law and all that it calls make is longer than what came in: it says more and counts as full. Else prove '..UptoSaid'. A law counts once. -/
mutual
def uptoBulk {H : Type} : DataW H → Nat
  | .lit (.string bytes) => bytes.length + 1
  | .lit _ => 1
  | .nil => 1
  | .ptr d => uptoBulk d + 1
  | .slice elems spare => uptoBulkAll elems + uptoBulkAll spare + 1
  | .agg parts => uptoBulkAll parts + 1
  | .iface _ d => uptoBulk d + 1
  | .map entries => uptoBulkEntries entries + 1
  | .held _ => 1
def uptoBulkAll {H : Type} : List (DataW H) → Nat
  | [] => 0
  | d :: r => uptoBulk d + uptoBulkAll r
def uptoBulkEntries {H : Type} : List (Lit × DataW H) → Nat
  | [] => 0
  | x :: r => uptoBulkEntry x + uptoBulkEntries r
def uptoBulkEntry {H : Type} : Lit × DataW H → Nat
  | (.string bytes, d) => bytes.length + uptoBulk d + 1
  | (_, d) => uptoBulk d + 1
 end
def uptoSmall : (H : Type) → List (DataW H) → Bool := fun _ ds => decide (uptoBulkAll ds ≤ 1048576)
def OpenSpec.upto (s : _root_.Go.ChangeSpec) : _root_.Go.OpenSpec := { _root_.Go.OpenSpec.ofChange s with cond := some uptoSmall }

/-- 'stillagelaw07.ScoreShares', WHERE WHAT IT READS IS OF BULK AT MOST 1048576: true; the input reads as it did. -/
def scoreSharesUptoRow : OpenClaim := { program := "ytfnhhkbjbjlckaa", sum := "27a01dff74ea96eaf78ec09425ea5c171dc01b0f2bdd866cec08cfe1d1cd199f", func := "stillage/stillagelaw07.ScoreShares", spec := "scoreShares", apart := false, narrowed := true }
def ScoreSharesUptoSaid : Prop := scoreSharesUptoRow.holds Try.pinned (OpenSpec.upto scoreSharesSpec)

/-- 'stillagelaw07.ScoreOrder', WHERE WHAT IT READS IS OF BULK AT MOST 1048576: true; the input reads as it did. -/
def scoreOrderUptoRow : OpenClaim := { program := "ytfnhhkbjbjlckaa", sum := "27a01dff74ea96eaf78ec09425ea5c171dc01b0f2bdd866cec08cfe1d1cd199f", func := "stillage/stillagelaw07.ScoreOrder", spec := "scoreOrder", inPlace := ["math.Float64bits"], apart := false, narrowed := true }
def ScoreOrderUptoSaid : Prop := scoreOrderUptoRow.holds Try.pinned (OpenSpec.upto scoreOrderSpec)

/-- 'stillagelaw07.ScoreLeast', WHERE WHAT IT READS IS OF BULK AT MOST 1048576: true; the input reads as it did. -/
def scoreLeastUptoRow : OpenClaim := { program := "ytfnhhkbjbjlckaa", sum := "27a01dff74ea96eaf78ec09425ea5c171dc01b0f2bdd866cec08cfe1d1cd199f", func := "stillage/stillagelaw07.ScoreLeast", spec := "scoreLeast", inPlace := ["math.Float64bits"], apart := false, narrowed := true }
def ScoreLeastUptoSaid : Prop := scoreLeastUptoRow.holds Try.pinned (OpenSpec.upto scoreLeastSpec)

/-- 'stillagelaw07.ScoreBetween', WHERE WHAT IT READS IS OF BULK AT MOST 1048576: true; the input reads as it did. -/
def scoreBetweenUptoRow : OpenClaim := { program := "ytfnhhkbjbjlckaa", sum := "27a01dff74ea96eaf78ec09425ea5c171dc01b0f2bdd866cec08cfe1d1cd199f", func := "stillage/stillagelaw07.ScoreBetween", spec := "scoreBetween", apart := false, narrowed := true }
def ScoreBetweenUptoSaid : Prop := scoreBetweenUptoRow.holds Try.pinned (OpenSpec.upto scoreBetweenSpec)

end Rows
end Go.Proofs.Ytfnhhkbjbjlckaa
