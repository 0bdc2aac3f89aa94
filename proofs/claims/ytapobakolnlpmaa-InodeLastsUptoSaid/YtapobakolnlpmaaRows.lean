/-
  No cell of these rows narrows 'for every input' (looked for: loops, veiled, ifaces, maps, wideKeys, modest, calm, conditions, laid).
  DERIVED. THE GIVEN ROWS OF THIS SEAT. 3 by the template 'for every input the law returns true; each argument reads behind the call as it read before'; 0 by the template 'total and deterministic' (their statements: YtapobakolnlpmaaTotals.lean).
  GIVEN WITH THE SEED: the statements are not yours to turn. If you find one false, say at which input.
  Laid BY PROGRAM, IN A SANDBOX (cutbox-rows.mjs): the forced cells as the released guide's own fill.sh prints them over the translation 373d950a31b1f762… (all of the seat's roots in one cut). By AI agents, Wed Nov 11 2026. No macro, syntax, notation, axiom, sorry.
-/
import Derived.Test.YtapobakolnlpmaaChecked
import GoSem.Claim
import GoSem.ClaimJoined
import GoSem.ClaimMapViews
import Derived.JoinedTies
import Derived.KernelRfl
namespace Go.Proofs.Ytapobakolnlpmaa
/- THE CELL 'sum', in the pinned program and in every row, IS THE sha256 OF THE DUMP (.gsa) THAT YtapobakolnlpmaaProg.lean LOADS. Nothing in Lean hashes anything: it is a label: what it is worth is what the hold of that sum in a sandbox is worth. -/
noncomputable def Try.pinned : Pinned := { name := "ytapobakolnlpmaa", sum := "373d950a31b1f762fad1c30f4d420b9f66c821efc91606bceef526bf549e21a0", checked := Try.checked }
namespace Rows
def none {H : Type} : Left H := { results := [], args := [] }

/-- 'stillagelaw10.InodeDoes': WHATEVER THE INPUT: true; the input reads as it did. -/
def inodeDoesSpec : ChangeSpec := { name := "inodeDoes", fn := fun _ => fun
  | [d1, d2, d3] => { results := [.lit (.bool true)], args := [d1, d2, d3] }
  | _ => none }
def inodeDoesRow : OpenClaim := { program := "ytapobakolnlpmaa", sum := "373d950a31b1f762fad1c30f4d420b9f66c821efc91606bceef526bf549e21a0", func := "stillage/stillagelaw10.InodeDoes", spec := "inodeDoes", apart := false }
def InodeDoesSaid : Prop := inodeDoesRow.holds Try.pinned (OpenSpec.ofChange inodeDoesSpec)

/-- ITS FALSE NEIGHBOUR: 'it returns false'. Refute it at one input. -/
def inodeDoesWrong : ChangeSpec := { name := "inodeDoes", fn := fun _ => fun
  | [d1, d2, d3] => { results := [.lit (.bool false)], args := [d1, d2, d3] }
  | _ => none }
def InodeDoesWrongFalsely : Prop := inodeDoesRow.holds Try.pinned (OpenSpec.ofChange inodeDoesWrong)

/-- 'stillagelaw10.InodeCrash': WHATEVER THE INPUT: true; the input reads as it did. -/
def inodeCrashSpec : ChangeSpec := { name := "inodeCrash", fn := fun _ => fun
  | [d1, d2] => { results := [.lit (.bool true)], args := [d1, d2] }
  | _ => none }
def inodeCrashRow : OpenClaim := { program := "ytapobakolnlpmaa", sum := "373d950a31b1f762fad1c30f4d420b9f66c821efc91606bceef526bf549e21a0", func := "stillage/stillagelaw10.InodeCrash", spec := "inodeCrash", apart := false }
def InodeCrashSaid : Prop := inodeCrashRow.holds Try.pinned (OpenSpec.ofChange inodeCrashSpec)

/-- ITS FALSE NEIGHBOUR: 'it returns false'. Refute it at one input. -/
def inodeCrashWrong : ChangeSpec := { name := "inodeCrash", fn := fun _ => fun
  | [d1, d2] => { results := [.lit (.bool false)], args := [d1, d2] }
  | _ => none }
def InodeCrashWrongFalsely : Prop := inodeCrashRow.holds Try.pinned (OpenSpec.ofChange inodeCrashWrong)

/-- 'stillagelaw10.InodeLasts': WHATEVER THE INPUT: true; the input reads as it did. -/
def inodeLastsSpec : ChangeSpec := { name := "inodeLasts", fn := fun _ => fun
  | [d1, d2, d3] => { results := [.lit (.bool true)], args := [d1, d2, d3] }
  | _ => none }
def inodeLastsRow : OpenClaim := { program := "ytapobakolnlpmaa", sum := "373d950a31b1f762fad1c30f4d420b9f66c821efc91606bceef526bf549e21a0", func := "stillage/stillagelaw10.InodeLasts", spec := "inodeLasts", apart := false }
def InodeLastsSaid : Prop := inodeLastsRow.holds Try.pinned (OpenSpec.ofChange inodeLastsSpec)

/-- ITS FALSE NEIGHBOUR: 'it returns false'. Refute it at one input. -/
def inodeLastsWrong : ChangeSpec := { name := "inodeLasts", fn := fun _ => fun
  | [d1, d2, d3] => { results := [.lit (.bool false)], args := [d1, d2, d3] }
  | _ => none }
def InodeLastsWrongFalsely : Prop := inodeLastsRow.holds Try.pinned (OpenSpec.ofChange inodeLastsWrong)

/- THE SECOND FORM. 'bulk': how many values and letters a reading holds, each counted each time it is reached (what is shared counts as often as it is met; a slice's spare places count too). A statement '..UptoSaid' is the law's where the arguments, and the package variables that the reading takes, are together of bulk at most 1048576: NARROWER than '..Said'. Prove '..Said' where nothing that the law and all that it calls make is longer than what came in: it says more and counts as full. Else prove '..UptoSaid'. A law counts once. -/
mutual
def uptoBulk {H : Type} : DataW H → Nat
  | .lit (.string bytes) => bytes.length + 1
  | .lit _ => 1
  | .nil => 1
  | .ptr d => uptoBulk d + 1
  | .slice elems spare => uptoBulkAll elems + uptoBulkAll spare + 1
  | .agg parts => uptoBulkAll parts + 1
  | .iface _ d => uptoBulk d + 1
  | .map entries => uptoBulkEntries entries + 1
  | .held _ => 1
def uptoBulkAll {H : Type} : List (DataW H) → Nat
  | [] => 0
  | d :: r => uptoBulk d + uptoBulkAll r
def uptoBulkEntries {H : Type} : List (Lit × DataW H) → Nat
  | [] => 0
  | x :: r => uptoBulkEntry x + uptoBulkEntries r
def uptoBulkEntry {H : Type} : Lit × DataW H → Nat
  | (.string bytes, d) => bytes.length + uptoBulk d + 1
  | (_, d) => uptoBulk d + 1
 end
def uptoSmall : (H : Type) → List (DataW H) → Bool := fun _ ds => decide (uptoBulkAll ds ≤ 1048576)
def OpenSpec.upto (s : _root_.Go.ChangeSpec) : _root_.Go.OpenSpec := { _root_.Go.OpenSpec.ofChange s with cond := some uptoSmall }

/-- 'stillagelaw10.InodeDoes', WHERE WHAT IT READS IS OF BULK AT MOST 1048576: true; the input reads as it did. -/
def inodeDoesUptoRow : OpenClaim := { program := "ytapobakolnlpmaa", sum := "373d950a31b1f762fad1c30f4d420b9f66c821efc91606bceef526bf549e21a0", func := "stillage/stillagelaw10.InodeDoes", spec := "inodeDoes", apart := false, narrowed := true }
def InodeDoesUptoSaid : Prop := inodeDoesUptoRow.holds Try.pinned (OpenSpec.upto inodeDoesSpec)

/-- 'stillagelaw10.InodeCrash', WHERE WHAT IT READS IS OF BULK AT MOST 1048576: true; the input reads as it did. -/
def inodeCrashUptoRow : OpenClaim := { program := "ytapobakolnlpmaa", sum := "373d950a31b1f762fad1c30f4d420b9f66c821efc91606bceef526bf549e21a0", func := "stillage/stillagelaw10.InodeCrash", spec := "inodeCrash", apart := false, narrowed := true }
def InodeCrashUptoSaid : Prop := inodeCrashUptoRow.holds Try.pinned (OpenSpec.upto inodeCrashSpec)

/-- 'stillagelaw10.InodeLasts', WHERE WHAT IT READS IS OF BULK AT MOST 1048576: true; the input reads as it did. -/
def inodeLastsUptoRow : OpenClaim := { program := "ytapobakolnlpmaa", sum := "373d950a31b1f762fad1c30f4d420b9f66c821efc91606bceef526bf549e21a0", func := "stillage/stillagelaw10.InodeLasts", spec := "inodeLasts", apart := false, narrowed := true }
def InodeLastsUptoSaid : Prop := inodeLastsUptoRow.holds Try.pinned (OpenSpec.upto inodeLastsSpec)

end Rows
end Go.Proofs.Ytapobakolnlpmaa
