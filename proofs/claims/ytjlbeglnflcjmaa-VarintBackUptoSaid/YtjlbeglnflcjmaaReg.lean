/- Regions that draw their order: an operation that its guard passes over. -/
import Derived.Test.YtjlbeglnflcjmaaLib
import Derived.Deep.RegionHeld3
import Derived.StillTail
import Derived.StillTactics
namespace Go.Proofs.Ytjlbeglnflcjmaa
open Go.RowKit

/-- An operation that its guard passes over. -/
theorem wpStill_skip {P : Program} {ops : Array Oper} {w : World} {Q : Act → Prop} {a : Act} {o : Oper} {rest : List Oper} (hw : Region.wanted o (yielded ops a.tmps) = false) (h : wpStill P ops w Q rest (a.put o.dst undef)) : wpStill P ops w Q (o :: rest) a :=
  wpStill_step fun K hK => by rw [if_neg (by rw [hw]; exact Bool.false_ne_true)]; exact hK _ h

end Go.Proofs.Ytjlbeglnflcjmaa
