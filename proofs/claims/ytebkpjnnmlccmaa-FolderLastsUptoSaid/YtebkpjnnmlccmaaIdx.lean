/- A string's bytes by place. -/
import Derived.Test.YtebkpjnnmlccmaaLib2
namespace Go.Proofs.Ytebkpjnnmlccmaa
set_option linter.unusedVariables false
open Go.RowKit Go.Lib

theorem numsOf_getD (s : ByteArray) (pos : Nat) (h : pos < s.size) : (numsOf s).getD pos 0 = ((s[pos]'h).toNat : Int) := by
  have h1 : pos < s.data.toList.length := by simpa using h
  simp only [numsOf, List.getD_eq_getElem?_getD, List.getElem?_map, List.getElem?_eq_getElem h1, Option.map_some, Option.getD_some]
  rfl

theorem run_index_nums (W : World) (s : ByteArray) (i : Nat) (h : i < s.size) :
    (Instr.index 9 (.string s) (.int .i64 (i : Int))).run Try.prog W = .ok (.int .u8 ((numsOf s).getD i 0)) W := by
  rw [run_index_string W 9 _ .i64 (i : Int) Try.underlying9, dif_pos ⟨by omega, by omega⟩, numsOf_getD s i h]
  rfl

end Go.Proofs.Ytebkpjnnmlccmaa
