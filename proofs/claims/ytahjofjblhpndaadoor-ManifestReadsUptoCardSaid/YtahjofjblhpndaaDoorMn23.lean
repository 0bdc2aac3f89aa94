/- strings.Cut at a separator of one byte, at this program -/
import Derived.Test.YtahjofjblhpndaaDoorMn5
import Derived.Test.YtahjofjblhpndaaDoorMn6
import Derived.Shelf.Strings.Search2
import Derived.Lib.SmallJoins
import Derived.Shelf.RegionOpenPlain
set_option linter.unusedSimpArgs false
set_option linter.unusedVariables false
namespace Go.Proofs.YtahjofjblhpndaaDoor
set_option linter.unusedVariables false
open Go.RowKit Go.Lib Go.Shelf

def layIdx_ren : Go.Shelf.Ren := ⟨fun | 219 => 49 | 217 => 59 | 225 => 60 | 224 => 61 | 267 => 62 | 266 => 73 | 314 => 74 | n => n,
  fun | 9 => 9 | 3 => 3 | 4 => 4 | 5 => 5 | 46 => 79 | 146 => 107 | 51 => 104 | n => n,
  fun | 1 => 0 | n => n⟩
theorem layIdx : Go.Proofs.Lays.n219 Tryd.prog layIdx_ren := {
  mixed := by kernel_rfl,
  f217 := Tryd.func59.trans (congrArg some (by kernel_rfl)),
  f219 := Tryd.func49.trans (congrArg some (by kernel_rfl)),
  f224 := Tryd.func61.trans (congrArg some (by kernel_rfl)),
  f225 := Tryd.func60.trans (congrArg some (by kernel_rfl)),
  f266 := Tryd.func73.trans (congrArg some (by kernel_rfl)),
  f267 := Tryd.func62.trans (congrArg some (by kernel_rfl)),
  f314 := Tryd.func74.trans (congrArg some (by kernel_rfl)),
  t3 := Tryd.underlying3,
  a3 := Tryd.isAgg3,
  z3 := Tryd.sizeOf3,
  v3 := Tryd.zeroValue3,
  t4 := Tryd.underlying4,
  a4 := Tryd.isAgg4,
  z4 := Tryd.sizeOf4,
  v4 := Tryd.zeroValue4,
  t5 := Tryd.underlying5,
  a5 := Tryd.isAgg5,
  z5 := Tryd.sizeOf5,
  v5 := Tryd.zeroValue5,
  t9 := Tryd.underlying9,
  a9 := Tryd.isAgg9,
  z9 := Tryd.sizeOf9,
  v9 := Tryd.zeroValue9,
  t46 := Tryd.underlying79,
  a46 := Tryd.isAgg79,
  z46 := Tryd.sizeOf79,
  v46 := Tryd.zeroValue79,
  t51 := Tryd.underlying104,
  a51 := Tryd.isAgg104,
  z51 := Tryd.sizeOf104,
  v51 := Tryd.zeroValue104,
  t146 := Tryd.underlying107,
  a146 := Tryd.isAgg107,
  z146 := Tryd.sizeOf107,
  v146 := Tryd.zeroValue107,
  g1 := by kernel_rfl }
theorem idx_cut (c : UInt8) : ∀ l : List UInt8, (Lib.indexByte l c = -1 ∧ cutC (c.toNat : Int) (l.map fun x => (x.toNat : Int)) = none) ∨ ∃ i : Nat, Lib.indexByte l c = i ∧ i < l.length ∧ cutC (c.toNat : Int) (l.map fun x => (x.toNat : Int)) = some ((l.take i).map fun x => (x.toNat : Int), (l.drop (i + 1)).map fun x => (x.toNat : Int))
  | [] => Or.inl ⟨rfl, rfl⟩
  | b :: l => by
    unfold Lib.indexByte
    rw [List.map_cons]
    unfold cutC
    by_cases h : b = c
    · rw [if_pos (by rw [h]; exact beq_self_eq_true c), if_pos (by rw [h])]
      exact Or.inr ⟨0, rfl, by simp, by simp⟩
    · have h' : ¬ ((b.toNat : Int) = (c.toNat : Int)) := fun e => h (UInt8.toNat_inj.1 (by omega))
      rw [if_neg (by simpa using h), if_neg h']
      rcases idx_cut c l with ⟨h1, h2⟩ | ⟨i, h1, h2, h3⟩
      · rw [h1, h2]
        exact Or.inl ⟨rfl, rfl⟩
      · rw [h1, h3, if_neg (by simp)]
        refine Or.inr ⟨i + 1, by omega, by simpa using h2, ?_⟩
        simp
/-- what strings.Cut answers -/
def cutV (c : Int) (s : ByteArray) : Value := .tuple #[.string (strOfNums (cutA c (numsOf s))), .string (strOfNums (cutB c (numsOf s))), .bool (cutC c (numsOf s)).isSome]
theorem slCut_no (s : ByteArray) (c : UInt8) (w : World) (h : Lib.indexByte s.data.toList c = -1) :
    Calls Tryd.prog 40 #[.string s, .string ⟨#[c]⟩] w fun e w' => e = .returned (.tuple #[.string s, .string ⟨#[]⟩, .bool false]) ∧ ∃ q, w' = w.drewN q := by
  have HI := Lib.hid fun W => Any.stringslite_Index_one layIdx s c W
  rw [h] at HI
  clear h
  go_enter Tryd.func40, Tryd.ntmps40
  go_wp2_with fail
  refine (HI.out _).mono ?_
  rintro e w' ⟨rfl, rfl⟩
  go_wp2
  go_ret3
  exact ⟨rfl, 0, rfl⟩
theorem slCut_yes (s : ByteArray) (c : UInt8) (w : World) (i : Nat) (h : Lib.indexByte s.data.toList c = i) (hi : i < s.size) (hs : s.size ≤ 140737488355328) :
    Calls Tryd.prog 40 #[.string s, .string ⟨#[c]⟩] w fun e w' => e = .returned (.tuple #[.string (s.extract 0 i), .string (s.extract (i + 1) s.size), .bool true]) ∧ ∃ q, w' = w.drewN q := by
  have HI := Lib.hid fun W => Any.stringslite_Index_one layIdx s c W
  rw [h] at HI
  clear h
  have c1 : (0 : Int) ≤ ↑i := by omega
  have c2 : (↑i : Int) ≤ ↑s.size := by omega
  have c3 : (0 : Int) ≤ ↑i + 1 := by omega
  have c4 : (↑i + 1 : Int) ≤ ↑s.size := by omega
  have hwr : IntKind.i64.wrap ((i : Int) + 1) = (i : Int) + 1 := by simp [IntKind.wrap, IntKind.bits, IntKind.signed]; omega
  have htn : ((i : Int) + 1).toNat = i + 1 := by omega
  go_enter Tryd.func40, Tryd.ntmps40
  go_wp2_with fail
  refine (HI.out _).mono ?_
  rintro e w' ⟨rfl, rfl⟩
  go_wp2
  go_quiet (fail)
  go_wp2
  go_ret3
  exact ⟨rfl, _, rfl⟩
theorem numsOf_byte' {s : ByteArray} (l : List Int) (h : ∀ x ∈ l, x ∈ numsOf s) : ∀ j, 0 ≤ l.getD j 0 ∧ l.getD j 0 < 256 := fun j => by
  by_cases hj : j < l.length
  · rw [List.getD_eq_getElem?_getD, List.getElem?_eq_getElem hj]
    have h1 := h _ (List.getElem_mem hj)
    obtain ⟨x, _, hx⟩ := List.mem_map.1 h1
    show 0 ≤ l[j] ∧ l[j] < 256
    have := x.toNat_lt
    rw [← hx]
    omega
  · rw [List.getD_eq_getElem?_getD, List.getElem?_eq_none (by omega)]
    simp
theorem cutV_cases (s : ByteArray) (c : UInt8) : (Lib.indexByte s.data.toList c = -1 ∧ cutV (c.toNat : Int) s = .tuple #[.string s, .string ⟨#[]⟩, .bool false]) ∨
    ∃ i : Nat, Lib.indexByte s.data.toList c = i ∧ i < s.size ∧ cutV (c.toNat : Int) s = .tuple #[.string (s.extract 0 i), .string (s.extract (i + 1) s.size), .bool true] := by
  have e : numsOf s = s.data.toList.map fun x => (x.toNat : Int) := rfl
  rcases idx_cut c s.data.toList with ⟨h1, h2⟩ | ⟨i, h1, h2, h3⟩
  · rw [← e] at h2
    refine Or.inl ⟨h1, ?_⟩
    unfold cutV cutA cutB
    rw [h2]
    dsimp only
    rw [strOfNums_numsOf]
    rfl
  · rw [← e] at h3
    have hl : s.data.toList.length = s.size := by simp
    refine Or.inr ⟨i, h1, by omega, ?_⟩
    have hA : strOfNums ((s.data.toList.take i).map fun x => (x.toNat : Int)) = s.extract 0 i := by
      apply numsOf_inj
      rw [numsOf_extract, List.drop_zero, List.map_take, ← e]
      exact numsOf_strOfNums (numsOf_byte' _ fun x hx => List.mem_of_mem_take hx)
    have hB : strOfNums ((s.data.toList.drop (i + 1)).map fun x => (x.toNat : Int)) = s.extract (i + 1) s.size := by
      apply numsOf_inj
      rw [numsOf_extract, List.take_of_length_le (by rw [numsOf_length]; exact Nat.le_refl _), List.map_drop, ← e]
      exact numsOf_strOfNums (numsOf_byte' _ fun x hx => List.mem_of_mem_drop hx)
    unfold cutV cutA cutB
    rw [h3]
    dsimp only
    rw [hA, hB]
    rfl
set_option maxRecDepth 100000 in
theorem scut_any (s : ByteArray) (c : UInt8) (w : World) (hs : s.size ≤ 140737488355328) :
    Calls Tryd.prog 30 #[.string s, .string ⟨#[c]⟩] w fun e w' => e = .returned (cutV (c.toNat : Int) s) ∧ ∃ q, w' = w.drewN q := by
  rcases cutV_cases s c with ⟨h1, h2⟩ | ⟨i, h1, h2, h3⟩
  · rw [h2]
    have HC := Lib.hid fun W => slCut_no s c W h1
    clear h1 h2
    go_enter Tryd.func30, Tryd.ntmps30
    go_wp2_with fail
    refine (HC.out _).mono ?_
    rintro e w' ⟨rfl, q, rfl⟩
    go_wp2
    go_ret3
    exact ⟨rfl, q, rfl⟩
  · rw [h3]
    have HC := Lib.hid fun W => slCut_yes s c W i h1 h2 hs
    clear h1 h2 h3 hs
    generalize s.extract 0 i = a at *
    generalize s.extract (i + 1) s.size = b at *
    go_enter Tryd.func30, Tryd.ntmps30
    go_wp2_with fail
    refine (HC.out _).mono ?_
    rintro e w' ⟨rfl, q, rfl⟩
    go_wp2
    go_ret3
    exact ⟨rfl, q, rfl⟩
end Go.Proofs.YtahjofjblhpndaaDoor
