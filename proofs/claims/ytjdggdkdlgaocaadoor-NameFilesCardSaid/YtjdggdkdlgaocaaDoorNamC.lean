/- Layer 8: what the statements want of package name, said of each function; the reference's one, Tag, Disk. -/
import Derived.Test.YtjdggdkdlgaocaaDoorNamP
import Derived.Test.YtjdggdkdlgaocaaDoorStr
import Derived.Test.YtjdggdkdlgaocaaDoorIdx
import Derived.Test.YtjdggdkdlgaocaaDoorReg
import Derived.Lib.LaidTab
import Derived.Lib.ItoaMem
import Derived.Lib.SmallJoins
import Derived.KernelRfl
namespace Go.Proofs.YtjdggdkdlgaocaaDoor
set_option linter.unusedVariables false
open Go.RowKit Go.Lib

theorem gPow : Tryd.prog.globalNamed "internal/strconv.uint64pow10" = some 2 := by kernel_rfl
theorem gRange : Tryd.prog.globalNamed "strconv.ErrRange" = some 1 := by kernel_rfl
theorem gSyntax : Tryd.prog.globalNamed "strconv.ErrSyntax" = some 0 := by kernel_rfl
/-- what the variables of package strconv hold -/
def Lw (w : World) : Prop := Lib.TabIs Tryd.prog w "internal/strconv.uint64pow10" .u64 Lib.pow10Tab ∧ (∃ tp p, w.var? Tryd.prog "strconv.ErrRange" = some #[.iface tp p]) ∧ (∃ tp p, w.var? Tryd.prog "strconv.ErrSyntax" = some #[.iface tp p])
theorem Lw.later {w w' : World} (h : Lw w) (hb : Below w.heap.size w w') : Lw w' := by
  obtain ⟨h1, ⟨tp, p, h2⟩, tq, q, h3⟩ := h
  exact ⟨Go.Joins.var_stays gPow h1 hb (Nat.le_refl _), ⟨tp, p, Go.Joins.var_stays gRange h2 hb (Nat.le_refl _)⟩, tq, q, Go.Joins.var_stays gSyntax h3 hb (Nat.le_refl _)⟩


def InI64 (n : Int) : Prop := -9223372036854775808 ≤ n ∧ n < 9223372036854775808
def TagOk : Prop := ∀ (s : ByteArray) (w : World), s.size ≤ 140737488355328 → Calls Tryd.prog 6 #[.string s] w fun e w' => e = .returned (.bool (tagP (numsOf s))) ∧ Below w.heap.size w w'
def DiskOk : Prop := ∀ (s : ByteArray) (w : World), s.size ≤ 140737488355328 → Calls Tryd.prog 8 #[.string s] w fun e w' => e = .returned (.bool (diskP (numsOf s))) ∧ Below w.heap.size w w'
def FileOk : Prop := ∀ (k n : Int) (w : World), Lw w → InI64 k → InI64 n → Calls Tryd.prog 13 #[.int .i64 k, .int .i64 n] w fun e w' => e = .returned (.string (strOfNums (fileP k n))) ∧ Below w.heap.size w w'
def NumberOk : Prop := ∀ (s : ByteArray) (w : World), Lw w → s.size ≤ 140737488355328 → Calls Tryd.prog 11 #[.string s] w fun e w' => e = .returned (.tuple #[.int .i64 (numP (numsOf s)).1, .int .i64 (numP (numsOf s)).2]) ∧ Below w.heap.size w w'

/-- is it among these -/
def oneP (c : Int) (l : List Int) : Bool := l.any fun x => decide (x = c)
theorem oneP_step {c : Int} {l : List Int} {k : Nat} (hk : k < l.length) : oneP c (l.take (k + 1)) = (oneP c (l.take k) || decide (l.getD k 0 = c)) := by
  have e : l.getD k 0 = l[k] := by rw [List.getD_eq_getElem?_getD, List.getElem?_eq_getElem hk]; rfl
  rw [e, oneP, oneP, List.take_succ_eq_append_getElem hk, List.any_append, List.any_cons, List.any_nil, Bool.or_false]
set_option maxRecDepth 100000 in
theorem rone_any (c : Int) (s : ByteArray) (w : World) (hs : s.size ≤ 140737488355328) (hc : 0 ≤ c ∧ c < 256) :
    Calls Tryd.prog 19 #[.int .u8 c, .string s] w fun e w' => e = .returned (.bool (oneP c (numsOf s))) ∧ w = w' := by
  have HL := Lib.hid (numsOf_length s)
  go_enter Tryd.func19, Tryd.ntmps19
  go_wp2
  go_loopw [5] (fun i wr => ∃ k : Nat, k ≤ s.size ∧ i = .int .i64 (k : Int) ∧ Hid (oneP c ((numsOf s).take k) = false) ∧ w = wr) (fun i _ => s.size - (intOf i).toNat)
  case atStart => exact ⟨0, by omega, rfl, Lib.hid (by simp [oneP]), rfl⟩
  case round =>
    obtain ⟨k, hk, rfl, HO, rfl⟩ := hrel
    by_cases hlt : k < s.size
    · have hx := fun W => run_index_nums W s k hlt
      have hb := numsOf_byte s k
      have HS := Lib.hid (oneP_step (c := c) (l := numsOf s) (k := k) (by rw [HL.out]; exact hlt))
      have HT : Hid (oneP c ((numsOf s).take (k + 1)) = true → oneP c (numsOf s) = true) := Lib.hid fun h => by
        unfold oneP at h ⊢
        rw [List.any_eq_true] at h ⊢
        obtain ⟨x, h1, h2⟩ := h
        exact ⟨x, List.mem_of_mem_take h1, h2⟩
      generalize (numsOf s).getD k 0 = y at *
      rw [HO.out, Bool.false_or] at HS
      by_cases hy : y = c
      · have hT := Lib.hid (HT.out (by rw [HS.out, decide_eq_true hy]))
        clear HT HS HO
        go_wp2
        go_ret
        exact ⟨by rw [hT.out]; rfl, rfl⟩
      · have HO2 : Hid (oneP c ((numsOf s).take (k + 1)) = false) := Lib.hid (by rw [HS.out, decide_eq_false hy])
        clear HT HS HO
        go_wp2
        exact ⟨⟨k + 1, by omega, by go_num, HO2, trivial⟩, by simp [intOf] <;> omega⟩
    · obtain rfl : k = s.size := by omega
      have HF : Hid (oneP c (numsOf s) = false) := Lib.hid (by
        have h := HO.out
        rwa [List.take_of_length_le (by rw [HL.out]; omega)] at h)
      go_wp2
      go_ret
      exact ⟨by rw [HF.out]; rfl, rfl⟩
end Go.Proofs.YtjdggdkdlgaocaaDoor
