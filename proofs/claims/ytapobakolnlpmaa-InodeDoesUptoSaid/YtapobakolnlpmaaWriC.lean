/- Layer 9: a change as a value; the reference's Right. -/
import Derived.Test.YtapobakolnlpmaaWriP
import Derived.Test.YtapobakolnlpmaaReg
namespace Go.Proofs.Ytapobakolnlpmaa
set_option linter.unusedVariables false
open Go.RowKit Go.Lib

def InI64 (n : Int) : Prop := -9223372036854775808 ≤ n ∧ n < 9223372036854775808
/-- a change's value, its bytes where a slice says -/
def chV (c : Ch) (p : Option Addr) (n cap : Nat) : Value := .agg #[.bool c.cut, .int .i64 c.off, .slice p n cap]
/-- that value is fit in this world -/
def chIn (w : World) (c : Ch) (p : Option Addr) (n cap : Nat) : Prop := Bs w p n c.dat ∧ (p = none → cap = 0) ∧ n ≤ cap ∧ cap ≤ maxLen ∧ InI64 c.off
theorem chIn.later {w w' : World} {c : Ch} {p : Option Addr} {n cap : Nat} (h : chIn w c p n cap) (hb : Below w.heap.size w w') : chIn w' c p n cap := ⟨h.1.later hb, h.2⟩
theorem rightP_n {c : Ch} {n : Nat} (h : c.dat.length = n) : rightP c = (decide (0 ≤ c.off) && decide (c.off ≤ 1048576 - (n : Int))) := by
  unfold rightP
  rw [h, Bool.eq_iff_iff, Bool.and_eq_true, decide_eq_true_iff, decide_eq_true_iff, decide_eq_true_iff]

set_option maxRecDepth 100000 in
theorem rwright_any (c : Ch) (p : Option Addr) (n cap : Nat) (w : World) (h : chIn w c p n cap) :
    Calls Try.prog 27 #[chV c p n cap] w fun e w' => e = .returned (.bool (rightP c)) ∧ w.alloc (.cells #[.bool c.cut, .int .i64 c.off, .slice p n cap] 48) = w' := by
  obtain ⟨hb, _, hnc, hcm, ho⟩ := h
  have HR := Lib.hid (rightP_n hb.1)
  have hn : n ≤ 9223372036854775807 := by unfold maxLen at hcm; omega
  unfold InI64 at ho
  have hw : IntKind.i64.wrap (1048576 - (n : Int)) = 1048576 - (n : Int) := by simp [IntKind.wrap, IntKind.bits, IntKind.signed]; omega
  unfold chV
  generalize c.off = o at *
  generalize c.cut = b at *
  clear hb hnc hcm
  by_cases h1 : 0 ≤ o
  · by_cases h2 : o ≤ 1048576 - (n : Int)
    · have HF : Hid (rightP c = true) := Lib.hid (by rw [HR.out, decide_eq_true h1, decide_eq_true h2]; rfl)
      go_enter Try.func27, Try.ntmps27
      go_wp2
      go_ret
      exact ⟨by rw [HF.out]; rfl, rfl⟩
    · have HF : Hid (rightP c = false) := Lib.hid (by rw [HR.out, decide_eq_true h1, decide_eq_false h2]; rfl)
      go_enter Try.func27, Try.ntmps27
      go_wp2
      go_ret
      exact ⟨by rw [HF.out]; rfl, rfl⟩
  · have HF : Hid (rightP c = false) := Lib.hid (by rw [HR.out, decide_eq_false h1]; rfl)
    go_enter Try.func27, Try.ntmps27
    go_wp2
    go_ret
    exact ⟨by rw [HF.out]; rfl, rfl⟩
end Go.Proofs.Ytapobakolnlpmaa
