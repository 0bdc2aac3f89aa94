/- bytes.Clone -/
import Derived.Test.YtjdigncieoaglaaSt4
import Derived.Lib.SliceRun
set_option linter.unusedSimpArgs false
set_option linter.unusedVariables false
namespace Go.Proofs.Ytjdigncieoaglaa
set_option linter.unusedVariables false
open Go.RowKit Go.Lib

set_option maxRecDepth 100000 in
theorem wclone_any (q : Option Addr) (l cp : Nat) (zs : List Int) (w : World) (hz : Bs w q l zs) (hq : q = none → cp = 0) (hl : l ≤ 2097216) :
    Calls Try.prog 68 #[.slice q l cp] w fun e w' => ∃ v, e = .returned v ∧ Ob w' w.heap.size 5 v zs ∧ Below w.heap.size w w' := by
  have hnil : ∀ (w : World) (a : Option Addr) (n c n' c' : Nat), (binOp .eql 23 (.slice a n c) (.slice none n' c')).run Try.prog w = .ok (.bool a.isNone) w := fun w a n c n' c' => Lib.run_eql_slice_nil w _ _ a n c n' c' Try.underlying23
  have HZ := Lib.hid hz
  have HQ := Lib.hid hq
  cases q with
  | none =>
    obtain rfl := hq rfl
    have hl0 : l = 0 := by
      rcases hz.2.2 with h | ⟨_, _, h, _⟩
      · exact h
      · cases h
    subst hl0
    have hzn : Hid (zs = []) := Lib.hid (List.length_eq_zero_iff.1 hz.1)
    clear hz hq
    go_enter Try.func68, Try.ntmps68
    go_wp2
    go_ret
    exact ⟨_, rfl, by rw [hzn.out]; exact Ob.nil _ _ _, Below.refl _ _⟩
  | some ad =>
    have HL : Hid (([] : List Int).length + l ≤ 140737488355328) := Lib.hid (by simp; omega)
    have HO := Lib.hid (ob_lit w 5 #[] [] 0 rfl (by simp) (fun j => by simp) rfl)
    have HB0 : Hid (Below w.heap.size w (w.alloc (.cells #[] 5))) := Lib.hid ((Below.refl _ _).alloc (Nat.le_refl _) _)
    have HS : Hid (w.heap.size ≤ (w.alloc (.cells #[] 5)).heap.size) := Lib.hid (by simp)
    clear hz hq
    go_enter Try.func68, Try.ntmps68
    go_wp2_with (refine wpList_append_bytes rfl (.tmp 5) (.tmp 6) 23 5 rfl Try.underlying23 info8 w.heap.size _ [] rfl HO.out (some ad) l cp zs rfl (HZ.out.later HB0.out) HQ.out HL.out HS.out ?_; intro v2 w2 hob2 hg2; rw [List.nil_append] at hob2; have HO2 := Lib.hid hob2; have HX2 := Lib.hid (below_new HB0.out HO.out hg2 HS.out); clear hob2 hg2)
    go_ret
    exact ⟨_, rfl, HO2.out, HX2.out⟩
end Go.Proofs.Ytjdigncieoaglaa
