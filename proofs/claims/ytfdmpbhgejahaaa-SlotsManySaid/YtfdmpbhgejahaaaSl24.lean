/- Whatever deeds are done to a table of digests (a value given, a value taken away), it answers behind each what the document's own table answers, has as many digests and as many slots, and at the end each digest is found with its value and the row of all is the document's row; of lists of deeds whose bulk is at most 1048576 -/
import Derived.Test.YtfdmpbhgejahaaaSl9
import Derived.Test.YtfdmpbhgejahaaaSl14
import Derived.Test.YtfdmpbhgejahaaaSl19
import Derived.Test.YtfdmpbhgejahaaaSl20
import Derived.Test.YtfdmpbhgejahaaaSl23
set_option linter.unusedSimpArgs false
set_option linter.unusedVariables false
namespace Go.Proofs.Ytfdmpbhgejahaaa
set_option linter.unusedVariables false
open Go.RowKit Go.Lib Go.ChangeShapes Go.WideShapes Go.ChangeAt

theorem slotsdoes_walk (a0 : Option Addr) (n ca : Nat) (A : List Dx18) (w : World) (h : Gs encDe w a0 n A) (hk : ∀ x ∈ A, x.1.Ok) (hn : n ≤ 1048576) :
    Calls Try.prog 3 #[.slice a0 n ca] w fun e w' => e = .returned (.bool true) ∧ Below w.heap.size w w' := slotsdoes_any tabOk (tabRow_any row_ok) a0 n ca A w h hk hn
set_option maxRecDepth 100000 in
theorem slotsDoes_contract (H : Type) (enc : TypeId × Value → H) (W : World) (base : Nat) (args : Array Value) (ds gs : List (DataW H)) (before : List MemPlace)
    (hval : ∀ (j : Nat) t v, Try.f3.params[j]? = some t → args[j]? = some v → Value.okWide Try.prog W .any base t v)
    (hW : DataW.Whole enc Try.prog Try.f3.params.toList Rows.slotsDoesSpec.vars false W args.toList ds gs before) (hk : Rows.uptoSmall H (ds ++ gs) = true) :
    Calls Try.prog 3 args W fun e W' => ∃ v, e = .returned v ∧ Rows.slotsDoesSpec.post enc Try.prog Try.f3 false true false false W args v W' := by
  have hW' := hW
  obtain ⟨p, q, hA0, hV, rfl, hfz, hnd⟩ := hW
  have hA : DataW.TrodAll enc Try.prog W 0 (fun _ => true) true Try.f3.params.toList args.toList ds p := hA0
  rw [Try.params3] at hA hval
  obtain ⟨v0, vs0, d0, ds0, p0, q0, hargs, rfl, rfl, t0, r0⟩ := trodAll_cons hA
  obtain ⟨rfl, rfl, rfl⟩ := trodAll_nil r0
  obtain rfl : args = #[v0] := by cases args; simp_all
  obtain ⟨rfl, rfl⟩ := trodVars_none hV
  have hk0 := of_decide_eq_true hk
  simp only [Rows.uptoBulkAll, List.append_nil] at hk0
  obtain ⟨a0, len0, cap0, rfl⟩ := okWide_slice Try.underlying22 (hval 0 22 v0 rfl rfl)
  obtain ⟨fuel0, t0⟩ := t0
  obtain ⟨hlc0, hcm0, hpc0, L0, hg0, hf0, hz0⟩ := open_des t0
  have hz0' : len0 + 1 ≤ Rows.uptoBulk d0 := hz0
  have hk' := of_decide_eq_true hk
  simp only [Rows.uptoBulkAll, List.append_nil] at hk'
  refine (slotsdoes_walk  a0 len0 cap0 L0 W hg0 hf0 (by omega)).mono fun e W' ⟨he, hb⟩ => ?_
  subst he
  exact ⟨_, rfl, law_post laidOut (by kernel_rfl) rfl Try.underlying4 rfl hW' rfl rfl rfl hb⟩

set_option maxRecDepth 100000 in
theorem slotsDoes_lifted (os : Os) (started : os.Started) (H : Type) (enc : TypeId × Value → H) (F : Stop.Interp) :
    ReturnsInHanded {} Try.checked os 3 .any ((Rows.OpenSpec.upto Rows.slotsDoesSpec).pre6 enc Try.prog Try.f3 Rows.slotsDoesUptoRow.domain false) (((Rows.OpenSpec.upto Rows.slotsDoesSpec).at F).post enc Try.prog Try.f3 false true false false) := by
  refine returnsInHanded_of_cond (C := Try.checked) (s := Rows.OpenSpec.upto Rows.slotsDoesSpec) (k := Rows.uptoSmall) rfl own started (by kernel_rfl) Try.func3
    (OpenSpec.witness (enc := enc) (C := Try.checked) (s := Rows.OpenSpec.upto Rows.slotsDoesSpec) (k := Rows.uptoSmall) rfl false ⟨#[], #[.slice none 0 0], []⟩ 8 (by kernel_rfl) (by kernel_rfl) (by kernel_rfl)
      (x := ([.nil], [], [])) (by kernel_rfl) rfl (by kernel_rfl)) ?_
  intro W base args ds gs before hval hW _ hk _
  exact slotsDoes_contract H enc W base args ds gs before hval hW hk

theorem slotsDoesUpto_holds : Rows.SlotsDoesUptoSaid :=
  OpenClaim.holds_of_cond 3 Try.f3 rfl rfl rfl rfl rfl rfl rfl ⟨rfl, rfl, rfl, rfl, rfl⟩ rfl rfl rfl rfl rfl (by kernel_rfl) Try.func3 (by kernel_rfl)
    (of_decide_eq_true (by kernel_rfl)) (by unfold Func.isWrapper; first | (rw [if_pos (by decide +kernel)]; kernel_rfl) | (rw [if_neg (by decide +kernel)]; exact ⟨rfl, rfl⟩))
    (fun os started H enc _ F => slotsDoes_lifted os started H enc F)
end Go.Proofs.Ytfdmpbhgejahaaa
