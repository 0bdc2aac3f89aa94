/- Whatever deeds are done to an index of any entries (words applied, segments kept), it answers behind each what the document's own rows answer; of inputs whose bulk is at most 1048576. -/
import Derived.Test.YtclfghmgcioilaaGreatId8
import Derived.Test.YtclfghmgcioilaaGreatId29
import Derived.Test.YtclfghmgcioilaaGreatId31
set_option linter.unusedSimpArgs false
set_option linter.unusedVariables false
namespace Go.Proofs.YtclfghmgcioilaaGreat
set_option linter.unusedVariables false
open Go.RowKit Go.Lib Go.ChangeShapes Go.WideShapes Go.ChangeAt

theorem indexdoes_walk (p : Option Addr) (n c : Nat) (Ls : List Ex) (K : Nat) (q : Option Addr) (m d : Nat) (D : List Dq) (w : World)
    (hR : ReN w (fun b => b < w.heap.size) p n Ls) (hpc : p = none → c = 0) (hnc : n ≤ c) (hcm : c ≤ maxLen) (hil : insLe (peL Ls) K) (hD : Gs encDq w q m D) (hDi : ∀ x ∈ D, Is w x.s x.B ∧ dok x.w.dg ∧ x.B.length ≤ 1048576) (hnm : n + m ≤ 1048576) (hkm : K + m ≤ 1048576) :
    Calls Tryz.prog 3 #[.slice p n c, .slice q m d] w fun e w' => e = .returned (.bool true) ∧ Below w.heap.size w w' := indexdoes_any idx_ok p n c Ls q m d D K w hR hpc hnc hcm hil hD hDi hnm hkm
set_option maxRecDepth 100000 in
theorem indexDoes_contract (H : Type) (enc : TypeId × Value → H) (W : World) (base : Nat) (args : Array Value) (ds gs : List (DataW H)) (before : List MemPlace)
    (hval : ∀ (j : Nat) t v, Tryz.f3.params[j]? = some t → args[j]? = some v → Value.okWide Tryz.prog W .any base t v)
    (hW : DataW.Whole enc Tryz.prog Tryz.f3.params.toList Rows.indexDoesSpec.vars false W args.toList ds gs before) (hk : Rows.uptoSmall H (ds ++ gs) = true) :
    Calls Tryz.prog 3 args W fun e W' => ∃ v, e = .returned v ∧ Rows.indexDoesSpec.post enc Tryz.prog Tryz.f3 false true false false W args v W' := by
  have hW' := hW
  obtain ⟨p, q, hA0, hV, rfl, hfz, hnd⟩ := hW
  have hA : DataW.TrodAll enc Tryz.prog W 0 (fun _ => true) true Tryz.f3.params.toList args.toList ds p := hA0
  rw [Tryz.params3] at hA hval
  obtain ⟨v0, vs0, d0, ds0, p0, q0, hargs, rfl, rfl, t0, r0⟩ := trodAll_cons hA
  obtain ⟨v1, vs1, d1, ds1, p1, q1, rfl, rfl, rfl, t1, r1⟩ := trodAll_cons r0
  obtain ⟨rfl, rfl, rfl⟩ := trodAll_nil r1
  obtain rfl : args = #[v0, v1] := by cases args; simp_all
  obtain ⟨rfl, rfl⟩ := trodVars_none hV
  have hk0 := of_decide_eq_true hk
  simp only [Rows.uptoBulkAll, List.append_nil] at hk0
  obtain ⟨a0, len0, cap0, rfl⟩ := okWide_slice Tryz.underlying22 (hval 0 22 v0 rfl rfl)
  obtain ⟨fuel0, t0⟩ := t0
  obtain ⟨hlc0, hcm0, hpc0, L0, K0, hre0, hil0, hz0⟩ := open_ents t0
  have hz0' : len0 + K0 + 1 ≤ Rows.uptoBulk d0 := hz0
  obtain ⟨a1, len1, cap1, rfl⟩ := okWide_slice Tryz.underlying23 (hval 1 23 v1 rfl rfl)
  obtain ⟨fuel1, t1⟩ := t1
  obtain ⟨L1, hg1, hdi1, hz1⟩ := open_deeds t1
  have hz1' : len1 + 1 ≤ Rows.uptoBulk d1 := hz1
  have hb1' : Rows.uptoBulk d1 ≤ 1048576 := by omega
  have hk' := of_decide_eq_true hk
  simp only [Rows.uptoBulkAll, List.append_nil] at hk'
  refine (indexdoes_walk  a0 len0 cap0 L0 K0 a1 len1 cap1 L1 W hre0 hpc0 hlc0 hcm0 hil0 hg1 (fun x hx => ⟨(hdi1 x hx).1, (hdi1 x hx).2.1, Nat.le_trans (hdi1 x hx).2.2 hb1'⟩) (by omega) (by omega)).mono fun e W' ⟨he, hb⟩ => ?_
  subst he
  exact ⟨_, rfl, law_post laidOut (by kernel_rfl) rfl Tryz.underlying4 rfl hW' rfl rfl rfl hb⟩

set_option maxRecDepth 100000 in
theorem indexDoes_lifted (os : Os) (started : os.Started) (H : Type) (enc : TypeId × Value → H) (F : Stop.Interp) :
    ReturnsInHanded {} Tryz.checked os 3 .any ((Rows.OpenSpec.upto Rows.indexDoesSpec).pre6 enc Tryz.prog Tryz.f3 Rows.indexDoesUptoRow.domain false) (((Rows.OpenSpec.upto Rows.indexDoesSpec).at F).post enc Tryz.prog Tryz.f3 false true false false) := by
  refine returnsInHanded_of_cond (C := Tryz.checked) (s := Rows.OpenSpec.upto Rows.indexDoesSpec) (k := Rows.uptoSmall) rfl own started (by kernel_rfl) Tryz.func3
    (OpenSpec.witness (enc := enc) (C := Tryz.checked) (s := Rows.OpenSpec.upto Rows.indexDoesSpec) (k := Rows.uptoSmall) rfl false ⟨#[], #[.slice none 0 0, .slice none 0 0], []⟩ 8 (by kernel_rfl) (by kernel_rfl) (by kernel_rfl)
      (x := ([.nil, .nil], [], [])) (by kernel_rfl) rfl (by kernel_rfl)) ?_
  intro W base args ds gs before hval hW _ hk _
  exact indexDoes_contract H enc W base args ds gs before hval hW hk

theorem indexDoesUpto_holds : Rows.IndexDoesUptoSaid :=
  OpenClaim.holds_of_cond 3 Tryz.f3 rfl rfl rfl rfl rfl rfl rfl ⟨rfl, rfl, rfl, rfl, rfl⟩ rfl rfl rfl rfl rfl (by kernel_rfl) Tryz.func3 (by kernel_rfl)
    (of_decide_eq_true (by kernel_rfl)) (by unfold Func.isWrapper; first | (rw [if_pos (by decide +kernel)]; kernel_rfl) | (rw [if_neg (by decide +kernel)]; exact ⟨rfl, rfl⟩))
    (fun os started H enc _ F => indexDoes_lifted os started H enc F)
end Go.Proofs.YtclfghmgcioilaaGreat
