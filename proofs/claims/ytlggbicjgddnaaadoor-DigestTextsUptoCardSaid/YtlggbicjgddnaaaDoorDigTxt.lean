/- The statement DigestTexts of layer 6, where what comes in is of bulk at most 1048576. -/
import Derived.Test.YtlggbicjgddnaaaDoorDigT
import Derived.Test.YtlggbicjgddnaaaDoorDigE
import Derived.Test.YtlggbicjgddnaaaDoorDigG
import Derived.Test.YtlggbicjgddnaaaDoorShaK
namespace Go.Proofs.YtlggbicjgddnaaaDoor
set_option linter.unusedVariables false
open Go.RowKit Go.Lib Go.ChangeShapes Go.WideShapes Go.ChangeAt

set_option maxRecDepth 100000 in
theorem digestTexts_contract (H : Type) (enc : TypeId × Value → H) (W : World) (base : Nat) (args : Array Value) (ds gs : List (DataW H)) (before : List MemPlace)
    (hval : ∀ (j : Nat) t v, Tryd.f3.params[j]? = some t → args[j]? = some v → Value.okWide Tryd.prog W .any base t v)
    (hW : DataW.Whole enc Tryd.prog Tryd.f3.params.toList Rows.digestTextsSpec.vars false W args.toList ds gs before) (hL : laidMetH Tryd.prog Rows.digestTextsUptoRow.laid W) (hk : Rows.uptoSmall H (ds ++ gs) = true) :
    Calls Tryd.prog 3 args W fun e W' => ∃ v, e = .returned v ∧ Rows.digestTextsSpec.post enc Tryd.prog Tryd.f3 false true false false W args v W' := by
  have hW' := hW
  obtain ⟨p, q, hA0, hV, rfl, hfz, hnd⟩ := hW
  have hA : DataW.TrodAll enc Tryd.prog W 0 (fun _ => true) true Tryd.f3.params.toList args.toList ds p := hA0
  rw [Tryd.params3] at hA hval
  obtain ⟨v0, vs0, d0, ds0, p0, q0, hargs, rfl, rfl, t0, r0⟩ := trodAll_cons hA
  obtain ⟨v1, vs1, d1, ds1, p1, q1, rfl, rfl, rfl, t1, r1⟩ := trodAll_cons r0
  obtain ⟨v2, vs2, d2, ds2, p2, q2, rfl, rfl, rfl, t2, r2⟩ := trodAll_cons r1
  obtain ⟨rfl, rfl, rfl⟩ := trodAll_nil r2
  obtain rfl : args = #[v0, v1, v2] := by cases args; simp_all
  obtain ⟨rfl, rfl⟩ := trodVars_none hV
  obtain ⟨a0, len0, cap0, rfl⟩ := okWide_slice Tryd.underlying22 (hval 0 22 v0 rfl rfl)
  obtain ⟨fuel0, t0⟩ := t0
  obtain ⟨hlc0, hcm0, hpc0, hb0, zs0, hbs0⟩ := open_bs Tryd.underlying22 Tryd.underlying5 (by kernel_rfl) t0
  obtain ⟨z1, rfl, hz1, hb1⟩ := open_digT (hval 1 24 v1 rfl rfl) t1
  obtain ⟨s2, rfl, hs2, hb2⟩ := open_strT Tryd.underlying9 (hval 2 9 v2 rfl rfl) t2
  have hk' := of_decide_eq_true hk
  simp only [Rows.uptoBulkAll, List.append_nil, hb0, hb1, hb2] at hk'
  refine (digesttexts_walk of_ok text_ok read_ok a0 len0 cap0 zs0 z1 s2 W hbs0 hpc0 hlc0 hcm0 (by omega) hz1 (by omega) (kw_of_laid hL)).mono fun e W' ⟨he, hb⟩ => ?_
  subst he
  exact ⟨_, rfl, law_post laidOut (by kernel_rfl) rfl Tryd.underlying4 rfl hW' rfl rfl rfl hb⟩

theorem digestTextsUpto_met (os : Os) : laidMet Tryd.prog Rows.digestTextsUptoRow.laid ((laidWorld os).forCall (fun _ _ => 0) ⟨#[], #[.slice none 0 0, .agg (bcs dzero), .string ⟨#[]⟩], []⟩).memory :=
  laidMet_of_run' 8 (by kernel_rfl) (by kernel_rfl)
theorem digestTextsUpto_reads (os : Os) {H : Type} (enc : TypeId × Value → H) : ∃ places, DataW.whole enc Tryd.prog ((laidWorld os).forCall (fun _ _ => 0) ⟨#[], #[.slice none 0 0, .agg (bcs dzero), .string ⟨#[]⟩], []⟩).memory Tryd.f3.params.toList Rows.digestTextsSpec.vars false (#[.slice none 0 0, .agg (bcs dzero), .string ⟨#[]⟩] : Array Value).toList 8 = some ([.nil, .agg ((dzero).map fun z => .lit (.int .u8 z)), .lit (.string [])], [], places) :=
  ⟨[], by kernel_rfl⟩

set_option maxRecDepth 100000 in
theorem digestTextsUpto_lifted (os : Os) (started : os.Started) (H : Type) (enc : TypeId × Value → H) (F : Stop.Interp) :
    ReturnsInHanded {} Tryd.checked os 3 .any ((Rows.OpenSpec.upto Rows.digestTextsSpec).preRow enc Tryd.prog Tryd.f3 Rows.digestTextsUptoRow.domain false Rows.digestTextsUptoRow.laid) (((Rows.OpenSpec.upto Rows.digestTextsSpec).at F).post enc Tryd.prog Tryd.f3 false true false false) := by
  obtain ⟨places, hx⟩ := digestTextsUpto_reads os enc
  refine returnsInHanded_of_row (C := Tryd.checked) (s := Rows.OpenSpec.upto Rows.digestTextsSpec) own started (by kernel_rfl) Tryd.func3
    (witness_row_at (enc := enc) (C := Tryd.checked) false (laidWorld os) #[.slice none 0 0, .agg (bcs dzero), .string ⟨#[]⟩] rfl (by kernel_rfl) (by kernel_rfl) (by kernel_rfl)
      (OpenSpec.preRow_of_cond 8 hx (by kernel_rfl) (fun k hk => by cases hk; kernel_rfl) (by kernel_rfl) (digestTextsUpto_met os))) ?_
  intro W base args ds gs before hval hW _ hcond _ hL _ _
  exact digestTexts_contract H enc W base args ds gs before hval hW hL (hcond _ rfl)

theorem digestTextsUpto_said : Rows.DigestTextsUptoSaid :=
  OpenClaim.holds_of_cond 3 Tryd.f3 rfl rfl rfl rfl rfl rfl rfl ⟨rfl, rfl, rfl, rfl, rfl⟩ rfl rfl rfl rfl rfl (by kernel_rfl) Tryd.func3 (by kernel_rfl)
    (of_decide_eq_true (by kernel_rfl)) (by unfold Func.isWrapper; first | (rw [if_pos (by decide +kernel)]; kernel_rfl) | (rw [if_neg (by decide +kernel)]; exact ⟨rfl, rfl⟩))
    (fun os started H enc _ F => by rw [OpenClaim.pre_eq_preRow]; exact digestTextsUpto_lifted os started H enc F)

theorem digestTexts_plain (f : FuncId) (fn : Func) (hf : Tryd.pinned.checked.prog.funcNamed "stillage/stillagelaw06.DigestTexts" = some f) (hfn : Tryd.pinned.checked.prog.funcs[f]? = some fn) :
    false = Tryd.pinned.checked.prog.looks [] ∧ ∀ (j : Nat) t, fn.params[j]? = some t → Tryd.pinned.checked.prog.wantsStandIn t = false := by
  obtain rfl : f = 3 := Option.some.inj ((show Tryd.prog.funcNamed "stillage/stillagelaw06.DigestTexts" = some 3 by kernel_rfl).symm.trans hf) |>.symm
  obtain rfl : fn = Tryd.f3 := (Option.some.inj (Tryd.func3.symm.trans hfn)).symm
  refine ⟨by kernel_rfl, fun j t ht => ?_⟩
  rw [Tryd.params3] at ht
  have hm := Array.mem_of_getElem? ht
  simp only [List.mem_toArray, List.mem_cons, List.not_mem_nil, or_false] at hm
  rcases hm with rfl | rfl | rfl
  · exact (show Tryd.prog.wantsStandIn 22 = false by kernel_rfl)
  · exact (show Tryd.prog.wantsStandIn 24 = false by kernel_rfl)
  · exact (show Tryd.prog.wantsStandIn 9 = false by kernel_rfl)

theorem digestTextsUpto_card : Rows.DigestTextsUptoCardSaid :=
  Claim7.holds_tied_plain_at .later [] _ _ _ _ digestTextsUpto_said (fun _ h => by cases h) (by kernel_rfl) (fun _ h => by cases h) digestTextsUpto_row_tie rfl ⟨rfl, rfl⟩ (by kernel_rfl) rfl digestTexts_plain (by kernel_rfl)
end Go.Proofs.YtlggbicjgddnaaaDoor
