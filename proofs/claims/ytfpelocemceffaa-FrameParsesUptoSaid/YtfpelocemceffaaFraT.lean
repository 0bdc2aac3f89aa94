/- The statement FrameParses of layer 13, where what comes in is of bulk at most 1048576: of any bytes and any place, Parse answers the frame that the reference finds there, and its error; the law returns true. -/
import Derived.Test.YtfpelocemceffaaFraM
import Derived.Test.YtfpelocemceffaaLaw
namespace Go.Proofs.Ytfpelocemceffaa
set_option linter.unusedVariables false
open Go.RowKit Go.Lib Go.ChangeShapes Go.WideShapes Go.ChangeAt

set_option maxRecDepth 100000 in
set_option maxHeartbeats 1000000 in
theorem frameparses_walk (p : Option Addr) (len cap : Nat) (zs : List Int) (a : Int) (w : World) (h : Bs w p len zs) (hpc : p = none → cap = 0) (hlc : len ≤ cap) (hcap : cap ≤ 1048576) (ha : -9223372036854775808 ≤ a ∧ a ≤ 9223372036854775807) :
    Calls Try.prog 3 #[.slice p len cap, .int .i64 a] w fun e w' => e = .returned (.bool true) ∧ Below w.heap.size w w' := by
  have H := Lib.hid h
  have HPC := Lib.hid hpc
  have HF := Lib.hid (fparse_any p len cap zs a w h hpc hlc (by omega) ha)
  have HG := Lib.hid fun W (hW : Bs W p len zs) => rparse_any p len cap zs a W hW hpc hlc (by unfold maxLen; omega) (by omega) ha
  generalize psF zs a = F at *
  generalize psE zs a = E at *
  obtain ⟨k, s, d, x⟩ := F
  dsimp only at HF HG
  have HSM := Lib.hid (fsame_any k s x)
  unfold frV at HF HG HSM
  clear h hpc
  go_enter Try.func3, Try.ntmps3
  go_wp2_with (first
    | (go_at_call 6; refine HF.out.mono ?_; rintro e w1 ⟨q1, n1, c1, rfl, hd1, hn1, hc1, _, hb1⟩; obtain ⟨wA, hA⟩ : ∃ W, w1.alloc (.cells #[.int .i64 k, .int .u64 s, .slice q1 n1 c1, .int .i64 x] 25) = W := ⟨_, rfl⟩; have HRA : Hid (wA.heap[w1.heap.size]? = some (.cells #[.int .i64 k, .int .u64 s, .slice q1 n1 c1, .int .i64 x] 25 (0, 0))) := Lib.hid (by rw [← hA]; exact heap_alloc_new _ _); have hBA : Below w1.heap.size w1 wA := by { rw [← hA]; exact (Below.refl _ _).alloc (Nat.le_refl _) _ }; have HD1 := Lib.hid (hd1.later hBA); have HBA := Lib.hid (below_step hb1 hBA); have HN1 : Hid (n1 ≤ maxLen) := Lib.hid (Nat.le_trans hn1 hc1); clear hd1 hn1 hc1 hb1 hBA)
    | (go_at_call 7; refine (HG.out _ (H.out.later HBA.out)).mono ?_; rintro e w2 ⟨q2, n2, c2, rfl, hd2, hn2, hc2, _, hb2⟩; obtain ⟨wC, hC⟩ : ∃ W, w2.alloc (.cells #[.int .i64 k, .int .u64 s, .slice q2 n2 c2, .int .i64 x] 29) = W := ⟨_, rfl⟩; have hRC : wC.heap[w2.heap.size]? = some (.cells #[.int .i64 k, .int .u64 s, .slice q2 n2 c2, .int .i64 x] 29 (0, 0)) := by { rw [← hC]; exact heap_alloc_new _ _ }; have hBC : Below w2.heap.size w2 wC := by { rw [← hC]; exact (Below.refl _ _).alloc (Nat.le_refl _) _ }; have HD2 := Lib.hid (hd2.later hBC); have HBC := Lib.hid (below_step HBA.out (below_step hb2 hBC)); have HD1' := Lib.hid (HD1.out.later (below_step hb2 hBC)); obtain ⟨a0, a1, a2, a3, _⟩ := row4 (row_later HRA.out (below_step hb2 hBC)); obtain ⟨b0, b1, b2, b3, _⟩ := row4 hRC; clear hd2 hn2 hc2 hb2 hBC hRC)
    | (go_at_call 8; refine (HSM.out q1 n1 c1 q2 n2 c2 d _ HD1'.out HD2.out HN1.out).mono ?_; rintro e w3 ⟨rfl, hb3⟩; have HB3 := Lib.hid (below_step HBC.out hb3); clear hb3)
    | (go_at_call 9; refine (flives_any _).mono ?_; rintro e w4 ⟨rfl, hb4⟩; have HB4 := Lib.hid (below_step HB3.out hb4); clear hb4))
  go_ret
  exact ⟨rfl, HB4.out⟩

set_option maxRecDepth 100000 in
theorem frameParses_contract (H : Type) (enc : TypeId × Value → H) (W : World) (base : Nat) (args : Array Value) (ds gs : List (DataW H)) (before : List MemPlace)
    (hval : ∀ (j : Nat) t v, Try.f3.params[j]? = some t → args[j]? = some v → Value.okWide Try.prog W .any base t v)
    (hW : DataW.Whole enc Try.prog Try.f3.params.toList Rows.frameParsesSpec.vars false W args.toList ds gs before) (hk : Rows.uptoSmall H (ds ++ gs) = true) :
    Calls Try.prog 3 args W fun e W' => ∃ v, e = .returned v ∧ Rows.frameParsesSpec.post enc Try.prog Try.f3 false true false false W args v W' := by
  have hW' := hW
  obtain ⟨p, q, hA0, hV, rfl, hfz, hnd⟩ := hW
  have hA : DataW.TrodAll enc Try.prog W 0 (fun _ => true) true Try.f3.params.toList args.toList ds p := hA0
  rw [Try.params3] at hA hval
  obtain ⟨v0, vs0, d0, ds0, p0, q0, hargs, rfl, rfl, t0, r0⟩ := trodAll_cons hA
  obtain ⟨v1, vs1, d1, ds1, p1, q1, rfl, rfl, rfl, t1, r1⟩ := trodAll_cons r0
  obtain ⟨rfl, rfl, rfl⟩ := trodAll_nil r1
  obtain rfl : args = #[v0, v1] := by cases args; simp_all
  obtain ⟨rfl, rfl⟩ := trodVars_none hV
  obtain ⟨a0, len0, cap0, rfl⟩ := okWide_slice Try.underlying22 (hval 0 22 v0 rfl rfl)
  obtain ⟨fuel0, t0⟩ := t0
  obtain ⟨hlc0, hcm0, hpc0, hb0, zs0, hbs0⟩ := open_bs Try.underlying22 Try.underlying5 (by kernel_rfl) t0
  obtain ⟨m1, rfl, rfl, rfl, wm1⟩ := open_int Try.underlying3 (hval 1 3 v1 rfl rfl) t1
  have hk' := of_decide_eq_true hk
  simp only [Rows.uptoBulkAll, Rows.uptoBulk, List.append_nil, hb0] at hk'
  refine (frameparses_walk  a0 len0 cap0 zs0 m1 W hbs0 hpc0 hlc0 (by omega) (wf_i64 wm1)).mono fun e W' ⟨he, hb⟩ => ?_
  subst he
  exact ⟨_, rfl, law_post laidOut (by kernel_rfl) rfl Try.underlying4 rfl hW' rfl rfl rfl hb⟩

set_option maxRecDepth 100000 in
theorem frameParses_lifted (os : Os) (started : os.Started) (H : Type) (enc : TypeId × Value → H) (F : Stop.Interp) :
    ReturnsInHanded {} Try.checked os 3 .any ((Rows.OpenSpec.upto Rows.frameParsesSpec).pre6 enc Try.prog Try.f3 Rows.frameParsesUptoRow.domain false) (((Rows.OpenSpec.upto Rows.frameParsesSpec).at F).post enc Try.prog Try.f3 false true false false) := by
  refine returnsInHanded_of_cond (C := Try.checked) (s := Rows.OpenSpec.upto Rows.frameParsesSpec) (k := Rows.uptoSmall) rfl own started (by kernel_rfl) Try.func3
    (OpenSpec.witness (enc := enc) (C := Try.checked) (s := Rows.OpenSpec.upto Rows.frameParsesSpec) (k := Rows.uptoSmall) rfl false ⟨#[], #[.slice none 0 0, .int .i64 0], []⟩ 8 (by kernel_rfl) (by kernel_rfl) (by kernel_rfl)
      (x := ([.nil, .lit (.int .i64 0)], [], [])) (by kernel_rfl) rfl (by kernel_rfl)) ?_
  intro W base args ds gs before hval hW _ hk _
  exact frameParses_contract H enc W base args ds gs before hval hW hk

theorem frameParsesUpto_holds : Rows.FrameParsesUptoSaid :=
  OpenClaim.holds_of_cond 3 Try.f3 rfl rfl rfl rfl rfl rfl rfl ⟨rfl, rfl, rfl, rfl, rfl⟩ rfl rfl rfl rfl rfl (by kernel_rfl) Try.func3 (by kernel_rfl)
    (of_decide_eq_true (by kernel_rfl)) (by unfold Func.isWrapper; first | (rw [if_pos (by decide +kernel)]; kernel_rfl) | (rw [if_neg (by decide +kernel)]; exact ⟨rfl, rfl⟩))
    (fun os started H enc _ F => frameParses_lifted os started H enc F)
