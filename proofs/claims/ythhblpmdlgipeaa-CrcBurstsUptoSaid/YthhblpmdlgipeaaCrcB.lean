/- The statement CrcBursts of layer 5, where what comes in is of bulk at most 1048576: bits turned round within 32 have another sum; the law returns true. -/
import Derived.Test.YthhblpmdlgipeaaCrcU
import Derived.Test.YthhblpmdlgipeaaSame
import Derived.Test.YthhblpmdlgipeaaLaw
namespace Go.Proofs.Ythhblpmdlgipeaa
set_option linter.unusedVariables false
open Go.RowKit Go.Lib Go.ChangeShapes Go.WideShapes Go.ChangeAt

theorem seen_bool (zs : List Int) (bit : Int) (m : Nat) (hz : ∀ j, 0 ≤ zs.getD j 0 ∧ zs.getD j 0 < 256) : (((crcN (turnZ zs bit m 32) : Nat) : Int) == ((crcN zs : Nat) : Int)) = decide (zs = turnZ zs bit m 32) := by
  have h := turn_seen zs bit m hz
  rw [Bool.eq_iff_iff, beq_iff_eq, decide_eq_true_iff]
  refine ⟨fun e => (h.1 (by omega)).symm, fun e => by have := h.2 e.symm; omega⟩

set_option maxRecDepth 100000 in
set_option maxHeartbeats 1000000 in
theorem crcbursts_walk (p : Option Addr) (len cap : Nat) (zs : List Int) (bit : Int) (m : Nat) (w : World) (h : Bs w p len zs) (hpc : p = none → cap = 0) (hlc : len ≤ cap) (hlen : len ≤ 1048576) (hb0 : -9223372036854775808 ≤ bit) (hb1 : bit ≤ 9223372036854775807) (hm : m < 4294967296) :
    Calls Try.prog 5 #[.slice p len cap, .int .i64 bit, .int .u32 (m : Int)] w fun e w' => e = .returned (.bool true) ∧ Below w.heap.size w w' := by
  have H := Lib.hid h
  have HPC := Lib.hid hpc
  have HSB := Lib.hid (seen_bool zs bit m h.byte)
  have HTL : Hid ((turnZ zs bit m 32).length = len) := Lib.hid (by rw [turnZ_length, h.len])
  have hm1 : len ≤ maxLen := by unfold maxLen; omega
  have HMX := Lib.hid hm1
  clear h hpc hlc hm1
  go_enter Try.func5, Try.ntmps5
  go_wp2_with fail
  refine (turn_any p len cap zs bit m _ H.out HPC.out hlen hb0 hb1 hm).mono ?_
  rintro e w1 ⟨v1, rfl, ho1, hb1'⟩
  generalize turnZ zs bit m 32 = cz at *
  have HB1 := Lib.hid hb1'
  obtain ⟨p1, c1, hv1, _, _, hbs1, _⟩ := ho1.open
  rw [HTL.out] at hv1 hbs1
  subst hv1
  have HS1 := Lib.hid hbs1
  clear hb1' ho1 hbs1
  go_wp2_with fail
  refine (sum_any p1 len c1 cz _ HS1.out HMX.out).mono ?_
  rintro e w2 ⟨rfl, hb2⟩
  have HB2 := Lib.hid (below_step HB1.out hb2)
  have HS2 := Lib.hid (HS1.out.later hb2)
  clear hb2
  go_wp2_with fail
  refine (sum_any p len cap zs _ (H.out.later HB2.out) HMX.out).mono ?_
  rintro e w3 ⟨rfl, hb3⟩
  have HB3 := Lib.hid (below_step HB2.out hb3)
  have HS3 := Lib.hid (HS2.out.later hb3)
  clear hb3
  go_wp2_with fail
  refine (same_any p p1 len len cap c1 zs cz _ HMX.out HMX.out (H.out.later HB3.out) HS3.out).mono ?_
  rintro e w4 ⟨rfl, nq, rfl⟩
  generalize hw4 : w3.drewN nq = w4
  have HB4 : Hid (Below w.heap.size w w4) := Lib.hid (by rw [← hw4]; exact below_drewN HB3.out _)
  clear hw4
  have hsb := HSB.out
  generalize decide (zs = cz) = d at *
  generalize crcN cz = s1 at *
  generalize crcN zs = s2 at *
  clear HSB
  go_wp2_with fail
  refine (lives_any _).mono ?_
  rintro e w5 ⟨rfl, hb5⟩
  have HB5 := Lib.hid (below_step HB4.out hb5)
  clear hb5
  go_wp2
  go_ret
  exact ⟨rfl, HB5.out⟩
theorem crcBursts_contract (H : Type) (enc : TypeId × Value → H) (W : World) (base : Nat) (args : Array Value) (ds gs : List (DataW H)) (before : List MemPlace)
    (hval : ∀ (j : Nat) t v, Try.f5.params[j]? = some t → args[j]? = some v → Value.okWide Try.prog W .any base t v)
    (hW : DataW.Whole enc Try.prog Try.f5.params.toList Rows.crcBurstsSpec.vars false W args.toList ds gs before) (hk : Rows.uptoSmall H (ds ++ gs) = true) :
    Calls Try.prog 5 args W fun e W' => ∃ v, e = .returned v ∧ Rows.crcBurstsSpec.post enc Try.prog Try.f5 false true false false W args v W' := by
  have hW' := hW
  obtain ⟨p, q, hA0, hV, rfl, hfz, hnd⟩ := hW
  have hA : DataW.TrodAll enc Try.prog W 0 (fun _ => true) true Try.f5.params.toList args.toList ds p := hA0
  rw [Try.params5] at hA hval
  obtain ⟨v0, vs0, d0, ds0, p0, q0, hargs, rfl, rfl, t0, r0⟩ := trodAll_cons hA
  obtain ⟨v1, vs1, d1, ds1, p1, q1, rfl, rfl, rfl, t1, r1⟩ := trodAll_cons r0
  obtain ⟨v2, vs2, d2, ds2, p2, q2, rfl, rfl, rfl, t2, r2⟩ := trodAll_cons r1
  obtain ⟨rfl, rfl, rfl⟩ := trodAll_nil r2
  obtain rfl : args = #[v0, v1, v2] := by cases args; simp_all
  obtain ⟨rfl, rfl⟩ := trodVars_none hV
  obtain ⟨a0, len0, cap0, rfl⟩ := okWide_slice Try.underlying22 (hval 0 22 v0 rfl rfl)
  obtain ⟨fuel0, t0⟩ := t0
  obtain ⟨hlc0, hcm0, hpc0, hb0, zs0, hbs0⟩ := open_bs Try.underlying22 Try.underlying5 (by kernel_rfl) t0
  obtain ⟨m1, rfl, rfl, rfl, wm1⟩ := open_int Try.underlying3 (hval 1 3 v1 rfl rfl) t1
  obtain ⟨m2, rfl, rfl, rfl, wm2⟩ := open_int Try.underlying23 (hval 2 23 v2 rfl rfl) t2
  have wn2 := wf_u32 wm2
  obtain ⟨n2, rfl⟩ : ∃ n : Nat, m2 = (n : Int) := ⟨m2.toNat, by omega⟩
  have hk' := of_decide_eq_true hk
  simp only [Rows.uptoBulkAll, Rows.uptoBulk, List.append_nil, hb0] at hk'
  refine (crcbursts_walk a0 len0 cap0 zs0 m1 n2 W hbs0 hpc0 hlc0 (by omega) (wf_i64 wm1).1 (wf_i64 wm1).2 (by omega)).mono fun e W' ⟨he, hb⟩ => ?_
  subst he
  exact ⟨_, rfl, law_post laidOut (by kernel_rfl) rfl Try.underlying4 rfl hW' rfl rfl rfl hb⟩

set_option maxRecDepth 100000 in
theorem crcBursts_lifted (os : Os) (started : os.Started) (H : Type) (enc : TypeId × Value → H) (F : Stop.Interp) :
    ReturnsInHanded {} Try.checked os 5 .any ((Rows.OpenSpec.upto Rows.crcBurstsSpec).pre6 enc Try.prog Try.f5 Rows.crcBurstsUptoRow.domain false) (((Rows.OpenSpec.upto Rows.crcBurstsSpec).at F).post enc Try.prog Try.f5 false true false false) := by
  refine returnsInHanded_of_cond (C := Try.checked) (s := Rows.OpenSpec.upto Rows.crcBurstsSpec) (k := Rows.uptoSmall) rfl own started (by kernel_rfl) Try.func5
    (OpenSpec.witness (enc := enc) (C := Try.checked) (s := Rows.OpenSpec.upto Rows.crcBurstsSpec) (k := Rows.uptoSmall) rfl false ⟨#[], #[.slice none 0 0, .int .i64 0, .int .u32 0], []⟩ 8 (by kernel_rfl) (by kernel_rfl) (by kernel_rfl)
      (x := ([.nil, .lit (.int .i64 0), .lit (.int .u32 0)], [], [])) (by kernel_rfl) rfl (by kernel_rfl)) ?_
  intro W base args ds gs before hval hW _ hk _
  exact crcBursts_contract H enc W base args ds gs before hval hW hk

theorem crcBurstsUpto_holds : Rows.CrcBurstsUptoSaid :=
  OpenClaim.holds_of_cond 5 Try.f5 rfl rfl rfl rfl rfl rfl rfl ⟨rfl, rfl, rfl, rfl, rfl⟩ rfl rfl rfl rfl rfl (by kernel_rfl) Try.func5 (by kernel_rfl)
    (of_decide_eq_true (by kernel_rfl)) (by unfold Func.isWrapper; first | (rw [if_pos (by decide +kernel)]; kernel_rfl) | (rw [if_neg (by decide +kernel)]; exact ⟨rfl, rfl⟩))
    (fun os started H enc _ F => crcBursts_lifted os started H enc F)
end Go.Proofs.Ythhblpmdlgipeaa
