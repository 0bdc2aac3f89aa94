/- Whatever deeds are done to a state of any snapshot (words applied, segments kept), it has behind each what the document's own state has: entries, tags, loads, and which words live; of inputs whose bulk is at most 1048576. -/
import Derived.Test.YtpfbfhigelbfcaaGreatSd52
import Derived.Test.YtpfbfhigelbfcaaGreatSd55
set_option linter.unusedSimpArgs false
set_option linter.unusedVariables false
namespace Go.Proofs.YtpfbfhigelbfcaaGreat
open Go.RowKit Go.Lib Go.ChangeShapes Go.WideShapes Go.ChangeAt
theorem statedoes_walk (sa sb sc se : Int) (p : Option Addr) (n c : Nat) (D : List Ex) (q : Option Addr) (m d : Nat) (T : List Tx) (r : Option Addr) (l cr : Nat) (K : List (Int × Int × Int)) (K1 : Nat) (qd : Option Addr) (md dd : Nat) (E : List Dy) (w : World) (hD : ReN w (fun b => b < w.heap.size) p n D) (hTT : ReT w (fun b => b < w.heap.size) q m T) (hK : Gs encLo w r l K) (s1 : SlOk p n c) (s2 : SlOk q m d) (s3 : SlOk r l cr) (hr : SnR D T K) (hi : insLe (peL D) K1) (hj : insLeT (ptL T) K1) (hE : Gs encDy w qd md E) (hEi : ∀ x ∈ E, Is w x.s x.B ∧ dok x.w.dg ∧ x.B.length ≤ 1048576 ∧ x.w.In ∧ ∀ b ∈ x.B, Rgi b) (hn : n + m + md ≤ 1048576) (hl : l + md ≤ 1048576) (hk1 : K1 + md ≤ 2097151) :
 Calls Tryz.prog 3 #[.agg (SnC sa sb sc se (.slice p n c) (.slice q m d) (.slice r l cr)), .slice qd md dd] w fun e w' => e = .returned (.bool true) ∧ Below w.heap.size w w' :=
 statedoes_any st_ok p q r n m l c d cr sa sb sc se D T K (fun b => b < w.heap.size) qd md dd K1 E w hD hTT hK s1 s2 s3 hr hE hEi hn hl hi hj hk1
set_option maxRecDepth 100000 in
theorem stateDoes_contract (H : Type) (enc : TypeId × Value → H) (W : World) (base : Nat) (args : Array Value) (ds gs : List (DataW H)) (before : List MemPlace)
 (hval : ∀ (j : Nat) t v, Tryz.f3.params[j]? = some t → args[j]? = some v → Value.okWide Tryz.prog W .any base t v)
 (hW : DataW.Whole enc Tryz.prog Tryz.f3.params.toList Rows.stateDoesSpec.vars false W args.toList ds gs before) (hk : Rows.uptoSmall H (ds ++ gs) = true) :
 Calls Tryz.prog 3 args W fun e W' => ∃ v, e = .returned v ∧ Rows.stateDoesSpec.post enc Tryz.prog Tryz.f3 false true false false W args v W' := by
 have hW' := hW
 obtain ⟨p, q, hA0, hV, rfl, hfz, hnd⟩ := hW
 have hA : DataW.TrodAll enc Tryz.prog W 0 (fun _ => true) true Tryz.f3.params.toList args.toList ds p := hA0
 rw [Tryz.params3] at hA hval
 obtain ⟨v0, vs0, d0, ds0, p0, q0, hargs, rfl, rfl, t0, r0⟩ := trodAll_cons hA
 obtain ⟨v1, vs1, d1, ds1, p1, q1, rfl, rfl, rfl, t1, r1⟩ := trodAll_cons r0
 obtain ⟨rfl, rfl, rfl⟩ := trodAll_nil r1
 obtain rfl : args = #[v0, v1] := by cases args; simp_all
 obtain ⟨rfl, rfl⟩ := trodVars_none hV
 have hk0 := of_decide_eq_true hk
 simp only [Rows.uptoBulkAll, List.append_nil] at hk0
 obtain ⟨sa0, sb0, sc0, se0, p0, n0, c0, D0, q0, m0, e0, T0, rr0, l0, cr0, K0, k0, rfl, hD0, hT0, hK0, s10, s20, s30, hr0, hi0, hj0, hz0⟩ := open_snap (hval 0 27 v0 rfl rfl) t0
 obtain ⟨a1, len1, cap1, rfl⟩ := okWide_slice Tryz.underlying28 (hval 1 28 v1 rfl rfl)
 obtain ⟨fuel1, t1⟩ := t1
 obtain ⟨L1, hg1, hdi1, hz1⟩ := open_sdeeds t1
 have hz1' : len1 + 1 ≤ Rows.uptoBulk d1 := hz1
 have hb1' : Rows.uptoBulk d1 ≤ 1048576 := by omega
 have hk' := of_decide_eq_true hk
 simp only [Rows.uptoBulkAll, List.append_nil] at hk'
 refine (statedoes_walk  sa0 sb0 sc0 se0 p0 n0 c0 D0 q0 m0 e0 T0 rr0 l0 cr0 K0 k0 a1 len1 cap1 L1 W hD0 hT0 hK0 s10 s20 s30 hr0 hi0 hj0 hg1 (fun x hx => ⟨(hdi1 x hx).1, (hdi1 x hx).2.1, Nat.le_trans (hdi1 x hx).2.2.1 hb1', (hdi1 x hx).2.2.2⟩) (by omega) (by omega) (by omega)).mono fun e W' ⟨he, hb⟩ => ?_
 subst he
 exact ⟨_, rfl, law_post laidOut (by kernel_rfl) rfl Tryz.underlying4 rfl hW' rfl rfl rfl hb⟩
set_option maxRecDepth 100000 in
theorem stateDoes_lifted (os : Os) (started : os.Started) (H : Type) (enc : TypeId × Value → H) (F : Stop.Interp) :
 ReturnsInHanded {} Tryz.checked os 3 .any ((Rows.OpenSpec.upto Rows.stateDoesSpec).pre6 enc Tryz.prog Tryz.f3 Rows.stateDoesUptoRow.domain false) (((Rows.OpenSpec.upto Rows.stateDoesSpec).at F).post enc Tryz.prog Tryz.f3 false true false false) := by
 refine returnsInHanded_of_cond (C := Tryz.checked) (s := Rows.OpenSpec.upto Rows.stateDoesSpec) (k := Rows.uptoSmall) rfl own started (by kernel_rfl) Tryz.func3
  (OpenSpec.witness (enc := enc) (C := Tryz.checked) (s := Rows.OpenSpec.upto Rows.stateDoesSpec) (k := Rows.uptoSmall) rfl false ⟨#[], #[.agg #[.int .i64 0, .int .i64 0, .int .i64 0, .int .u64 0, .slice none 0 0, .slice none 0 0, .slice none 0 0], .slice none 0 0], []⟩ 8 (by kernel_rfl) (by kernel_rfl) (by kernel_rfl)
   (x := ([.agg [.lit (.int .i64 0), .lit (.int .i64 0), .lit (.int .i64 0), .lit (.int .u64 0), .nil, .nil, .nil], .nil], [], [])) (by kernel_rfl) rfl (by kernel_rfl)) ?_
 intro W base args ds gs before hval hW _ hk _
 exact stateDoes_contract H enc W base args ds gs before hval hW hk
theorem stateDoesUpto_holds : Rows.StateDoesUptoSaid :=
 OpenClaim.holds_of_cond 3 Tryz.f3 rfl rfl rfl rfl rfl rfl rfl ⟨rfl, rfl, rfl, rfl, rfl⟩ rfl rfl rfl rfl rfl (by kernel_rfl) Tryz.func3 (by kernel_rfl)
  (of_decide_eq_true (by kernel_rfl)) (by unfold Func.isWrapper; first | (rw [if_pos (by decide +kernel)]; kernel_rfl) | (rw [if_neg (by decide +kernel)]; exact ⟨rfl, rfl⟩))
  (fun os started H enc _ F => stateDoes_lifted os started H enc F)
end Go.Proofs.YtpfbfhigelbfcaaGreat

