/- A state of any snapshot answers of any digest and any name what the document's own answers; of inputs whose bulk is at most 1048576. -/
import Derived.Test.YtpfbfhigelbfcaaGreatSa9
import Derived.Test.YtpfbfhigelbfcaaGreatSa19
import Derived.Test.YtpfbfhigelbfcaaGreatSa52
import Derived.Test.YtpfbfhigelbfcaaGreatSa55
import Derived.Test.YtpfbfhigelbfcaaGreatSa6
import Derived.WideKeyArr2
set_option linter.unusedSimpArgs false
set_option linter.unusedVariables false
namespace Go.Proofs.YtpfbfhigelbfcaaGreat
open Go.RowKit Go.Lib Go.ChangeShapes Go.WideShapes Go.ChangeAt
theorem arrD : WideMaps.ArrKey Tryz.prog 35 5 32 := ⟨Tryz.underlying35, plain8, cells8, cells24⟩
set_option maxRecDepth 100000 in
/-- A digest, opened. -/
theorem open_digT {H : Type} {enc : TypeId × Value → H} {W : World} {r : Reach} {b0 base : Nat} {sp : Nat → Bool} {held : Bool} {v : Value} {d : DataW H} {ps : List MemPlace} (hval : Value.okWide Tryz.prog W r b0 35 v)
    (h : DataW.Trod enc Tryz.prog W base sp held 35 v d ps) : ∃ zs, v = .agg (bcs zs) ∧ dok zs ∧ Rows.uptoBulk d = 33 := by
  obtain ⟨xs, rfl, hx⟩ := WideMaps.okWide_arr arrD hval
  obtain ⟨fuel, hf⟩ := h
  obtain ⟨zs, hok, hcs, hb, _⟩ := open_dig hf
  refine ⟨zs, ?_, hok, hb⟩
  have e : xs.toList = zs.map (Value.int .u8) := hcs
  rw [bcs, ← e]
theorem stateasks_walk (sa sb sc se : Int) (p : Option Addr) (n c : Nat) (D : List Ex) (q : Option Addr) (m d : Nat) (T : List Tx) (r : Option Addr) (l cr : Nat) (K : List (Int × Int × Int)) (K1 : Nat) (dg : List Int) (nm : ByteArray) (w : World) (hD : ReN w (fun b => b < w.heap.size) p n D) (hTT : ReT w (fun b => b < w.heap.size) q m T) (hK : Gs encLo w r l K) (s1 : SlOk p n c) (s2 : SlOk q m d) (s3 : SlOk r l cr) (hr : SnR D T K) (hi : insLe (peL D) K1) (hj : insLeT (ptL T) K1) (hdg : dok dg) (hnm : nm.size ≤ 1048576) (hn : n + m ≤ 1048576) (hl : l ≤ 1048576) (hk1 : K1 ≤ 2097151) :
    Calls Tryz.prog 4 #[.agg (SnC sa sb sc se (.slice p n c) (.slice q m d) (.slice r l cr)), .agg (bcs dg), .string nm] w fun e w' => e = .returned (.bool true) ∧ Below w.heap.size w w' :=
  stateasks_any st_ok p q r n m l c d cr sa sb sc se D T K (fun b => b < w.heap.size) dg nm w hD hTT hK s1 s2 s3 hr hn hl (fun x hx => Nat.le_trans (hi x hx) hk1) (fun x hx => Nat.le_trans (hj x hx) hk1) hdg (by
    have h1 := FewK.new (L := psL K) hi hj
    have h2 : (psL K).length = l := by unfold psL; rw [List.length_map, hK.len]
    rw [peL_length, ptL_length, hD.gs.len, hTT.gs.len, h2] at h1
    exact h1.few (by omega) (by omega) (by omega))
set_option maxRecDepth 100000 in
theorem stateAsks_contract (H : Type) (enc : TypeId × Value → H) (W : World) (base : Nat) (args : Array Value) (ds gs : List (DataW H)) (before : List MemPlace)
    (hval : ∀ (j : Nat) t v, Tryz.f4.params[j]? = some t → args[j]? = some v → Value.okWide Tryz.prog W .any base t v)
    (hW : DataW.Whole enc Tryz.prog Tryz.f4.params.toList Rows.stateAsksSpec.vars false W args.toList ds gs before) (hk : Rows.uptoSmall H (ds ++ gs) = true) :
    Calls Tryz.prog 4 args W fun e W' => ∃ v, e = .returned v ∧ Rows.stateAsksSpec.post enc Tryz.prog Tryz.f4 false true false false W args v W' := by
  have hW' := hW
  obtain ⟨p, q, hA0, hV, rfl, hfz, hnd⟩ := hW
  have hA : DataW.TrodAll enc Tryz.prog W 0 (fun _ => true) true Tryz.f4.params.toList args.toList ds p := hA0
  rw [Tryz.params4] at hA hval
  obtain ⟨v0, vs0, d0, ds0, p0, q0, hargs, rfl, rfl, t0, r0⟩ := trodAll_cons hA
  obtain ⟨v1, vs1, d1, ds1, p1, q1, rfl, rfl, rfl, t1, r1⟩ := trodAll_cons r0
  obtain ⟨v2, vs2, d2, ds2, p2, q2, rfl, rfl, rfl, t2, r2⟩ := trodAll_cons r1
  obtain ⟨rfl, rfl, rfl⟩ := trodAll_nil r2
  obtain rfl : args = #[v0, v1, v2] := by cases args; simp_all
  obtain ⟨rfl, rfl⟩ := trodVars_none hV
  have hk0 := of_decide_eq_true hk
  simp only [Rows.uptoBulkAll, List.append_nil] at hk0
  obtain ⟨sa0, sb0, sc0, se0, p0, n0, c0, D0, q0, m0, e0, T0, rr0, l0, cr0, K0, k0, rfl, hD0, hT0, hK0, s10, s20, s30, hr0, hi0, hj0, hz0⟩ := open_snap (hval 0 27 v0 rfl rfl) t0
  obtain ⟨z1, rfl, hz1, hb1⟩ := open_digT (hval 1 35 v1 rfl rfl) t1
  obtain ⟨s2, rfl, hs2, hb2⟩ := open_strT Tryz.underlying9 (hval 2 9 v2 rfl rfl) t2
  have hk' := of_decide_eq_true hk
  simp only [Rows.uptoBulkAll, List.append_nil, hb1, hb2] at hk'
  refine (stateasks_walk  sa0 sb0 sc0 se0 p0 n0 c0 D0 q0 m0 e0 T0 rr0 l0 cr0 K0 k0 z1 s2 W hD0 hT0 hK0 s10 s20 s30 hr0 hi0 hj0 hz1 (by omega) (by omega) (by omega) (by omega)).mono fun e W' ⟨he, hb⟩ => ?_
  subst he
  exact ⟨_, rfl, law_post laidOut (by kernel_rfl) rfl Tryz.underlying4 rfl hW' rfl rfl rfl hb⟩
set_option maxRecDepth 100000 in
theorem stateAsks_lifted (os : Os) (started : os.Started) (H : Type) (enc : TypeId × Value → H) (F : Stop.Interp) :
    ReturnsInHanded {} Tryz.checked os 4 .any ((Rows.OpenSpec.upto Rows.stateAsksSpec).pre6 enc Tryz.prog Tryz.f4 Rows.stateAsksUptoRow.domain false) (((Rows.OpenSpec.upto Rows.stateAsksSpec).at F).post enc Tryz.prog Tryz.f4 false true false false) := by
  refine returnsInHanded_of_cond (C := Tryz.checked) (s := Rows.OpenSpec.upto Rows.stateAsksSpec) (k := Rows.uptoSmall) rfl own started (by kernel_rfl) Tryz.func4
    (OpenSpec.witness (enc := enc) (C := Tryz.checked) (s := Rows.OpenSpec.upto Rows.stateAsksSpec) (k := Rows.uptoSmall) rfl false ⟨#[], #[.agg #[.int .i64 0, .int .i64 0, .int .i64 0, .int .u64 0, .slice none 0 0, .slice none 0 0, .slice none 0 0], .agg #[.int .u8 0, .int .u8 0, .int .u8 0, .int .u8 0, .int .u8 0, .int .u8 0, .int .u8 0, .int .u8 0, .int .u8 0, .int .u8 0, .int .u8 0, .int .u8 0, .int .u8 0, .int .u8 0, .int .u8 0, .int .u8 0, .int .u8 0, .int .u8 0, .int .u8 0, .int .u8 0, .int .u8 0, .int .u8 0, .int .u8 0, .int .u8 0, .int .u8 0, .int .u8 0, .int .u8 0, .int .u8 0, .int .u8 0, .int .u8 0, .int .u8 0, .int .u8 0], .string ⟨#[]⟩], []⟩ 8 (by kernel_rfl) (by kernel_rfl) (by kernel_rfl)
      (x := ([.agg [.lit (.int .i64 0), .lit (.int .i64 0), .lit (.int .i64 0), .lit (.int .u64 0), .nil, .nil, .nil], .agg [.lit (.int .u8 0), .lit (.int .u8 0), .lit (.int .u8 0), .lit (.int .u8 0), .lit (.int .u8 0), .lit (.int .u8 0), .lit (.int .u8 0), .lit (.int .u8 0), .lit (.int .u8 0), .lit (.int .u8 0), .lit (.int .u8 0), .lit (.int .u8 0), .lit (.int .u8 0), .lit (.int .u8 0), .lit (.int .u8 0), .lit (.int .u8 0), .lit (.int .u8 0), .lit (.int .u8 0), .lit (.int .u8 0), .lit (.int .u8 0), .lit (.int .u8 0), .lit (.int .u8 0), .lit (.int .u8 0), .lit (.int .u8 0), .lit (.int .u8 0), .lit (.int .u8 0), .lit (.int .u8 0), .lit (.int .u8 0), .lit (.int .u8 0), .lit (.int .u8 0), .lit (.int .u8 0), .lit (.int .u8 0)], .lit (.string [])], [], [])) (by kernel_rfl) rfl (by kernel_rfl)) ?_
  intro W base args ds gs before hval hW _ hk _
  exact stateAsks_contract H enc W base args ds gs before hval hW hk
theorem stateAsksUpto_holds : Rows.StateAsksUptoSaid :=
  OpenClaim.holds_of_cond 4 Tryz.f4 rfl rfl rfl rfl rfl rfl rfl ⟨rfl, rfl, rfl, rfl, rfl⟩ rfl rfl rfl rfl rfl (by kernel_rfl) Tryz.func4 (by kernel_rfl)
    (of_decide_eq_true (by kernel_rfl)) (by unfold Func.isWrapper; first | (rw [if_pos (by decide +kernel)]; kernel_rfl) | (rw [if_neg (by decide +kernel)]; exact ⟨rfl, rfl⟩))
    (fun os started H enc _ F => stateAsks_lifted os started H enc F)
end Go.Proofs.YtpfbfhigelbfcaaGreat

