/- The statement HexReads of layer 3: which bytes any text is, or that it is none, is what the document's own answer says; the law returns true. -/
import Derived.Test.YtgmndmpkkloekaaHexL
namespace Go.Proofs.Ytgmndmpkkloekaa
set_option linter.unusedVariables false
open Go.RowKit Go.Lib Go.ChangeShapes Go.WideShapes Go.ChangeAt

theorem hreads_walk (s : ByteArray) (w : World) (hs : s.size ≤ 140737488355328) :
    Calls Try.prog 4 #[.string s] w fun e w' => e = .returned (.bool true) ∧ Below w.heap.size w w' := by
  have hs2 : s.size ≤ 281474976710656 := by omega
  go_enter Try.func4, Try.ntmps4
  go_wp2_with fail
  refine (hread_any _ _ hs2).mono ?_
  rintro e w1 ⟨h1, hb1⟩
  have HB1 := Lib.hid hb1
  clear hb1
  rcases h1 with ⟨hn, rfl⟩ | ⟨ys, v, hy, rfl, hob1⟩
  · have HN := Lib.hid hn
    clear hn
    go_wp2_with fail
    refine (hrefread_any _ _ hs).mono ?_
    rintro e w2 ⟨h2, hb2⟩
    rw [HN.out] at h2
    rcases h2 with ⟨_, rfl⟩ | ⟨ys, v, hy, _⟩
    · have HB2 := Lib.hid (below_step HB1.out hb2)
      clear hb2
      go_wp2_with fail
      refine (same_any _ _ _ _ _ _ [] [] _ (Nat.zero_le _) (Nat.zero_le _) (Bs.empty _ _) (Bs.empty _ _)).mono ?_
      rintro e w3 ⟨rfl, q, rfl⟩
      go_wp2_with fail
      refine (hlives_any _).mono ?_
      rintro e w3 ⟨rfl, hb3⟩
      have HB3 := Lib.hid (below_step (below_drewN HB2.out q) hb3)
      clear hb3
      go_wp2
      go_ret
      exact ⟨rfl, HB3.out⟩
    · cases hy
  · have HN := Lib.hid hy
    obtain ⟨p1, c1, hv1, hlc1, hcm1, hbs1, hpc1⟩ := hob1.open
    subst hv1
    have HX1 := Lib.hid hbs1
    have hl1 : ys.length ≤ maxLen := by omega
    clear hy hob1 hbs1 hpc1
    go_wp2_with fail
    refine (hrefread_any _ _ hs).mono ?_
    rintro e w2 ⟨h2, hb2⟩
    rw [HN.out] at h2
    rcases h2 with ⟨hn, _⟩ | ⟨ys2, v2, hy2, rfl, hob2⟩
    · cases hn
    · simp only [Option.some.injEq] at hy2
      subst hy2
      obtain ⟨p2, c2, hv2, hlc2, hcm2, hbs2, hpc2⟩ := hob2.open
      subst hv2
      have HX2 := Lib.hid hbs2
      have HX1' := Lib.hid (HX1.out.later hb2)
      have HB2 := Lib.hid (below_step HB1.out hb2)
      clear hb2 hob2 hbs2 hpc2
      go_wp2_with fail
      refine (same_any _ _ _ _ _ _ ys ys _ hl1 hl1 HX1'.out HX2.out).mono ?_
      rintro e w3 ⟨rfl, q, rfl⟩
      have hd : decide (ys = ys) = true := by simp
      rw [hd]
      go_wp2_with fail
      refine (hlives_any _).mono ?_
      rintro e w3 ⟨rfl, hb3⟩
      have HB3 := Lib.hid (below_step (below_drewN HB2.out q) hb3)
      clear hb3
      go_wp2
      go_ret
      exact ⟨rfl, HB3.out⟩

theorem hexReads_contract (H : Type) (enc : TypeId × Value → H) (W : World) (base : Nat) (args : Array Value) (ds gs : List (DataW H)) (before : List MemPlace)
    (hval : ∀ (j : Nat) t v, Try.f4.params[j]? = some t → args[j]? = some v → Value.okWide Try.prog W .any base t v)
    (hW : DataW.Whole enc Try.prog Try.f4.params.toList Rows.hexReadsSpec.vars false W args.toList ds gs before) (hsz : (DataW.weightsEach Try.prog (Try.f4.params.toList ++ Rows.hexReadsSpec.plain.varTypes Try.prog) (ds ++ gs)).all (· ≤ reachBytes) = true) :
    Calls Try.prog 4 args W fun e W' => ∃ v, e = .returned v ∧ Rows.hexReadsSpec.post enc Try.prog Try.f4 false true false false W args v W' := by
  have hW' := hW
  obtain ⟨p, q, hA0, hV, rfl, hfz, hnd⟩ := hW
  have hA : DataW.TrodAll enc Try.prog W 0 (fun _ => true) true Try.f4.params.toList args.toList ds p := hA0
  rw [Try.params4] at hA hval
  obtain ⟨v0, vs0, d0, ds0, p0, q0, hargs, rfl, rfl, t0, r0⟩ := trodAll_cons hA
  obtain ⟨rfl, rfl, rfl⟩ := trodAll_nil r0
  obtain rfl : args = #[v0] := by cases args; simp_all
  obtain ⟨rfl, rfl⟩ := trodVars_none hV
  obtain ⟨s0, rfl, rfl, rfl, hs0⟩ := Go.ChangeMaps.open_string Try.underlying9 (hval 0 9 v0 rfl rfl) t0
  have hz0 : s0.size ≤ reachBytes := by have hh := sized_string (j := 0) hsz (by rfl) (by rfl); rw [Array.length_toList] at hh; exact hh
  refine (hreads_walk s0 W (by unfold reachBytes at hz0; omega)).mono fun e W' ⟨he, hb⟩ => ?_
  subst he
  exact ⟨_, rfl, law_post laidOut (by kernel_rfl) rfl Try.underlying4 rfl hW' rfl rfl rfl hb⟩

set_option maxRecDepth 100000 in
theorem hexReads_lifted (os : Os) (started : os.Started) (H : Type) (enc : TypeId × Value → H) :
    ReturnsInHanded {} Try.checked os 4 .any (Rows.hexReadsSpec.pre6 enc Try.prog Try.f4 Rows.hexReadsRow.domain false) (Rows.hexReadsSpec.post enc Try.prog Try.f4 false true false false) := by
  refine returnsInHanded_of_change_sized (C := Try.checked) own started (by kernel_rfl) Try.func4
    (ChangeSpec.witness6 (enc := enc) (C := Try.checked) false ⟨#[], #[.string ⟨#[]⟩], []⟩ 8 (by kernel_rfl) (by kernel_rfl) (by kernel_rfl) (by kernel_rfl)) ?_
  intro W base args ds gs before hval hW _ hsz _
  exact hexReads_contract H enc W base args ds gs before hval hW hsz

theorem hexReads_holds : Rows.HexReadsSaid :=
  OpenClaim.holds_of_wide 4 Try.f4 rfl rfl rfl rfl rfl rfl rfl ⟨rfl, rfl, rfl, rfl, rfl⟩ rfl rfl rfl rfl rfl (by kernel_rfl) Try.func4 (by kernel_rfl)
    (of_decide_eq_true (by kernel_rfl)) (by unfold Func.isWrapper; first | (rw [if_pos (by decide +kernel)]; kernel_rfl) | (rw [if_neg (by decide +kernel)]; exact ⟨rfl, rfl⟩))
    (fun os started H enc _ => hexReads_lifted os started H enc)
