/- The statement ShaPieces of layer 4, where what came in is of bulk at most 1048576: however bytes are cut into pieces, their digest is that of all of them, also when it is asked for in between; the law returns true. -/
import Derived.Test.YtmnomdghelcdjaaDoorShaK
import Derived.Test.YtmnomdghelcdjaaDoorShaC
import Derived.Deep.Matrix
import Derived.Deep.Grids
namespace Go.Proofs.YtmnomdghelcdjaaDoor
set_option linter.unusedVariables false
open Go.RowKit Go.Lib Go.ChangeShapes Go.WideShapes Go.ChangeAt

theorem cat_mono (Z : Nat → List Int) : ∀ {k n : Nat}, k ≤ n → (cat Z k).length ≤ (cat Z n).length
  | k, 0, h => by obtain rfl : k = 0 := by omega
                  exact Nat.le_refl _
  | k, n + 1, h => by
    by_cases e : k = n + 1
    · subst e; exact Nat.le_refl _
    · have := cat_mono Z (k := k) (n := n) (by omega)
      simp only [cat, List.length_append]
      omega
theorem bulkAll_append {H : Type} (xs ys : List (DataW H)) : Rows.uptoBulkAll (xs ++ ys) = Rows.uptoBulkAll xs + Rows.uptoBulkAll ys := by
  induction xs with
  | nil => simp [Rows.uptoBulkAll]
  | cons x xs ih => simp only [List.cons_append, Rows.uptoBulkAll, ih]; omega
theorem bulk_row {H : Type} (A : Option Addr) (L : Nat) (Z : List Int) (hn : A = none → Z.length = 0) (hl : L ≤ Z.length) : L + 1 ≤ Rows.uptoBulk (Go.Deep.intRow (H := H) .u8 A L Z) := by
  cases A with
  | none => have := hn rfl; simp [Go.Deep.intRow, Rows.uptoBulk]; omega
  | some a => simp only [Go.Deep.intRow, Rows.uptoBulk, bulk_lits, List.length_take, List.length_drop]; omega
theorem bulk_rows {H : Type} (A : Nat → Option Addr) (L : Nat → Nat) (Z Z' : Nat → List Int) (D : Nat → DataW H) : ∀ n, (∀ r, r < n → (Z' r).length + 1 ≤ Rows.uptoBulk (D r)) → (cat Z' n).length + n ≤ Rows.uptoBulkAll ((List.range n).map D)
  | 0, _ => by simp [cat]
  | n + 1, h => by
    have h1 := bulk_rows A L Z Z' D n (fun r hr => h r (by omega))
    have h2 := h n (Nat.lt_succ_self n)
    rw [List.range_succ, List.map_append, bulkAll_append]
    simp only [cat, List.length_append, List.map_cons, List.map_nil, Rows.uptoBulkAll]
    omega

theorem open_pieces {H : Type} {enc : TypeId × Value → H} {W : World} {base : Nat} {held : Bool} {fuel : Nat} {p : Option Addr} {n c : Nat} {x : DataW H × List MemPlace}
    (h : DataW.trod enc Tryd.prog W base (fun _ => true) held fuel 28 [.slice p n c] = some x) :
    ∃ A L C Z, Pc W p n A L C Z ∧ (cat Z n).length + n ≤ Rows.uptoBulk x.1 := by
  rcases Go.Deep.open_int_rows Tryd.underlying28 Tryd.underlying22 Tryd.underlying5 (by kernel_rfl) (by kernel_rfl) h with ⟨hcs, hx⟩ | ⟨a, len, cap, A, L, C, Z, hcs, _, hl, hm, hx, hr⟩
  · simp only [List.cons.injEq, Value.slice.injEq, and_true] at hcs
    obtain ⟨rfl, rfl, rfl⟩ := hcs
    exact ⟨fun _ => none, fun _ => 0, fun _ => 0, fun _ => [], fun r hr => absurd hr (by omega), by simp [cat]⟩
  · simp only [List.cons.injEq, Value.slice.injEq, and_true] at hcs
    obtain ⟨rfl, rfl, rfl⟩ := hcs
    refine ⟨A, L, C, fun r => (Z r).take (L r), fun r hrn => ?_, ?_⟩
    · obtain ⟨h1, h2, h3, h4, h5, h6, h7⟩ := hr r (by omega)
      obtain ⟨b, off, spot⟩ := a
      have hspot : spot = none := by
        have := World.cell?_spot (hr 0 (by omega)).1
        simpa [Addr.add] using this
      subst hspot
      rw [WideShapes.add_plain] at h1
      refine ⟨⟨b, off, rfl, h1⟩, h2, h3, h6, ?_⟩
      have hlen : ((Z r).take (L r)).length = L r := by rw [List.length_take, h4]; omega
      have hby : ∀ j, 0 ≤ ((Z r).take (L r)).getD j 0 ∧ ((Z r).take (L r)).getD j 0 < 256 := by
        refine bytes_take (fun j => ?_) _
        by_cases hj : j < (Z r).length
        · have hmem : (Z r).getD j 0 ∈ Z r := by
            rw [List.getD_eq_getElem?_getD, List.getElem?_eq_getElem hj]
            exact List.getElem_mem hj
          have := h5 _ hmem
          simp only [Lit.wf, Bool.and_eq_true, decide_eq_true_eq] at this
          have e1 : IntKind.u8.min = 0 := rfl
          have e2 : IntKind.u8.max = 255 := rfl
          omega
        · rw [List.getD_eq_getElem?_getD, List.getElem?_eq_none (by omega)]; simp
      refine ⟨hlen, hby, ?_⟩
      by_cases h0 : L r = 0
      · exact Or.inl h0
      · right
        cases hA : A r with
        | none => have := h6 hA; omega
        | some a' =>
          obtain ⟨_, hc⟩ := h7 a' hA
          obtain ⟨b', off', spot'⟩ := a'
          have hs' : spot' = none := by
            have := World.cell?_spot (hc 0 (by omega))
            simpa [Addr.add] using this
          subst hs'
          refine ⟨b', off', rfl, fun j hj => ?_⟩
          have := hc j (by omega)
          rw [WideShapes.add_plain] at this
          rw [this]
          simp [List.getD_eq_getElem?_getD, hj]
    · have hb := bulk_rows (H := H) A L Z (fun r => (Z r).take (L r)) (fun r => Go.Deep.intRow .u8 (A r) (L r) (Z r)) n (fun r hrn => by
        obtain ⟨h1, h2, h3, h4, h5, h6, h7⟩ := hr r (by omega)
        have := bulk_row (H := H) (A r) (L r) (Z r) (fun e => by rw [h4]; exact h6 e) (by omega)
        rw [List.length_take, h4]
        omega)
      subst hx
      simp only [Rows.uptoBulk]
      omega
theorem open_bo {H : Type} {enc : TypeId × Value → H} {W : World} {base : Nat} {held : Bool} {fuel : Nat} {p : Option Addr} {n c : Nat} {x : DataW H × List MemPlace}
    (h : DataW.trod enc Tryd.prog W base (fun _ => true) held fuel 29 [.slice p n c] = some x) : ∃ F, Bo W p n F ∧ n ≤ maxLen := by
  rcases Go.Deep.open_bools Tryd.underlying29 Tryd.underlying4 (by kernel_rfl) h with ⟨hcs, hx⟩ | ⟨a, len, cap, F, hcs, _, hl, hm, hx, hr⟩
  · simp only [List.cons.injEq, Value.slice.injEq, and_true] at hcs
    obtain ⟨rfl, rfl, rfl⟩ := hcs
    exact ⟨fun _ => false, fun r hr => absurd hr (by omega), by simp⟩
  · simp only [List.cons.injEq, Value.slice.injEq, and_true] at hcs
    obtain ⟨rfl, rfl, rfl⟩ := hcs
    refine ⟨F, fun r hrn => ?_, by omega⟩
    have h1 := hr r (by omega)
    obtain ⟨b, off, spot⟩ := a
    have hspot : spot = none := by
      have := World.cell?_spot (hr 0 (by omega))
      simpa [Addr.add] using this
    subst hspot
    rw [WideShapes.add_plain] at h1
    exact ⟨b, off, rfl, h1⟩

theorem shaPieces_contract (H : Type) (enc : TypeId × Value → H) (W : World) (base : Nat) (args : Array Value) (ds gs : List (DataW H)) (before : List MemPlace)
    (hval : ∀ (j : Nat) t v, Tryd.f4.params[j]? = some t → args[j]? = some v → Value.okWide Tryd.prog W .any base t v)
    (hW : DataW.Whole enc Tryd.prog Tryd.f4.params.toList Rows.shaPiecesSpec.vars false W args.toList ds gs before) (hL : laidMetH Tryd.prog Rows.shaPiecesUptoRow.laid W) (hk : Rows.uptoSmall H (ds ++ gs) = true) :
    Calls Tryd.prog 4 args W fun e W' => ∃ v, e = .returned v ∧ Rows.shaPiecesSpec.post enc Tryd.prog Tryd.f4 false true false false W args v W' := by
  have hW' := hW
  obtain ⟨p, q, hA0, hV, rfl, hfz, hnd⟩ := hW
  have hA : DataW.TrodAll enc Tryd.prog W 0 (fun _ => true) true Tryd.f4.params.toList args.toList ds p := hA0
  rw [Tryd.params4] at hA hval
  obtain ⟨v0, vs0, d0, ds0, p0, q0, hargs, rfl, rfl, t0, r0⟩ := trodAll_cons hA
  obtain ⟨v1, vs1, d1, ds1, p1, q1, rfl, rfl, rfl, t1, r1⟩ := trodAll_cons r0
  obtain ⟨rfl, rfl, rfl⟩ := trodAll_nil r1
  obtain rfl : args = #[v0, v1] := by cases args; simp_all
  obtain ⟨rfl, rfl⟩ := trodVars_none hV
  obtain ⟨a0, len0, cap0, rfl⟩ := okWide_slice Tryd.underlying28 (hval 0 28 v0 rfl rfl)
  obtain ⟨a1, len1, cap1, rfl⟩ := okWide_slice Tryd.underlying29 (hval 1 29 v1 rfl rfl)
  obtain ⟨fuel0, t0⟩ := t0
  obtain ⟨fuel1, t1⟩ := t1
  obtain ⟨A, L, C, Z, hP, hb0⟩ := open_pieces t0
  obtain ⟨F, hB, hm⟩ := open_bo t1
  have hk' := of_decide_eq_true hk
  simp only [Rows.uptoBulkAll, List.append_nil] at hk'
  replace hb0 : (cat Z len0).length + len0 ≤ Rows.uptoBulk d0 := hb0
  refine (shapieces_walk a0 a1 len0 cap0 len1 cap1 A L C Z F W hP hB (by omega) hm (fun k hkn => by have := cat_mono Z hkn; omega) (kw_of_laid hL)).mono fun e W' ⟨he, hb⟩ => ?_
  subst he
  exact ⟨_, rfl, law_post laidOut (by kernel_rfl) rfl Tryd.underlying4 rfl hW' rfl rfl rfl hb⟩

theorem shaPiecesUpto_met (os : Os) : laidMet Tryd.prog Rows.shaPiecesUptoRow.laid ((laidWorld os).forCall (fun _ _ => 0) ⟨#[], #[.slice none 0 0, .slice none 0 0], []⟩).memory :=
  laidMet_of_run' 8 (by kernel_rfl) (by kernel_rfl)
theorem shaPiecesUpto_reads (os : Os) {H : Type} (enc : TypeId × Value → H) : ∃ places, DataW.whole enc Tryd.prog ((laidWorld os).forCall (fun _ _ => 0) ⟨#[], #[.slice none 0 0, .slice none 0 0], []⟩).memory Tryd.f4.params.toList Rows.shaPiecesSpec.vars false (#[.slice none 0 0, .slice none 0 0] : Array Value).toList 8 = some ([.nil, .nil], [], places) :=
  ⟨[], by kernel_rfl⟩

set_option maxRecDepth 100000 in
theorem shaPiecesUpto_lifted (os : Os) (started : os.Started) (H : Type) (enc : TypeId × Value → H) (F : Stop.Interp) :
    ReturnsInHanded {} Tryd.checked os 4 .any ((Rows.OpenSpec.upto Rows.shaPiecesSpec).preRow enc Tryd.prog Tryd.f4 Rows.shaPiecesUptoRow.domain false Rows.shaPiecesUptoRow.laid) (((Rows.OpenSpec.upto Rows.shaPiecesSpec).at F).post enc Tryd.prog Tryd.f4 false true false false) := by
  obtain ⟨places, hx⟩ := shaPiecesUpto_reads os enc
  refine returnsInHanded_of_row (C := Tryd.checked) (s := Rows.OpenSpec.upto Rows.shaPiecesSpec) own started (by kernel_rfl) Tryd.func4
    (witness_row_at (enc := enc) (C := Tryd.checked) false (laidWorld os) #[.slice none 0 0, .slice none 0 0] rfl (by kernel_rfl) (by kernel_rfl) (by kernel_rfl)
      (OpenSpec.preRow_of_cond 8 hx (by kernel_rfl) (fun k hk => by cases hk; kernel_rfl) (by kernel_rfl) (shaPiecesUpto_met os))) ?_
  intro W base args ds gs before hval hW _ hcond _ hL _ _
  exact shaPieces_contract H enc W base args ds gs before hval hW hL (hcond _ rfl)

theorem shaPiecesUpto_said : Rows.ShaPiecesUptoSaid :=
  OpenClaim.holds_of_cond 4 Tryd.f4 rfl rfl rfl rfl rfl rfl rfl ⟨rfl, rfl, rfl, rfl, rfl⟩ rfl rfl rfl rfl rfl (by kernel_rfl) Tryd.func4 (by kernel_rfl)
    (of_decide_eq_true (by kernel_rfl)) (by unfold Func.isWrapper; first | (rw [if_pos (by decide +kernel)]; kernel_rfl) | (rw [if_neg (by decide +kernel)]; exact ⟨rfl, rfl⟩))
    (fun os started H enc _ F => by rw [OpenClaim.pre_eq_preRow]; exact shaPiecesUpto_lifted os started H enc F)

theorem shaPieces_plain (f : FuncId) (fn : Func) (hf : Tryd.pinned.checked.prog.funcNamed "stillage/stillagelaw04.ShaPieces" = some f) (hfn : Tryd.pinned.checked.prog.funcs[f]? = some fn) :
    false = Tryd.pinned.checked.prog.looks [] ∧ ∀ (j : Nat) t, fn.params[j]? = some t → Tryd.pinned.checked.prog.wantsStandIn t = false := by
  obtain rfl : f = 4 := Option.some.inj ((show Tryd.prog.funcNamed "stillage/stillagelaw04.ShaPieces" = some 4 by kernel_rfl).symm.trans hf) |>.symm
  obtain rfl : fn = Tryd.f4 := (Option.some.inj (Tryd.func4.symm.trans hfn)).symm
  refine ⟨by kernel_rfl, fun j t ht => ?_⟩
  rw [Tryd.params4] at ht
  have hm := Array.mem_of_getElem? ht
  simp only [List.mem_toArray, List.mem_cons, List.not_mem_nil, or_false] at hm
  rcases hm with rfl | rfl
  · exact (show Tryd.prog.wantsStandIn 28 = false by kernel_rfl)
  · exact (show Tryd.prog.wantsStandIn 29 = false by kernel_rfl)

theorem shaPiecesUpto_card : Rows.ShaPiecesUptoCardSaid :=
  Claim7.holds_tied_plain_at .later [] _ _ _ _ shaPiecesUpto_said (fun _ h => by cases h) (by kernel_rfl) (fun _ h => by cases h) shaPiecesUpto_row_tie rfl ⟨rfl, rfl⟩ (by kernel_rfl) rfl shaPieces_plain (by kernel_rfl)
end Go.Proofs.YtmnomdghelcdjaaDoor
