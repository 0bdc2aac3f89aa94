/- Layer 17, the program: readLine -/
import Derived.Test.YtahjofjblhpndaaDoorMn29
import Derived.Test.YtahjofjblhpndaaDoorMn30
import Derived.RangeFuncBox
set_option linter.unusedSimpArgs false
set_option linter.unusedVariables false
namespace Go.Proofs.YtahjofjblhpndaaDoor
set_option linter.unusedVariables false
open Go.RowKit Go.Lib

theorem hp_take (s p : ByteArray) {l : List Int} (hp : numsOf p = l) : Lib.hasPrefix s.data.toList p.data.toList = decide ((numsOf s).take l.length = l) := by
  subst hp
  rw [Bool.eq_iff_iff, decide_eq_true_iff]
  unfold Lib.hasPrefix
  rw [List.isPrefixOf_iff_prefix, List.prefix_iff_eq_take]
  have e1 : numsOf s = s.data.toList.map fun c => (c.toNat : Int) := rfl
  have e2 : numsOf p = p.data.toList.map fun c => (c.toNat : Int) := rfl
  have e3 : (numsOf p).length = p.data.toList.length := by rw [e2, List.length_map]
  rw [e3, e1, e2, ← List.map_take]
  exact ⟨fun h => by rw [← h], fun h => (nats_inj h).symm⟩
theorem trim_yes (s p : ByteArray) {l : List Int} (hp : numsOf p = l) (h : (numsOf s).take l.length = l) : numsOf ⟨(Lib.trimPrefix s.data.toList p.data.toList).toArray⟩ = (numsOf s).drop l.length := by
  have h1 := hp_take s p hp
  rw [decide_eq_true h] at h1
  have e3 : l.length = p.data.toList.length := by rw [← hp]; exact List.length_map _
  rw [Lib.trimPrefix, if_pos h1, e3]
  show List.map _ _ = _
  rw [List.map_drop]
  rfl
theorem trim_no (s p : ByteArray) {l : List Int} (hp : numsOf p = l) (h : ¬ (numsOf s).take l.length = l) : (⟨(Lib.trimPrefix s.data.toList p.data.toList).toArray⟩ : ByteArray) = s := by
  have h1 := hp_take s p hp
  rw [decide_eq_false h] at h1
  rw [Lib.trimPrefix, if_neg (by rw [h1]; decide)]
set_option maxRecDepth 100000 in
theorem mspl_any (s p : ByteArray) (b : Nat) (w : World) (hb : Boxed w b 9 (.string s)) :
    Calls Tryd.prog 31 #[.string p, .pointer (some ⟨b, 0, none⟩)] w fun e w' => e = .returned (.bool (Lib.hasPrefix s.data.toList p.data.toList)) ∧ w.setCell ⟨b, 0, none⟩ (.string ⟨(Lib.trimPrefix s.data.toList p.data.toList).toArray⟩) = w' := by
  have HC := Lib.hid fun W => cut_any s p W
  have hc := hb.cell
  have hf := hb.frozen
  clear hb
  generalize Lib.hasPrefix s.data.toList p.data.toList = R at *
  generalize (⟨(Lib.trimPrefix s.data.toList p.data.toList).toArray⟩ : ByteArray) = t at *
  go_enter Tryd.func31, Tryd.ntmps31
  go_wp2_with fail
  refine (HC.out _).mono ?_
  rintro e w1 ⟨rfl, rfl⟩
  go_wp2
  go_ret
  exact ⟨rfl, rfl⟩
theorem opt_dg {o : Option Rf} (h : ∀ r, o = some r → dok r.dg) : (o.getD rf0).dg.length = 32 := by
  cases o with
  | none => rfl
  | some r => exact (h r rfl).1
theorem numsBlo : numsOf ⟨#[98, 108, 111, 98, 32]⟩ = bloPre := by decide
theorem numsMan : numsOf ⟨#[109, 97, 110, 105, 102, 101, 115, 116, 32]⟩ = manPre := by decide
theorem trim_sz (s p : ByteArray) : (⟨(Lib.trimPrefix s.data.toList p.data.toList).toArray⟩ : ByteArray).size ≤ s.size := by
  have h1 : (⟨(Lib.trimPrefix s.data.toList p.data.toList).toArray⟩ : ByteArray).size = (Lib.trimPrefix s.data.toList p.data.toList).length := rfl
  have : s.data.toList.length = s.size := by simp
  rw [h1, Lib.trimPrefix]
  split
  · rw [List.length_drop]; omega
  · omega
set_option maxRecDepth 100000 in
set_option maxHeartbeats 1000000 in
theorem mrline_any (s : ByteArray) (w : World) (hs : s.size ≤ 140737488355328) (hL : Lw w) :
    Calls Tryd.prog 20 #[.string s] w fun e w' => e = .returned (.tuple #[((rdL (numsOf s)).getD rf0).v, .bool (rdL (numsOf s)).isSome]) ∧ Below w.heap.size w w' := by
  rw [← rlC_rdL]
  obtain ⟨wA, hA⟩ : ∃ W, w.alloc (.cells rf0C 41) = W := ⟨_, rfl⟩
  obtain ⟨wB, hB⟩ : ∃ W, wA.alloc (.cells #[.string s] 9) = W := ⟨_, rfl⟩
  have hF0 := Fm.zero hA
  have hBA : Below w.heap.size w wA := by rw [← hA]; exact (Below.refl _ _).alloc (Nat.le_refl _) _
  have hSA : wA.heap.size = w.heap.size + 1 := by rw [← hA]; simp
  have hBB : Below wA.heap.size wA wB := by rw [← hB]; exact (Below.refl _ _).alloc (Nat.le_refl _) _
  have hX0 : Boxed wB wA.heap.size 9 (.string s) := by rw [← hB]; exact Boxed.new _ _ _
  obtain ⟨g, hg⟩ : ∃ g, wA.heap.size = g := ⟨_, rfl⟩
  rw [hg] at hX0
  have HG : Hid (g = w.heap.size + 1) := Lib.hid (by omega)
  have HF : Hid (Fm wB w.heap.size rf0) := Lib.hid (hF0.later hBB)
  have HB : Hid (Below w.heap.size w wB) := Lib.hid (below_step hBA hBB)
  have HX := Lib.hid hX0
  have HLW := Lib.hid hL
  have hSB : g < wB.heap.size := hX0.lt
  have HP1 := Lib.hid fun (W : World) (h : Boxed W g 9 (.string s)) => mspl_any s ⟨#[98, 108, 111, 98, 32]⟩ g W h
  have hst : ∀ (W : World) (v x : Value), Fm W w.heap.size rf0 → Below w.heap.size w W → Boxed W g 9 x → Fm (W.setCell ⟨g, 0, none⟩ v) w.heap.size rf0 ∧ Below w.heap.size w (W.setCell ⟨g, 0, none⟩ v) ∧ Boxed (W.setCell ⟨g, 0, none⟩ v) g 9 v := fun W v x h1 h2 h3 =>
    ⟨h1.other _ _ (by show w.heap.size ≠ g; omega), h2.setCell (p := ⟨g, 0, none⟩) (by show w.heap.size ≤ g; omega) v, h3.set v⟩
  have HST := Lib.hid hst
  rw [rf0C] at hA
  have hp1 := hp_take s ⟨#[98, 108, 111, 98, 32]⟩ numsBlo
  have hz1 := trim_sz s ⟨#[98, 108, 111, 98, 32]⟩
  by_cases h5 : (numsOf s).take 5 = bloPre
  · have hR : rlC (numsOf s) = rbC ((numsOf s).drop 5) := by unfold rlC; rw [if_pos h5]
    have ht : numsOf ⟨(Lib.trimPrefix s.data.toList (⟨#[98, 108, 111, 98, 32]⟩ : ByteArray).data.toList).toArray⟩ = (numsOf s).drop 5 := trim_yes s _ numsBlo h5
    rw [hp1, decide_eq_true (show (numsOf s).take bloPre.length = bloPre from h5)] at HP1
    generalize (⟨(Lib.trimPrefix s.data.toList (⟨#[98, 108, 111, 98, 32]⟩ : ByteArray).data.toList).toArray⟩ : ByteArray) = t at *
    rw [hR, ← ht]
    have HRB := Lib.hid fun W hW => mrblob_any t W (by omega) hW
    have HXD : Hid (((rbC (numsOf t)).getD rf0).dg.length = 32) := Lib.hid (opt_dg fun r h => (rbC_lnr h).2.2.1)
    unfold Rf.v at HRB
    obtain ⟨X, hX⟩ : ∃ X, (rbC (numsOf t)).getD rf0 = X := ⟨_, rfl⟩
    obtain ⟨bo, hbo⟩ : ∃ X, (rbC (numsOf t)).isSome = X := ⟨_, rfl⟩
    rw [hX, hbo] at HRB ⊢
    rw [hX] at HXD
    clear hF0 hBA hSA hBB hX0 hL hSB hst hp1 hz1 h5 hR ht hX hbo hs
    go_enter Tryd.func20, Tryd.ntmps20
    go_wp2_with (first
      | (go_at_call 31; refine (HP1.out _ HX.out).mono ?_; rintro e w1 ⟨rfl, hw1⟩; have h3 := HST.out _ (.string t) _ HF.out HB.out HX.out; rw [hw1] at h3; have H3 := Lib.hid h3; have hc1 := h3.2.2.cell; clear h3 hw1)
      | (go_at_call 32; refine (HRB.out _ (HLW.out.later H3.out.2.1)).mono ?_; rintro e w5 ⟨rfl, hb5⟩; have HF5 : Hid (Fm w5 w.heap.size rf0) := Lib.hid (H3.out.1.later hb5); have HB5 := Lib.hid (below_step H3.out.2.1 hb5); clear hb5)
      | (refine wpList_store_row rfl 41 _ _ rfl w.heap.size _ rfl rfl 41 _ HF5.out (Rf.sizeOf X HXD.out) (Rf.sizes rf0 X rfl HXD.out) X.one ?_; generalize hw4 : World.setRow _ _ _ = w4; have HF4 : Hid (Fm w4 w.heap.size X) := Lib.hid (by rw [← hw4]; exact HF5.out.row); have HB4 := Lib.hid (row_below HB5.out (Nat.le_refl _) hw4)))
    refine bodyPost_ret (HF4.out.res2 HXD.out rfl _ rfl) rfl ⟨rfl, HB4.out⟩
  · have e1 := trim_no s ⟨#[98, 108, 111, 98, 32]⟩ numsBlo h5
    rw [hp1, decide_eq_false (show ¬ (numsOf s).take bloPre.length = bloPre from h5), e1] at HP1
    have HP2 := Lib.hid fun (W : World) (h : Boxed W g 9 (.string s)) => mspl_any s ⟨#[109, 97, 110, 105, 102, 101, 115, 116, 32]⟩ g W h
    have hp2 := hp_take s ⟨#[109, 97, 110, 105, 102, 101, 115, 116, 32]⟩ numsMan
    have hz2 := trim_sz s ⟨#[109, 97, 110, 105, 102, 101, 115, 116, 32]⟩
    by_cases h9 : (numsOf s).take 9 = manPre
    · have hR : rlC (numsOf s) = rmC ((numsOf s).drop 9) := by unfold rlC; rw [if_neg h5, if_pos h9]
      have ht : numsOf ⟨(Lib.trimPrefix s.data.toList (⟨#[109, 97, 110, 105, 102, 101, 115, 116, 32]⟩ : ByteArray).data.toList).toArray⟩ = (numsOf s).drop 9 := trim_yes s _ numsMan h9
      rw [hp2, decide_eq_true (show (numsOf s).take manPre.length = manPre from h9)] at HP2
      generalize (⟨(Lib.trimPrefix s.data.toList (⟨#[109, 97, 110, 105, 102, 101, 115, 116, 32]⟩ : ByteArray).data.toList).toArray⟩ : ByteArray) = t at *
      rw [hR, ← ht]
      have HRB := Lib.hid fun W => mrman_any t W (by omega)
      have HXD : Hid (((rmC (numsOf t)).getD rf0).dg.length = 32) := Lib.hid (opt_dg fun r h => (rmC_lnr h).2.2.1)
      unfold Rf.v at HRB
      obtain ⟨X, hX⟩ : ∃ X, (rmC (numsOf t)).getD rf0 = X := ⟨_, rfl⟩
      obtain ⟨bo, hbo⟩ : ∃ X, (rmC (numsOf t)).isSome = X := ⟨_, rfl⟩
      rw [hX, hbo] at HRB ⊢
      rw [hX] at HXD
      clear hF0 hBA hSA hBB hX0 hL hSB hst hp1 hp2 hz1 hz2 h5 h9 hR ht hX hbo hs e1
      go_enter Tryd.func20, Tryd.ntmps20
      go_upto_region 5 with (first
        | (go_at_call 31; refine (HP1.out _ HX.out).mono ?_; rintro e w1 ⟨rfl, hw1⟩; have h3 := HST.out _ (.string s) _ HF.out HB.out HX.out; rw [hw1] at h3; have H3 := Lib.hid h3; clear h3 hw1))
      go_wp2_with (first
        | (go_at_call 31; refine (HP2.out _ H3.out.2.2).mono ?_; rintro e w2 ⟨rfl, hw2⟩; have h4 := HST.out _ (.string t) _ H3.out.1 H3.out.2.1 H3.out.2.2; rw [hw2] at h4; have H4 := Lib.hid h4; have hc1 := h4.2.2.cell; clear h4 hw2)
        | (go_at_call 33; refine (HRB.out _).mono ?_; rintro e w5 ⟨rfl, hb5⟩; have HF5 : Hid (Fm w5 w.heap.size rf0) := Lib.hid (H4.out.1.later hb5); have HB5 := Lib.hid (below_step H4.out.2.1 hb5); clear hb5)
        | (refine wpList_store_row rfl 41 _ _ rfl w.heap.size _ rfl rfl 41 _ HF5.out (Rf.sizeOf X HXD.out) (Rf.sizes rf0 X rfl HXD.out) X.one ?_; generalize hw4 : World.setRow _ _ _ = w4; have HF4 : Hid (Fm w4 w.heap.size X) := Lib.hid (by rw [← hw4]; exact HF5.out.row); have HB4 := Lib.hid (row_below HB5.out (Nat.le_refl _) hw4)))
      refine bodyPost_ret (HF4.out.res2 HXD.out rfl _ rfl) rfl ⟨rfl, HB4.out⟩
    · have hR : rlC (numsOf s) = none := by unfold rlC; rw [if_neg h5, if_neg h9]
      have e2 := trim_no s ⟨#[109, 97, 110, 105, 102, 101, 115, 116, 32]⟩ numsMan h9
      rw [hp2, decide_eq_false (show ¬ (numsOf s).take manPre.length = manPre from h9), e2] at HP2
      rw [hR]
      clear hF0 hBA hSA hBB hX0 hL hSB hst hp1 hp2 hz1 hz2 h5 h9 hR hs e1 e2
      go_enter Tryd.func20, Tryd.ntmps20
      go_upto_region 5 with (first
        | (go_at_call 31; refine (HP1.out _ HX.out).mono ?_; rintro e w1 ⟨rfl, hw1⟩; have h3 := HST.out _ (.string s) _ HF.out HB.out HX.out; rw [hw1] at h3; have H3 := Lib.hid h3; clear h3 hw1))
      go_wp2_with (first
        | (go_at_call 31; refine (HP2.out _ H3.out.2.2).mono ?_; rintro e w2 ⟨rfl, hw2⟩; have h4 := HST.out _ (.string s) _ H3.out.1 H3.out.2.1 H3.out.2.2; rw [hw2] at h4; have H4 := Lib.hid h4; clear h4 hw2)
        | (refine wpList_build_is rfl 41 _ rfl (mixC rf0.a rf0.dg rf0.t) ?_ ?_; focus (kernel_rfl))
        | (refine wpList_store_row rfl 41 _ _ rfl w.heap.size _ rfl rfl 41 _ H4.out.1 (Rf.sizeOf rf0 rfl) (Rf.sizes rf0 rf0 rfl rfl) rf0.one ?_; generalize hw4 : World.setRow _ _ _ = w4; have HF4 : Hid (Fm w4 w.heap.size rf0) := Lib.hid (by rw [← hw4]; exact H4.out.1.row); have HB4 := Lib.hid (row_below H4.out.2.1 (Nat.le_refl _) hw4)))
      refine bodyPost_ret (HF4.out.res2 rfl rfl _ rfl) rfl ⟨rfl, HB4.out⟩
end Go.Proofs.YtahjofjblhpndaaDoor
